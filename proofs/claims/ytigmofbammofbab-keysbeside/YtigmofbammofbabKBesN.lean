/- KeysBeside: the cases nA, nB, nC1, nC2 -/
import Derived.Test.YtigmofbammofbabKBesH
namespace Go.Proofs.Ytigmofbammofbab
open Go.RowKit

set_option maxRecDepth 100000 in
set_option maxHeartbeats 4000000 in
theorem bes_nA {w : World} {va vb : Value} {ra rb : Row} (ha : RowP w va ra) (hb : RowP w vb rb) (ca : cnt ra ≤ 131072) (cb : cnt rb ≤ 131072) (fr : faultR ra 0 ≠ 0) :
    Calls Try.prog 5 #[va, vb, .bool false] w fun e w' => e = .returned (.bool true) ∧ Kept [] w w' := by
  have HBa := hide (beyond_any ha)
  have HBb := hide (beyond_any hb)
  rw [show decide (131072 < cnt ra) = false by simp; omega] at HBa
  rw [show decide (131072 < cnt rb) = false by simp; omega] at HBb
  have HAW := hide (awake_any w)
  have HVA := hide (fun (w1 : World) (hk : Kept [] w w1) => values_any2 ra w1 va (ha.kept hk) (by omega))
  have HVU := hide (fun (w1 : World) (v : Value) (h : RowP w1 v rb) => values_any2 rb w1 v h (by omega))
  have HSP := hide (fun (S : Nat → Prop) (w1 : World) (v : Value) (h : RowV S w1 v ra) => span_any h (by omega))
  have HEN := hide (fun (S : Nat → Prop) (w1 : World) (v : Value) (h : RowV S w1 v rb) => enc_val2 h (by omega))
  have HRA := hide ha
  have HRB := hide hb
  have HFR := hide fr
  obtain ⟨F, hF⟩ : ∃ F, faultR ra 0 = F := ⟨_, rfl⟩
  have tF : ((F : Int) != 0) = true := by rw [← hF]; simp; omega
  have uF : ((F : Int) == 0) = false := by rw [← hF]; simp; omega
  have HFF := hide hF
  clear hF
  have hla := cnt_len ra
  have hlb := cnt_len rb
  obtain ⟨aa, acap, rfl, -⟩ := ha
  obtain ⟨ab, bcap, rfl, b1, b2, -⟩ := hb
  unfold maxLen at b2
  generalize hLR : ra.len = LR at *
  generalize hLB : rb.len = LB at *
  have HLR := hide hLR
  have HLB := hide hLB
  clear hLR hLB fr
  go_enter Try.func5, Try.ntmps5
  go_wp2_with (first
    | (go_at_call 8; refine (unhide HBa).mono ?_; rintro e w' ⟨rfl, hq⟩; have hq' := hq.symm; subst hq'; clear HBa)
    | (go_at_call 8; refine (unhide HBb).mono ?_; rintro e w' ⟨rfl, hq⟩; have hq' := hq.symm; subst hq'; clear HBb)
    | (go_at_call 9; refine (unhide HAW).mono ?_; rintro e w1 ⟨rfl, hk⟩; have HK1 := hide hk; have HN1 := hide (unhide HVA w1 hk); clear hk HAW)
    | (go_at_call 11; refine (unhide HN1).mono ?_; rintro e w2 ⟨⟨k1, k2, rfl, hrv⟩, hk⟩; have HK2 := hide ((unhide HK1).trans hk (by simp)); have HN2 := hide (unhide HSP _ _ _ hrv); clear hrv hk HN1)
    | (go_at_call 17; refine (unhide HN2).mono ?_; rintro e w3 ⟨hk, hh⟩; have hh2 : e = .returned (.tuple #[.slice none 0 0, .slice none 0 0, .int .i64 (F : Nat)]) := (by rcases hh with ⟨hf, _⟩ | ⟨_, h⟩; exact absurd hf (unhide HFR); rw [unhide HFF] at h; exact h); subst hh2; have HK3 := hide ((unhide HK2).trans hk (by simp)); have HN3 := hide (unhide HVU w3 (.slice ab LB bcap) ((unhide HRB).kept (unhide HK3))); clear hh hk HN2)
    | (go_at_call 11; refine (unhide HN3).mono ?_; rintro e w4 ⟨⟨k3, k4, rfl, hrv⟩, hk⟩; have HK4 := hide ((unhide HK3).trans hk (by simp)); have HK34 := hide hk; have HN4 := hide (unhide HEN _ _ _ hrv); clear hrv hk HN3)
    | (go_at_call 10; refine (unhide HN4).mono ?_; rintro e w5 ⟨hk, hh⟩; have hh2 : ∃ a n c g, e = .returned (.tuple #[.slice a n c, .int .i64 g]) := (by rcases hh with ⟨_, a, n, c, h, _⟩ | ⟨_, h⟩; exact ⟨a, n, c, _, h⟩; exact ⟨_, _, _, _, h⟩); obtain ⟨pa, pn, pc, pg, rfl⟩ := hh2; have HK5 := hide ((unhide HK4).trans hk (by simp)); clear hh hk HN4))
  go_ret
  exact ⟨rfl, unhide HK5⟩

set_option maxRecDepth 100000 in
set_option maxHeartbeats 4000000 in
theorem bes_nB {w : World} {va vb : Value} {ra rb : Row} (ha : RowP w va ra) (hb : RowP w vb rb) (ca : cnt ra ≤ 131072) (cb : cnt rb ≤ 131072) (fr : faultR ra 0 = 0) (fu : faultR rb 0 ≠ 0) :
    Calls Try.prog 5 #[va, vb, .bool false] w fun e w' => e = .returned (.bool true) ∧ Kept [] w w' := by
  have HBa := hide (beyond_any ha)
  have HBb := hide (beyond_any hb)
  rw [show decide (131072 < cnt ra) = false by simp; omega] at HBa
  rw [show decide (131072 < cnt rb) = false by simp; omega] at HBb
  have HAW := hide (awake_any w)
  have HVA := hide (fun (w1 : World) (hk : Kept [] w w1) => values_any2 ra w1 va (ha.kept hk) (by omega))
  have HVU := hide (fun (w1 : World) (v : Value) (h : RowP w1 v rb) => values_any2 rb w1 v h (by omega))
  have HSP := hide (fun (S : Nat → Prop) (w1 : World) (v : Value) (h : RowV S w1 v ra) => span_any h (by omega))
  have HEN := hide (fun (S : Nat → Prop) (w1 : World) (v : Value) (h : RowV S w1 v rb) => enc_val2 h (by omega))
  have HRA := hide ha
  have HRB := hide hb
  have HFR := hide fr
  have HFU := hide fu
  obtain ⟨G, hG⟩ : ∃ G, faultR rb 0 = G := ⟨_, rfl⟩
  have tG : ((G : Int) != 0) = true := by rw [← hG]; simp; omega
  have HGG := hide hG
  clear hG
  have hla := cnt_len ra
  have hlb := cnt_len rb
  obtain ⟨aa, acap, rfl, -⟩ := ha
  obtain ⟨ab, bcap, rfl, b1, b2, -⟩ := hb
  unfold maxLen at b2
  generalize hLR : ra.len = LR at *
  generalize hLB : rb.len = LB at *
  have HLR := hide hLR
  have HLB := hide hLB
  clear hLR hLB fr fu
  go_enter Try.func5, Try.ntmps5
  go_wp2_with (first
    | (go_at_call 8; refine (unhide HBa).mono ?_; rintro e w' ⟨rfl, hq⟩; have hq' := hq.symm; subst hq'; clear HBa)
    | (go_at_call 8; refine (unhide HBb).mono ?_; rintro e w' ⟨rfl, hq⟩; have hq' := hq.symm; subst hq'; clear HBb)
    | (go_at_call 9; refine (unhide HAW).mono ?_; rintro e w1 ⟨rfl, hk⟩; have HK1 := hide hk; have HN1 := hide (unhide HVA w1 hk); clear hk HAW)
    | (go_at_call 11; refine (unhide HN1).mono ?_; rintro e w2 ⟨⟨k1, k2, rfl, hrv⟩, hk⟩; have HK2 := hide ((unhide HK1).trans hk (by simp)); have HN2 := hide (unhide HSP _ _ _ hrv); clear hrv hk HN1)
    | (go_at_call 17; refine (unhide HN2).mono ?_; rintro e w3 ⟨hk, hh⟩; have hh2 : ∃ a n c a2 n2 c2, e = .returned (.tuple #[.slice a n c, .slice a2 n2 c2, .int .i64 0]) ∧ Sees w3 (.slice a n c) (codeR ra) ∧ Sees w3 (.slice a2 n2 c2) (codeR ra ++ [8]) := (by rcases hh with ⟨_, h⟩ | ⟨hf, _⟩; exact h; exact absurd (unhide HFR) hf); obtain ⟨fa, fn, fc, ta, tn, tc, rfl, hsf, hst⟩ := hh2; have HSF := hide hsf; have HST := hide hst; have HK3 := hide ((unhide HK2).trans hk (by simp)); have HN3 := hide (unhide HVU w3 (.slice ab LB bcap) ((unhide HRB).kept (unhide HK3))); clear hh hk hsf hst HN2)
    | (go_at_call 11; refine (unhide HN3).mono ?_; rintro e w4 ⟨⟨k3, k4, rfl, hrv⟩, hk⟩; have HK4 := hide ((unhide HK3).trans hk (by simp)); have HK34 := hide hk; have HN4 := hide (unhide HEN _ _ _ hrv); clear hrv hk HN3)
    | (go_at_call 10; refine (unhide HN4).mono ?_; rintro e w5 ⟨hk, hh⟩; have hh2 : e = .returned (.tuple #[.slice none 0 0, .int .i64 (G : Nat)]) := (by rcases hh with ⟨hf, _⟩ | ⟨_, h⟩; exact absurd hf (unhide HFU); rw [unhide HGG] at h; exact h); subst hh2; have HK5 := hide ((unhide HK4).trans hk (by simp)); clear hh hk HN4))
  go_ret
  exact ⟨rfl, unhide HK5⟩

set_option maxRecDepth 100000 in
set_option maxHeartbeats 4000000 in
theorem bes_nC1 {w : World} {va vb : Value} {ra rb : Row} (ha : RowP w va ra) (hb : RowP w vb rb) (ca : cnt ra ≤ 131072) (cb : cnt rb ≤ 131072) (fr : faultR ra 0 = 0) (fu : faultR rb 0 = 0) (hsh : rb.len < ra.len) (g1 : 0 < cmpL (codeR ra) (codeR rb)) :
    Calls Try.prog 5 #[va, vb, .bool false] w fun e w' => e = .returned (.bool true) ∧ Kept [] w w' := by
  have HBa := hide (beyond_any ha)
  have HBb := hide (beyond_any hb)
  rw [show decide (131072 < cnt ra) = false by simp; omega] at HBa
  rw [show decide (131072 < cnt rb) = false by simp; omega] at HBb
  have HAW := hide (awake_any w)
  have HVA := hide (fun (w1 : World) (hk : Kept [] w w1) => values_any2 ra w1 va (ha.kept hk) (by omega))
  have HVU := hide (fun (w1 : World) (v : Value) (h : RowP w1 v rb) => values_any2 rb w1 v h (by omega))
  have HSP := hide (fun (S : Nat → Prop) (w1 : World) (v : Value) (h : RowV S w1 v ra) => span_any h (by omega))
  have HEN := hide (fun (S : Nat → Prop) (w1 : World) (v : Value) (h : RowV S w1 v rb) => enc_val2 h (by omega))
  have HRA := hide ha
  have HRB := hide hb
  have HFR := hide fr
  have HFU := hide fu
  have HAH1 := hide (fun (w1 : World) (v1 v2 : Value) h1 h2 => ahead_any (w := w1) (v1 := v1) (v2 := v2) (p := codeR ra) (q := codeR rb) h1 h2)
  have HAH2 := hide (fun (w1 : World) (v1 v2 : Value) h1 h2 => ahead_any (w := w1) (v1 := v1) (v2 := v2) (p := codeR rb) (q := codeR ra ++ [8]) h1 h2)
  generalize cmpL (codeR ra) (codeR rb) = c1 at *
  generalize cmpL (codeR rb) (codeR ra ++ [8]) = c2 at *
  have hla := cnt_len ra
  have hlb := cnt_len rb
  obtain ⟨aa, acap, rfl, -⟩ := ha
  obtain ⟨ab, bcap, rfl, b1, b2, -⟩ := hb
  unfold maxLen at b2
  generalize hLR : ra.len = LR at *
  generalize hLB : rb.len = LB at *
  have HLR := hide hLR
  have HLB := hide hLB
  clear hLR hLB fr fu
  have q1 : ((LB : Int) ≥ (LR : Int)) = False := by simp; omega
  have q3 : (c1 ≤ 0) = False := by simp; omega
  go_enter Try.func5, Try.ntmps5
  go_wp2_with (first
    | (go_at_call 8; refine (unhide HBa).mono ?_; rintro e w' ⟨rfl, hq⟩; have hq' := hq.symm; subst hq'; clear HBa)
    | (go_at_call 8; refine (unhide HBb).mono ?_; rintro e w' ⟨rfl, hq⟩; have hq' := hq.symm; subst hq'; clear HBb)
    | (go_at_call 9; refine (unhide HAW).mono ?_; rintro e w1 ⟨rfl, hk⟩; have HK1 := hide hk; have HN1 := hide (unhide HVA w1 hk); clear hk HAW)
    | (go_at_call 11; refine (unhide HN1).mono ?_; rintro e w2 ⟨⟨k1, k2, rfl, hrv⟩, hk⟩; have HK2 := hide ((unhide HK1).trans hk (by simp)); have HN2 := hide (unhide HSP _ _ _ hrv); clear hrv hk HN1)
    | (go_at_call 17; refine (unhide HN2).mono ?_; rintro e w3 ⟨hk, hh⟩; have hh2 : ∃ a n c a2 n2 c2, e = .returned (.tuple #[.slice a n c, .slice a2 n2 c2, .int .i64 0]) ∧ Sees w3 (.slice a n c) (codeR ra) ∧ Sees w3 (.slice a2 n2 c2) (codeR ra ++ [8]) := (by rcases hh with ⟨_, h⟩ | ⟨hf, _⟩; exact h; exact absurd (unhide HFR) hf); obtain ⟨fa, fn, fc, ta, tn, tc, rfl, hsf, hst⟩ := hh2; have HSF := hide hsf; have HST := hide hst; have HK3 := hide ((unhide HK2).trans hk (by simp)); have HN3 := hide (unhide HVU w3 (.slice ab LB bcap) ((unhide HRB).kept (unhide HK3))); clear hh hk hsf hst HN2)
    | (go_at_call 11; refine (unhide HN3).mono ?_; rintro e w4 ⟨⟨k3, k4, rfl, hrv⟩, hk⟩; have HK4 := hide ((unhide HK3).trans hk (by simp)); have HK34 := hide hk; have HN4 := hide (unhide HEN _ _ _ hrv); clear hrv hk HN3)
    | (go_at_call 10; refine (unhide HN4).mono ?_; rintro e w5 ⟨hk, hh⟩; have hh2 : ∃ a n c, e = .returned (.tuple #[.slice a n c, .int .i64 0]) ∧ Sees w5 (.slice a n c) (codeR rb) := (by rcases hh with ⟨_, h⟩ | ⟨hf, _⟩; exact h; exact absurd (unhide HFU) hf); obtain ⟨pa, pn, pc, rfl, hsp⟩ := hh2; have HSP5 := hide hsp; have HK5 := hide ((unhide HK4).trans hk (by simp)); have HK35 := hide ((unhide HK34).trans hk (by simp)); have HN8 := hide (unhide HAH1 w5 _ _ ((unhide HSF).kept (unhide HK35) (Or.inr (by simp))) ((unhide HSP5).kept (Kept.refl [] w5) (Or.inr (by simp)))); clear hh hk hsp HN4)
    | (go_at_call 18; refine (unhide HN8).mono ?_; rintro e w9 ⟨rfl, hk⟩; have HK9 := hide ((unhide HK5).trans hk (by simp)); have HN9 := hide (unhide HAH2 w9 _ _ ((unhide HSP5).kept hk (Or.inr (by simp))) (((unhide HST).kept (unhide HK35) (Or.inr (by simp))).kept hk (Or.inr (by simp)))); clear hk HN8)
    | (go_at_call 18; refine (unhide HN9).mono ?_; rintro e w10 ⟨rfl, hk⟩; have HK10 := hide ((unhide HK9).trans hk (by simp)); clear hk HN9))
  go_ret
  exact ⟨rfl, unhide HK9⟩

set_option maxRecDepth 100000 in
set_option maxHeartbeats 4000000 in
theorem bes_nC2 {w : World} {va vb : Value} {ra rb : Row} (ha : RowP w va ra) (hb : RowP w vb rb) (ca : cnt ra ≤ 131072) (cb : cnt rb ≤ 131072) (fr : faultR ra 0 = 0) (fu : faultR rb 0 = 0) (hsh : rb.len < ra.len) (g1 : ¬ 0 < cmpL (codeR ra) (codeR rb)) (g2 : 0 ≤ cmpL (codeR rb) (codeR ra ++ [8])) :
    Calls Try.prog 5 #[va, vb, .bool false] w fun e w' => e = .returned (.bool true) ∧ Kept [] w w' := by
  have HBa := hide (beyond_any ha)
  have HBb := hide (beyond_any hb)
  rw [show decide (131072 < cnt ra) = false by simp; omega] at HBa
  rw [show decide (131072 < cnt rb) = false by simp; omega] at HBb
  have HAW := hide (awake_any w)
  have HVA := hide (fun (w1 : World) (hk : Kept [] w w1) => values_any2 ra w1 va (ha.kept hk) (by omega))
  have HVU := hide (fun (w1 : World) (v : Value) (h : RowP w1 v rb) => values_any2 rb w1 v h (by omega))
  have HSP := hide (fun (S : Nat → Prop) (w1 : World) (v : Value) (h : RowV S w1 v ra) => span_any h (by omega))
  have HEN := hide (fun (S : Nat → Prop) (w1 : World) (v : Value) (h : RowV S w1 v rb) => enc_val2 h (by omega))
  have HRA := hide ha
  have HRB := hide hb
  have HFR := hide fr
  have HFU := hide fu
  have HAH1 := hide (fun (w1 : World) (v1 v2 : Value) h1 h2 => ahead_any (w := w1) (v1 := v1) (v2 := v2) (p := codeR ra) (q := codeR rb) h1 h2)
  have HAH2 := hide (fun (w1 : World) (v1 v2 : Value) h1 h2 => ahead_any (w := w1) (v1 := v1) (v2 := v2) (p := codeR rb) (q := codeR ra ++ [8]) h1 h2)
  generalize cmpL (codeR ra) (codeR rb) = c1 at *
  generalize cmpL (codeR rb) (codeR ra ++ [8]) = c2 at *
  have hla := cnt_len ra
  have hlb := cnt_len rb
  obtain ⟨aa, acap, rfl, -⟩ := ha
  obtain ⟨ab, bcap, rfl, b1, b2, -⟩ := hb
  unfold maxLen at b2
  generalize hLR : ra.len = LR at *
  generalize hLB : rb.len = LB at *
  have HLR := hide hLR
  have HLB := hide hLB
  clear hLR hLB fr fu
  have q1 : ((LB : Int) ≥ (LR : Int)) = False := by simp; omega
  have q3 : (c1 ≤ 0) = True := by simp; omega
  have q4 : (c2 < 0) = False := by simp; omega
  go_enter Try.func5, Try.ntmps5
  go_wp2_with (first
    | (go_at_call 8; refine (unhide HBa).mono ?_; rintro e w' ⟨rfl, hq⟩; have hq' := hq.symm; subst hq'; clear HBa)
    | (go_at_call 8; refine (unhide HBb).mono ?_; rintro e w' ⟨rfl, hq⟩; have hq' := hq.symm; subst hq'; clear HBb)
    | (go_at_call 9; refine (unhide HAW).mono ?_; rintro e w1 ⟨rfl, hk⟩; have HK1 := hide hk; have HN1 := hide (unhide HVA w1 hk); clear hk HAW)
    | (go_at_call 11; refine (unhide HN1).mono ?_; rintro e w2 ⟨⟨k1, k2, rfl, hrv⟩, hk⟩; have HK2 := hide ((unhide HK1).trans hk (by simp)); have HN2 := hide (unhide HSP _ _ _ hrv); clear hrv hk HN1)
    | (go_at_call 17; refine (unhide HN2).mono ?_; rintro e w3 ⟨hk, hh⟩; have hh2 : ∃ a n c a2 n2 c2, e = .returned (.tuple #[.slice a n c, .slice a2 n2 c2, .int .i64 0]) ∧ Sees w3 (.slice a n c) (codeR ra) ∧ Sees w3 (.slice a2 n2 c2) (codeR ra ++ [8]) := (by rcases hh with ⟨_, h⟩ | ⟨hf, _⟩; exact h; exact absurd (unhide HFR) hf); obtain ⟨fa, fn, fc, ta, tn, tc, rfl, hsf, hst⟩ := hh2; have HSF := hide hsf; have HST := hide hst; have HK3 := hide ((unhide HK2).trans hk (by simp)); have HN3 := hide (unhide HVU w3 (.slice ab LB bcap) ((unhide HRB).kept (unhide HK3))); clear hh hk hsf hst HN2)
    | (go_at_call 11; refine (unhide HN3).mono ?_; rintro e w4 ⟨⟨k3, k4, rfl, hrv⟩, hk⟩; have HK4 := hide ((unhide HK3).trans hk (by simp)); have HK34 := hide hk; have HN4 := hide (unhide HEN _ _ _ hrv); clear hrv hk HN3)
    | (go_at_call 10; refine (unhide HN4).mono ?_; rintro e w5 ⟨hk, hh⟩; have hh2 : ∃ a n c, e = .returned (.tuple #[.slice a n c, .int .i64 0]) ∧ Sees w5 (.slice a n c) (codeR rb) := (by rcases hh with ⟨_, h⟩ | ⟨hf, _⟩; exact h; exact absurd (unhide HFU) hf); obtain ⟨pa, pn, pc, rfl, hsp⟩ := hh2; have HSP5 := hide hsp; have HK5 := hide ((unhide HK4).trans hk (by simp)); have HK35 := hide ((unhide HK34).trans hk (by simp)); have HN8 := hide (unhide HAH1 w5 _ _ ((unhide HSF).kept (unhide HK35) (Or.inr (by simp))) ((unhide HSP5).kept (Kept.refl [] w5) (Or.inr (by simp)))); clear hh hk hsp HN4)
    | (go_at_call 18; refine (unhide HN8).mono ?_; rintro e w9 ⟨rfl, hk⟩; have HK9 := hide ((unhide HK5).trans hk (by simp)); have HN9 := hide (unhide HAH2 w9 _ _ ((unhide HSP5).kept hk (Or.inr (by simp))) (((unhide HST).kept (unhide HK35) (Or.inr (by simp))).kept hk (Or.inr (by simp)))); clear hk HN8)
    | (go_at_call 18; refine (unhide HN9).mono ?_; rintro e w10 ⟨rfl, hk⟩; have HK10 := hide ((unhide HK9).trans hk (by simp)); clear hk HN9))
  go_ret
  exact ⟨rfl, unhide HK10⟩
end Go.Proofs.Ytigmofbammofbab
