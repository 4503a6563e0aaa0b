/- KeysBeside: the cases nD -/
import Derived.Test.YtigmofbammofbabKBesH
namespace Go.Proofs.Ytigmofbammofbab
open Go.RowKit

set_option maxRecDepth 100000 in
set_option maxHeartbeats 4000000 in
theorem bes_nD {w : World} {va vb : Value} {ra rb : Row} (ha : RowP w va ra) (hb : RowP w vb rb) (ca : cnt ra ≤ 131072) (cb : cnt rb ≤ 131072) (fr : faultR ra 0 = 0) (fu : faultR rb 0 = 0) (hge : ra.len ≤ rb.len) (hz : cmpR ra (rb.take ra.len) = 0) (g1 : cmpL (codeR ra) (codeR rb) ≤ 0) (g2 : cmpL (codeR rb) (codeR ra ++ [8]) < 0) :
    Calls Try.prog 5 #[va, vb, .bool false] w fun e w' => e = .returned (.bool true) ∧ Kept [] w w' := by
  have HBa := hide (beyond_any ha)
  have HBb := hide (beyond_any hb)
  rw [show decide (131072 < cnt ra) = false by simp; omega] at HBa
  rw [show decide (131072 < cnt rb) = false by simp; omega] at HBb
  have HAW := hide (awake_any w)
  have HVA := hide (fun (w1 : World) (hk : Kept [] w w1) => values_any2 ra w1 va (ha.kept hk) (by omega))
  have HVU := hide (fun (w1 : World) (v : Value) (h : RowP w1 v rb) => values_any2 rb w1 v h (by omega))
  have HSP := hide (fun (S : Nat → Prop) (w1 : World) (v : Value) (h : RowV S w1 v ra) => span_any h (by omega))
  have HEN := hide (fun (S : Nat → Prop) (w1 : World) (v : Value) (h : RowV S w1 v rb) => enc_val2 h (by omega))
  have HRA := hide ha
  have HRB := hide hb
  have HFR := hide fr
  have HFU := hide fu
  have HVT := hide (fun (w1 : World) (v : Value) (h : RowP w1 v (rb.take ra.len)) => values_any2 (rb.take ra.len) w1 v h (by have := cnt_take ra.len rb; omega))
  have htl := Row.take_len ra.len rb hge
  have hft := (fault_app (rb.take ra.len) (rb.drop ra.len) 0 (by rw [Row.take_drop]; exact fu)).1
  obtain ⟨z, hz'⟩ : ∃ z, cmpR ra (rb.take ra.len) = z := ⟨_, rfl⟩
  rw [hz'] at hz
  have HCM : Hid (∀ (S : Nat → Prop) (w1 : World) (v1 v2 : Value), RowV S w1 v1 ra → RowV S w1 v2 (rb.take ra.len) → Calls Try.prog 16 #[v1, v2] w1 fun e w' => Kept [] w1 w' ∧ e = .returned (.tuple #[.int .i64 z, .int .i64 0])) := by
    intro S w1 v1 v2 h1 h2
    have := compare_any h1 h2
    rw [fr, hft, hz'] at this
    simpa using this
  have HTK := hide (fun (w1 : World) (a : Option Addr) (n cap : Nat) (h : RowP w1 (.slice a n cap) rb) => h.take ra.len hge)
  clear hft hz'
  rw [htl] at HVT
  have HAH1 := hide (fun (w1 : World) (v1 v2 : Value) h1 h2 => ahead_any (w := w1) (v1 := v1) (v2 := v2) (p := codeR ra) (q := codeR rb) h1 h2)
  have HAH2 := hide (fun (w1 : World) (v1 v2 : Value) h1 h2 => ahead_any (w := w1) (v1 := v1) (v2 := v2) (p := codeR rb) (q := codeR ra ++ [8]) h1 h2)
  generalize cmpL (codeR ra) (codeR rb) = c1 at *
  generalize cmpL (codeR rb) (codeR ra ++ [8]) = c2 at *
  have hla := cnt_len ra
  have hlb := cnt_len rb
  obtain ⟨aa, acap, rfl, -⟩ := ha
  obtain ⟨ab, bcap, rfl, b1, b2, -⟩ := hb
  unfold maxLen at b2
  generalize hLR : ra.len = LR at *
  generalize hLB : rb.len = LB at *
  have HLR := hide hLR
  have HLB := hide hLB
  clear hLR hLB fr fu
  have q1 : ((LB : Int) ≥ (LR : Int)) = True := by simp; omega
  have q2 : (z == 0) = true := by rw [hz]; rfl
  have q3 : (c1 ≤ 0) = True := by simp [g1]
  have q4 : (c2 < 0) = True := by simp [g2]
  go_enter Try.func5, Try.ntmps5
  go_wp2_with (first
    | (go_at_call 8; refine (unhide HBa).mono ?_; rintro e w' ⟨rfl, hq⟩; have hq' := hq.symm; subst hq'; clear HBa)
    | (go_at_call 8; refine (unhide HBb).mono ?_; rintro e w' ⟨rfl, hq⟩; have hq' := hq.symm; subst hq'; clear HBb)
    | (go_at_call 9; refine (unhide HAW).mono ?_; rintro e w1 ⟨rfl, hk⟩; have HK1 := hide hk; have HN1 := hide (unhide HVA w1 hk); clear hk HAW)
    | (go_at_call 11; refine (unhide HN1).mono ?_; rintro e w2 ⟨⟨k1, k2, rfl, hrv⟩, hk⟩; have HK2 := hide ((unhide HK1).trans hk (by simp)); have HN2 := hide (unhide HSP _ _ _ hrv); clear hrv hk HN1)
    | (go_at_call 17; refine (unhide HN2).mono ?_; rintro e w3 ⟨hk, hh⟩; have hh2 : ∃ a n c a2 n2 c2, e = .returned (.tuple #[.slice a n c, .slice a2 n2 c2, .int .i64 0]) ∧ Sees w3 (.slice a n c) (codeR ra) ∧ Sees w3 (.slice a2 n2 c2) (codeR ra ++ [8]) := (by rcases hh with ⟨_, h⟩ | ⟨hf, _⟩; exact h; exact absurd (unhide HFR) hf); obtain ⟨fa, fn, fc, ta, tn, tc, rfl, hsf, hst⟩ := hh2; have HSF := hide hsf; have HST := hide hst; have HK3 := hide ((unhide HK2).trans hk (by simp)); have HN3 := hide (unhide HVU w3 (.slice ab LB bcap) ((unhide HRB).kept (unhide HK3))); clear hh hk hsf hst HN2)
    | (go_at_call 11; refine (unhide HN3).mono ?_; rintro e w4 ⟨⟨k3, k4, rfl, hrv⟩, hk⟩; have HK4 := hide ((unhide HK3).trans hk (by simp)); have HK34 := hide hk; have HN4 := hide (unhide HEN _ _ _ hrv); clear hrv hk HN3)
    | (go_at_call 10; refine (unhide HN4).mono ?_; rintro e w5 ⟨hk, hh⟩; have hh2 : ∃ a n c, e = .returned (.tuple #[.slice a n c, .int .i64 0]) ∧ Sees w5 (.slice a n c) (codeR rb) := (by rcases hh with ⟨_, h⟩ | ⟨hf, _⟩; exact h; exact absurd (unhide HFU) hf); obtain ⟨pa, pn, pc, rfl, hsp⟩ := hh2; have HSP5 := hide hsp; have HK5 := hide ((unhide HK4).trans hk (by simp)); have HK35 := hide ((unhide HK34).trans hk (by simp)); clear hh hk hsp HN4))
  go_region_with (first
    | (go_at_call 11; refine (unhide HVA _ ?_).mono ?_; (first | exact unhide HK5 | exact (unhide HK5).drew | exact (unhide HK5).drew.drew); rintro e w6 ⟨⟨k5, k6, rfl, hrv⟩, hk⟩; have HK56 : Hid (Kept [] w5 w6) := hide (Kept.trans (by first | exact Kept.refl [] w5 | exact (Kept.refl [] w5).drew | exact (Kept.refl [] w5).drew.drew) hk (by simp)); have HR6 := hide hrv.any; clear hrv hk HVA)
    | (go_at_call 11; refine (unhide HVT _ _ (unhide HTK _ _ LB _ ?_)).mono ?_; (first | exact (unhide HRB).kept ((unhide HK5).trans (unhide HK56) (by simp)) | exact (unhide HRB).kept ((unhide HK5).trans (unhide HK56) (by simp)).drew); rintro e w7 ⟨⟨k7, k8, rfl, hrv⟩, hk⟩; have HK67 : Hid (Kept [] w6 w7) := hide (Kept.trans (by first | exact Kept.refl [] w6 | exact (Kept.refl [] w6).drew) hk (by simp)); have HR67 := hide ((unhide HR6).kept (unhide HK67) (by simp)); have HR7 := hide hrv.any; have HK7 := hide ((unhide HK56).trans (unhide HK67) (by simp)); clear hrv hk HVT HTK)
    | (go_at_call 16; refine (unhide HCM Any _ _ _ ?_ ?_).mono ?_; (first | exact unhide HR67 | exact (unhide HR67).kept (Kept.refl [] w7).drew (by simp)); (first | exact unhide HR7 | exact (unhide HR7).kept (Kept.refl [] w7).drew (by simp)); rintro e w8 ⟨hk, rfl⟩; have HK8 : Hid (Kept [] w5 w8) := hide ((unhide HK7).trans (Kept.trans (by first | exact Kept.refl [] w7 | exact (Kept.refl [] w7).drew) hk (by simp)) (by simp)); clear hk HCM))
  all_goals have HN8 := hide (unhide HAH1 w8 _ _ (((unhide HSF).kept (unhide HK35) (Or.inr (by simp))).kept (unhide HK8) (Or.inr (by simp))) ((unhide HSP5).kept (unhide HK8) (Or.inr (by simp))))
  all_goals have HK8' := hide ((unhide HK5).trans (unhide HK8) (by simp))
  all_goals (go_wp2_with (first
    | (go_at_call 18; refine (unhide HN8).mono ?_; rintro e w9 ⟨rfl, hk⟩; have HK9 := hide ((unhide HK8').trans hk (by simp)); have HN9 := hide (unhide HAH2 w9 _ _ (((unhide HSP5).kept (unhide HK8) (Or.inr (by simp))).kept hk (Or.inr (by simp))) ((((unhide HST).kept (unhide HK35) (Or.inr (by simp))).kept (unhide HK8) (Or.inr (by simp))).kept hk (Or.inr (by simp)))); clear hk HN8)
    | (go_at_call 18; refine (unhide HN9).mono ?_; rintro e w10 ⟨rfl, hk⟩; have HK10 := hide ((unhide HK9).trans hk (by simp)); clear hk HN9)))
  all_goals go_ret
  all_goals exact ⟨rfl, unhide HK10⟩
end Go.Proofs.Ytigmofbammofbab
