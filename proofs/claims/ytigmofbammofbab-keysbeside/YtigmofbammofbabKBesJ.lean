/- KeysBeside: the cases jA, jB -/
import Derived.Test.YtigmofbammofbabKBesH
namespace Go.Proofs.Ytigmofbammofbab
open Go.RowKit

set_option maxRecDepth 100000 in
set_option maxHeartbeats 4000000 in
theorem bes_jA {w : World} {va vb : Value} {ra rb : Row} (ha : RowP w va ra) (hb : RowP w vb rb) (ca : cnt ra ≤ 131072) (cb : cnt rb ≤ 131072) (fr : faultR ra 0 ≠ 0) :
    Calls Try.prog 5 #[va, vb, .bool true] w fun e w' => e = .returned (.bool true) ∧ Kept [] w w' := by
  have HBa := hide (beyond_any ha)
  have HBb := hide (beyond_any hb)
  rw [show decide (131072 < cnt ra) = false by simp; omega] at HBa
  rw [show decide (131072 < cnt rb) = false by simp; omega] at HBb
  have HAW := hide (awake_any w)
  have HVA := hide (fun (w1 : World) (hk : Kept [] w w1) => values_any2 ra w1 va (ha.kept hk) (by omega))
  have HVU := hide (fun (w1 : World) (v : Value) (h : RowP w1 v (ra.app rb)) => values_any2 (ra.app rb) w1 v h (by rw [cnt_app]; omega))
  have HSP := hide (fun (S : Nat → Prop) (w1 : World) (v : Value) (h : RowV S w1 v ra) => span_any h (by omega))
  have HEN := hide (fun (S : Nat → Prop) (w1 : World) (v : Value) (h : RowV S w1 v (ra.app rb)) => enc_val2 h (by rw [cnt_app]; omega))
  have HRA := hide ha
  have HRB := hide hb
  have HFR := hide fr
  obtain ⟨F, hF⟩ : ∃ F, faultR ra 0 = F := ⟨_, rfl⟩
  have tF : ((F : Int) != 0) = true := by rw [← hF]; simp; omega
  have uF : ((F : Int) == 0) = false := by rw [← hF]; simp; omega
  have HFF := hide hF
  clear hF
  have hla := cnt_len ra
  have hlb := cnt_len rb
  obtain ⟨aa, acap, rfl, -⟩ := ha
  obtain ⟨ab, bcap, rfl, b1, b2, -⟩ := hb
  unfold maxLen at b2
  have hUl : (ra.app rb).len = ra.len + rb.len := Row.app_len ra rb
  generalize hLR : ra.len = LR at *
  generalize hLB : rb.len = LB at *
  have HLR := hide hLR
  have HLB := hide hLB
  obtain ⟨LU, hLU⟩ : ∃ LU, LR + LB = LU := ⟨_, rfl⟩
  rw [hLU] at hUl
  rw [hUl] at HVU
  have HL1 := hide (show 0 + ra.len ≤ 1099511627776 by rw [hLR]; omega)
  have HL2 := hide (show LR + rb.len ≤ 1099511627776 by rw [hLB]; omega)
  have HM1 := hide (show 0 + ra.len = LR by rw [hLR]; omega)
  have HM2 := hide (show LR + rb.len = LU by rw [hLB]; exact hLU)
  have HJ := hide (fun wB a2 c2 l1 l2 x1 x2 o2 k2 => joined_row (w := w) (ra := ra) (rb := rb) (LU := LU) wB a2 c2 l1 l2 x1 x2 o2 k2 (by rw [hLR, hLB]; exact hLU))
  clear hLR hLB fr
  go_enter Try.func5, Try.ntmps5
  go_wp2_with (first
    | (go_at_call 8; refine (unhide HBa).mono ?_; rintro e w' ⟨rfl, hq⟩; have hq' := hq.symm; subst hq'; clear HBa)
    | (go_at_call 8; refine (unhide HBb).mono ?_; rintro e w' ⟨rfl, hq⟩; have hq' := hq.symm; subst hq'; clear HBb)
    | (go_at_call 9; refine (unhide HAW).mono ?_; rintro e w1 ⟨rfl, hk⟩; have HK0 := hide (hk.alloc (.cells #[] 62)); have HO := hide (own_new_nilP (w1 := w1) hk.size); clear hk HAW)
    | (at_builtin; refine wpList_append_parts (w0 := w) _ rfl (.tmp 25) (.tmp 26) rfl (l := []) rfl HK0 HO (hide rfl) rfl HRA HL1 LR HM1 ?_; intro a1 c1 wA l1 hl1 ho1 hk1; have HO1 : Hid (wA.ownsRow w.heap.size 62 7 (.slice a1 LR c1) LR (flatP l1)) := ho1; have HX1 := hide (unhide hl1); have HKA := hide (unhide hk1); have HLN : Hid (l1.length = LR) := (by have := rowE_len l1; rw [(unhide hl1).1, unhide HLR] at this; exact this.symm); clear ho1 hk1 hl1 HO HK0)
    | (at_builtin; refine wpList_append_parts (w0 := w) _ rfl (.tmp 27) (.tmp 28) rfl (l := l1) rfl HKA HO1 HLN rfl HRB HL2 LU HM2 ?_; intro a2 c2 wB l2 hl2 ho2 hk2; have HU : Hid (RowP wB (.slice a2 LU c2) (ra.app rb)) := (unhide HJ) wB a2 c2 l1 l2 (unhide HX1) (unhide hl2) (unhide ho2) (unhide hk2); have hcp := (unhide HU).caps; have HK1 := hide (unhide hk2); have HN1 := hide (unhide HVA wB (unhide hk2)); clear ho2 hk2 hl2 HO1 HKA HX1 HLN)
    | (go_at_call 11; refine (unhide HN1).mono ?_; rintro e w2 ⟨⟨k1, k2, rfl, hrv⟩, hk⟩; have HK2 := hide ((unhide HK1).trans hk (by simp)); have HU2 := hide ((unhide HU).kept hk); have HN2 := hide (unhide HSP _ _ _ hrv); clear hrv hk HN1)
    | (go_at_call 17; refine (unhide HN2).mono ?_; rintro e w3 ⟨hk, hh⟩; have hh2 : e = .returned (.tuple #[.slice none 0 0, .slice none 0 0, .int .i64 (F : Nat)]) := (by rcases hh with ⟨hf, _⟩ | ⟨_, h⟩; exact absurd hf (unhide HFR); rw [unhide HFF] at h; exact h); subst hh2; have HK3 := hide ((unhide HK2).trans hk (by simp)); have HU3 := hide ((unhide HU2).kept hk); have HN3 := hide (unhide HVU w3 _ (unhide HU3)); clear hh hk HN2)
    | (go_at_call 11; refine (unhide HN3).mono ?_; rintro e w4 ⟨⟨k3, k4, rfl, hrv⟩, hk⟩; have HK4 := hide ((unhide HK3).trans hk (by simp)); have HK34 := hide hk; have HN4 := hide (unhide HEN _ _ _ hrv); clear hrv hk HN3)
    | (go_at_call 10; refine (unhide HN4).mono ?_; rintro e w5 ⟨hk, hh⟩; have hh2 : ∃ a n c g, e = .returned (.tuple #[.slice a n c, .int .i64 g]) := (by rcases hh with ⟨_, a, n, c, h, _⟩ | ⟨_, h⟩; exact ⟨a, n, c, _, h⟩; exact ⟨_, _, _, _, h⟩); obtain ⟨pa, pn, pc, pg, rfl⟩ := hh2; have HK5 := hide ((unhide HK4).trans hk (by simp)); clear hh hk HN4))
  go_ret
  exact ⟨rfl, unhide HK5⟩

set_option maxRecDepth 100000 in
set_option maxHeartbeats 4000000 in
theorem bes_jB {w : World} {va vb : Value} {ra rb : Row} (ha : RowP w va ra) (hb : RowP w vb rb) (ca : cnt ra ≤ 131072) (cb : cnt rb ≤ 131072) (fr : faultR ra 0 = 0) (fu : faultR (ra.app rb) 0 ≠ 0) :
    Calls Try.prog 5 #[va, vb, .bool true] w fun e w' => e = .returned (.bool true) ∧ Kept [] w w' := by
  have HBa := hide (beyond_any ha)
  have HBb := hide (beyond_any hb)
  rw [show decide (131072 < cnt ra) = false by simp; omega] at HBa
  rw [show decide (131072 < cnt rb) = false by simp; omega] at HBb
  have HAW := hide (awake_any w)
  have HVA := hide (fun (w1 : World) (hk : Kept [] w w1) => values_any2 ra w1 va (ha.kept hk) (by omega))
  have HVU := hide (fun (w1 : World) (v : Value) (h : RowP w1 v (ra.app rb)) => values_any2 (ra.app rb) w1 v h (by rw [cnt_app]; omega))
  have HSP := hide (fun (S : Nat → Prop) (w1 : World) (v : Value) (h : RowV S w1 v ra) => span_any h (by omega))
  have HEN := hide (fun (S : Nat → Prop) (w1 : World) (v : Value) (h : RowV S w1 v (ra.app rb)) => enc_val2 h (by rw [cnt_app]; omega))
  have HRA := hide ha
  have HRB := hide hb
  have HFR := hide fr
  have HFU := hide fu
  obtain ⟨G, hG⟩ : ∃ G, faultR (ra.app rb) 0 = G := ⟨_, rfl⟩
  have tG : ((G : Int) != 0) = true := by rw [← hG]; simp; omega
  have HGG := hide hG
  clear hG
  have hla := cnt_len ra
  have hlb := cnt_len rb
  obtain ⟨aa, acap, rfl, -⟩ := ha
  obtain ⟨ab, bcap, rfl, b1, b2, -⟩ := hb
  unfold maxLen at b2
  have hUl : (ra.app rb).len = ra.len + rb.len := Row.app_len ra rb
  generalize hLR : ra.len = LR at *
  generalize hLB : rb.len = LB at *
  have HLR := hide hLR
  have HLB := hide hLB
  obtain ⟨LU, hLU⟩ : ∃ LU, LR + LB = LU := ⟨_, rfl⟩
  rw [hLU] at hUl
  rw [hUl] at HVU
  have HL1 := hide (show 0 + ra.len ≤ 1099511627776 by rw [hLR]; omega)
  have HL2 := hide (show LR + rb.len ≤ 1099511627776 by rw [hLB]; omega)
  have HM1 := hide (show 0 + ra.len = LR by rw [hLR]; omega)
  have HM2 := hide (show LR + rb.len = LU by rw [hLB]; exact hLU)
  have HJ := hide (fun wB a2 c2 l1 l2 x1 x2 o2 k2 => joined_row (w := w) (ra := ra) (rb := rb) (LU := LU) wB a2 c2 l1 l2 x1 x2 o2 k2 (by rw [hLR, hLB]; exact hLU))
  clear hLR hLB fr fu
  go_enter Try.func5, Try.ntmps5
  go_wp2_with (first
    | (go_at_call 8; refine (unhide HBa).mono ?_; rintro e w' ⟨rfl, hq⟩; have hq' := hq.symm; subst hq'; clear HBa)
    | (go_at_call 8; refine (unhide HBb).mono ?_; rintro e w' ⟨rfl, hq⟩; have hq' := hq.symm; subst hq'; clear HBb)
    | (go_at_call 9; refine (unhide HAW).mono ?_; rintro e w1 ⟨rfl, hk⟩; have HK0 := hide (hk.alloc (.cells #[] 62)); have HO := hide (own_new_nilP (w1 := w1) hk.size); clear hk HAW)
    | (at_builtin; refine wpList_append_parts (w0 := w) _ rfl (.tmp 25) (.tmp 26) rfl (l := []) rfl HK0 HO (hide rfl) rfl HRA HL1 LR HM1 ?_; intro a1 c1 wA l1 hl1 ho1 hk1; have HO1 : Hid (wA.ownsRow w.heap.size 62 7 (.slice a1 LR c1) LR (flatP l1)) := ho1; have HX1 := hide (unhide hl1); have HKA := hide (unhide hk1); have HLN : Hid (l1.length = LR) := (by have := rowE_len l1; rw [(unhide hl1).1, unhide HLR] at this; exact this.symm); clear ho1 hk1 hl1 HO HK0)
    | (at_builtin; refine wpList_append_parts (w0 := w) _ rfl (.tmp 27) (.tmp 28) rfl (l := l1) rfl HKA HO1 HLN rfl HRB HL2 LU HM2 ?_; intro a2 c2 wB l2 hl2 ho2 hk2; have HU : Hid (RowP wB (.slice a2 LU c2) (ra.app rb)) := (unhide HJ) wB a2 c2 l1 l2 (unhide HX1) (unhide hl2) (unhide ho2) (unhide hk2); have hcp := (unhide HU).caps; have HK1 := hide (unhide hk2); have HN1 := hide (unhide HVA wB (unhide hk2)); clear ho2 hk2 hl2 HO1 HKA HX1 HLN)
    | (go_at_call 11; refine (unhide HN1).mono ?_; rintro e w2 ⟨⟨k1, k2, rfl, hrv⟩, hk⟩; have HK2 := hide ((unhide HK1).trans hk (by simp)); have HU2 := hide ((unhide HU).kept hk); have HN2 := hide (unhide HSP _ _ _ hrv); clear hrv hk HN1)
    | (go_at_call 17; refine (unhide HN2).mono ?_; rintro e w3 ⟨hk, hh⟩; have hh2 : ∃ a n c a2 n2 c2, e = .returned (.tuple #[.slice a n c, .slice a2 n2 c2, .int .i64 0]) ∧ Sees w3 (.slice a n c) (codeR ra) ∧ Sees w3 (.slice a2 n2 c2) (codeR ra ++ [8]) := (by rcases hh with ⟨_, h⟩ | ⟨hf, _⟩; exact h; exact absurd (unhide HFR) hf); obtain ⟨fa, fn, fc, ta, tn, tc, rfl, hsf, hst⟩ := hh2; have HSF := hide hsf; have HST := hide hst; have HK3 := hide ((unhide HK2).trans hk (by simp)); have HU3 := hide ((unhide HU2).kept hk); have HN3 := hide (unhide HVU w3 _ (unhide HU3)); clear hh hk hsf hst HN2)
    | (go_at_call 11; refine (unhide HN3).mono ?_; rintro e w4 ⟨⟨k3, k4, rfl, hrv⟩, hk⟩; have HK4 := hide ((unhide HK3).trans hk (by simp)); have HK34 := hide hk; have HN4 := hide (unhide HEN _ _ _ hrv); clear hrv hk HN3)
    | (go_at_call 10; refine (unhide HN4).mono ?_; rintro e w5 ⟨hk, hh⟩; have hh2 : e = .returned (.tuple #[.slice none 0 0, .int .i64 (G : Nat)]) := (by rcases hh with ⟨hf, _⟩ | ⟨_, h⟩; exact absurd hf (unhide HFU); rw [unhide HGG] at h; exact h); subst hh2; have HK5 := hide ((unhide HK4).trans hk (by simp)); clear hh hk HN4))
  go_ret
  exact ⟨rfl, unhide HK5⟩
end Go.Proofs.Ytigmofbammofbab
