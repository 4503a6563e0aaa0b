/- KeysBeside: the cases jD -/
import Derived.Test.YtigmofbammofbabKBesH
namespace Go.Proofs.Ytigmofbammofbab
open Go.RowKit

set_option maxRecDepth 100000 in
set_option maxHeartbeats 4000000 in
theorem bes_jD {w : World} {va vb : Value} {ra rb : Row} (ha : RowP w va ra) (hb : RowP w vb rb) (ca : cnt ra ≤ 131072) (cb : cnt rb ≤ 131072) (fr : faultR ra 0 = 0) (fu : faultR (ra.app rb) 0 = 0) (hge : ra.len ≤ (ra.app rb).len) (hz : cmpR ra ((ra.app rb).take ra.len) = 0) (g1 : cmpL (codeR ra) (codeR (ra.app rb)) ≤ 0) (g2 : cmpL (codeR (ra.app rb)) (codeR ra ++ [8]) < 0) :
    Calls Try.prog 5 #[va, vb, .bool true] w fun e w' => e = .returned (.bool true) ∧ Kept [] w w' := by
  have HBa := hide (beyond_any ha)
  have HBb := hide (beyond_any hb)
  rw [show decide (131072 < cnt ra) = false by simp; omega] at HBa
  rw [show decide (131072 < cnt rb) = false by simp; omega] at HBb
  have HAW := hide (awake_any w)
  have HVA := hide (fun (w1 : World) (hk : Kept [] w w1) => values_any2 ra w1 va (ha.kept hk) (by omega))
  have HVU := hide (fun (w1 : World) (v : Value) (h : RowP w1 v (ra.app rb)) => values_any2 (ra.app rb) w1 v h (by rw [cnt_app]; omega))
  have HSP := hide (fun (S : Nat → Prop) (w1 : World) (v : Value) (h : RowV S w1 v ra) => span_any h (by omega))
  have HEN := hide (fun (S : Nat → Prop) (w1 : World) (v : Value) (h : RowV S w1 v (ra.app rb)) => enc_val2 h (by rw [cnt_app]; omega))
  have HRA := hide ha
  have HRB := hide hb
  have HFR := hide fr
  have HFU := hide fu
  have HVT := hide (fun (w1 : World) (v : Value) (h : RowP w1 v ((ra.app rb).take ra.len)) => values_any2 ((ra.app rb).take ra.len) w1 v h (by have := cnt_take ra.len (ra.app rb); rw [cnt_app] at this; omega))
  have htl := Row.take_len ra.len (ra.app rb) hge
  have hft := (fault_app ((ra.app rb).take ra.len) ((ra.app rb).drop ra.len) 0 (by rw [Row.take_drop]; exact fu)).1
  obtain ⟨z, hz'⟩ : ∃ z, cmpR ra ((ra.app rb).take ra.len) = z := ⟨_, rfl⟩
  rw [hz'] at hz
  have HCM : Hid (∀ (S : Nat → Prop) (w1 : World) (v1 v2 : Value), RowV S w1 v1 ra → RowV S w1 v2 ((ra.app rb).take ra.len) → Calls Try.prog 16 #[v1, v2] w1 fun e w' => Kept [] w1 w' ∧ e = .returned (.tuple #[.int .i64 z, .int .i64 0])) := by
    intro S w1 v1 v2 h1 h2
    have := compare_any h1 h2
    rw [fr, hft, hz'] at this
    simpa using this
  have HTK := hide (fun (w1 : World) (a : Option Addr) (n cap : Nat) (h : RowP w1 (.slice a n cap) (ra.app rb)) => h.take ra.len hge)
  clear hft hz'
  rw [htl] at HVT
  have HAH1 := hide (fun (w1 : World) (v1 v2 : Value) h1 h2 => ahead_any (w := w1) (v1 := v1) (v2 := v2) (p := codeR ra) (q := codeR (ra.app rb)) h1 h2)
  have HAH2 := hide (fun (w1 : World) (v1 v2 : Value) h1 h2 => ahead_any (w := w1) (v1 := v1) (v2 := v2) (p := codeR (ra.app rb)) (q := codeR ra ++ [8]) h1 h2)
  generalize cmpL (codeR ra) (codeR (ra.app rb)) = c1 at *
  generalize cmpL (codeR (ra.app rb)) (codeR ra ++ [8]) = c2 at *
  have hla := cnt_len ra
  have hlb := cnt_len rb
  obtain ⟨aa, acap, rfl, -⟩ := ha
  obtain ⟨ab, bcap, rfl, b1, b2, -⟩ := hb
  unfold maxLen at b2
  have hUl : (ra.app rb).len = ra.len + rb.len := Row.app_len ra rb
  generalize hLR : ra.len = LR at *
  generalize hLB : rb.len = LB at *
  have HLR := hide hLR
  have HLB := hide hLB
  obtain ⟨LU, hLU⟩ : ∃ LU, LR + LB = LU := ⟨_, rfl⟩
  rw [hLU] at hUl
  rw [hUl] at HVU
  have HL1 := hide (show 0 + ra.len ≤ 1099511627776 by rw [hLR]; omega)
  have HL2 := hide (show LR + rb.len ≤ 1099511627776 by rw [hLB]; omega)
  have HM1 := hide (show 0 + ra.len = LR by rw [hLR]; omega)
  have HM2 := hide (show LR + rb.len = LU by rw [hLB]; exact hLU)
  have HJ := hide (fun wB a2 c2 l1 l2 x1 x2 o2 k2 => joined_row (w := w) (ra := ra) (rb := rb) (LU := LU) wB a2 c2 l1 l2 x1 x2 o2 k2 (by rw [hLR, hLB]; exact hLU))
  clear hLR hLB fr fu
  have q1 : ((LU : Int) ≥ (LR : Int)) = True := by simp; omega
  have q2 : (z == 0) = true := by rw [hz]; rfl
  have q3 : (c1 ≤ 0) = True := by simp [g1]
  have q4 : (c2 < 0) = True := by simp [g2]
  go_enter Try.func5, Try.ntmps5
  go_wp2_with (first
    | (go_at_call 8; refine (unhide HBa).mono ?_; rintro e w' ⟨rfl, hq⟩; have hq' := hq.symm; subst hq'; clear HBa)
    | (go_at_call 8; refine (unhide HBb).mono ?_; rintro e w' ⟨rfl, hq⟩; have hq' := hq.symm; subst hq'; clear HBb)
    | (go_at_call 9; refine (unhide HAW).mono ?_; rintro e w1 ⟨rfl, hk⟩; have HK0 := hide (hk.alloc (.cells #[] 62)); have HO := hide (own_new_nilP (w1 := w1) hk.size); clear hk HAW)
    | (at_builtin; refine wpList_append_parts (w0 := w) _ rfl (.tmp 25) (.tmp 26) rfl (l := []) rfl HK0 HO (hide rfl) rfl HRA HL1 LR HM1 ?_; intro a1 c1 wA l1 hl1 ho1 hk1; have HO1 : Hid (wA.ownsRow w.heap.size 62 7 (.slice a1 LR c1) LR (flatP l1)) := ho1; have HX1 := hide (unhide hl1); have HKA := hide (unhide hk1); have HLN : Hid (l1.length = LR) := (by have := rowE_len l1; rw [(unhide hl1).1, unhide HLR] at this; exact this.symm); clear ho1 hk1 hl1 HO HK0)
    | (at_builtin; refine wpList_append_parts (w0 := w) _ rfl (.tmp 27) (.tmp 28) rfl (l := l1) rfl HKA HO1 HLN rfl HRB HL2 LU HM2 ?_; intro a2 c2 wB l2 hl2 ho2 hk2; have HU : Hid (RowP wB (.slice a2 LU c2) (ra.app rb)) := (unhide HJ) wB a2 c2 l1 l2 (unhide HX1) (unhide hl2) (unhide ho2) (unhide hk2); have hcp := (unhide HU).caps; have HK1 := hide (unhide hk2); have HN1 := hide (unhide HVA wB (unhide hk2)); clear ho2 hk2 hl2 HO1 HKA HX1 HLN)
    | (go_at_call 11; refine (unhide HN1).mono ?_; rintro e w2 ⟨⟨k1, k2, rfl, hrv⟩, hk⟩; have HK2 := hide ((unhide HK1).trans hk (by simp)); have HU2 := hide ((unhide HU).kept hk); have HN2 := hide (unhide HSP _ _ _ hrv); clear hrv hk HN1)
    | (go_at_call 17; refine (unhide HN2).mono ?_; rintro e w3 ⟨hk, hh⟩; have hh2 : ∃ a n c a2 n2 c2, e = .returned (.tuple #[.slice a n c, .slice a2 n2 c2, .int .i64 0]) ∧ Sees w3 (.slice a n c) (codeR ra) ∧ Sees w3 (.slice a2 n2 c2) (codeR ra ++ [8]) := (by rcases hh with ⟨_, h⟩ | ⟨hf, _⟩; exact h; exact absurd (unhide HFR) hf); obtain ⟨fa, fn, fc, ta, tn, tc, rfl, hsf, hst⟩ := hh2; have HSF := hide hsf; have HST := hide hst; have HK3 := hide ((unhide HK2).trans hk (by simp)); have HU3 := hide ((unhide HU2).kept hk); have HN3 := hide (unhide HVU w3 _ (unhide HU3)); clear hh hk hsf hst HN2)
    | (go_at_call 11; refine (unhide HN3).mono ?_; rintro e w4 ⟨⟨k3, k4, rfl, hrv⟩, hk⟩; have HK4 := hide ((unhide HK3).trans hk (by simp)); have HK34 := hide hk; have HN4 := hide (unhide HEN _ _ _ hrv); clear hrv hk HN3)
    | (go_at_call 10; refine (unhide HN4).mono ?_; rintro e w5 ⟨hk, hh⟩; have hh2 : ∃ a n c, e = .returned (.tuple #[.slice a n c, .int .i64 0]) ∧ Sees w5 (.slice a n c) (codeR (ra.app rb)) := (by rcases hh with ⟨_, h⟩ | ⟨hf, _⟩; exact h; exact absurd (unhide HFU) hf); obtain ⟨pa, pn, pc, rfl, hsp⟩ := hh2; have HSP5 := hide hsp; have HK5 := hide ((unhide HK4).trans hk (by simp)); have HK35 := hide ((unhide HK34).trans hk (by simp)); clear hh hk hsp HN4))
  go_region_with (first
    | (go_at_call 11; refine (unhide HVA _ ?_).mono ?_; (first | exact unhide HK5 | exact (unhide HK5).drew | exact (unhide HK5).drew.drew); rintro e w6 ⟨⟨k5, k6, rfl, hrv⟩, hk⟩; have HK56 : Hid (Kept [] w5 w6) := hide (Kept.trans (by first | exact Kept.refl [] w5 | exact (Kept.refl [] w5).drew | exact (Kept.refl [] w5).drew.drew) hk (by simp)); have HR6 := hide hrv.any; clear hrv hk HVA)
    | (go_at_call 11; refine (unhide HVT _ _ (unhide HTK _ _ LU _ ?_)).mono ?_; (first | exact (unhide HU3).kept ((unhide HK35).trans (unhide HK56) (by simp)) | exact (unhide HU3).kept ((unhide HK35).trans (unhide HK56) (by simp)).drew); rintro e w7 ⟨⟨k7, k8, rfl, hrv⟩, hk⟩; have HK67 : Hid (Kept [] w6 w7) := hide (Kept.trans (by first | exact Kept.refl [] w6 | exact (Kept.refl [] w6).drew) hk (by simp)); have HR67 := hide ((unhide HR6).kept (unhide HK67) (by simp)); have HR7 := hide hrv.any; have HK7 := hide ((unhide HK56).trans (unhide HK67) (by simp)); clear hrv hk HVT HTK)
    | (go_at_call 16; refine (unhide HCM Any _ _ _ ?_ ?_).mono ?_; (first | exact unhide HR67 | exact (unhide HR67).kept (Kept.refl [] w7).drew (by simp)); (first | exact unhide HR7 | exact (unhide HR7).kept (Kept.refl [] w7).drew (by simp)); rintro e w8 ⟨hk, rfl⟩; have HK8 : Hid (Kept [] w5 w8) := hide ((unhide HK7).trans (Kept.trans (by first | exact Kept.refl [] w7 | exact (Kept.refl [] w7).drew) hk (by simp)) (by simp)); clear hk HCM))
  all_goals have HN8 := hide (unhide HAH1 w8 _ _ (((unhide HSF).kept (unhide HK35) (Or.inr (by simp))).kept (unhide HK8) (Or.inr (by simp))) ((unhide HSP5).kept (unhide HK8) (Or.inr (by simp))))
  all_goals have HK8' := hide ((unhide HK5).trans (unhide HK8) (by simp))
  all_goals (go_wp2_with (first
    | (go_at_call 18; refine (unhide HN8).mono ?_; rintro e w9 ⟨rfl, hk⟩; have HK9 := hide ((unhide HK8').trans hk (by simp)); have HN9 := hide (unhide HAH2 w9 _ _ (((unhide HSP5).kept (unhide HK8) (Or.inr (by simp))).kept hk (Or.inr (by simp))) ((((unhide HST).kept (unhide HK35) (Or.inr (by simp))).kept (unhide HK8) (Or.inr (by simp))).kept hk (Or.inr (by simp)))); clear hk HN8)
    | (go_at_call 18; refine (unhide HN9).mono ?_; rintro e w10 ⟨rfl, hk⟩; have HK10 := hide ((unhide HK9).trans hk (by simp)); clear hk HN9)))
  all_goals go_ret
  all_goals exact ⟨rfl, unhide HK10⟩
end Go.Proofs.Ytigmofbammofbab
