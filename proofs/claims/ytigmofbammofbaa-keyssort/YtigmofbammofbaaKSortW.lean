/- KeysSort: the codes of two rows stand as the rows do. -/
import Derived.Test.YtigmofbammofbaaKSortH
namespace Go.Proofs.Ytigmofbammofbaa
open Go.RowKit

set_option maxRecDepth 100000 in
set_option maxHeartbeats 2000000 in
theorem sort_ok {w : World} {va vb : Value} {ra rb : Row} (ha : RowP w va ra) (hb : RowP w vb rb) (ca : cnt ra ≤ 131072) (cb : cnt rb ≤ 131072) (hfa : faultR ra 0 = 0) (hfb : faultR rb 0 = 0) :
    Calls Try.prog 7 #[va, vb] w fun e w' => e = .returned (.bool true) ∧ Kept [] w w' := by
  have HBA := hide (beyond_any ha)
  have HBB := hide (beyond_any hb)
  rw [show decide (131072 < cnt ra) = false by simp; omega] at HBA
  rw [show decide (131072 < cnt rb) = false by simp; omega] at HBB
  have HA := hide (awake_any w)
  have HVA := hide (fun (w1 : World) (hk : Kept [] w w1) => values_any ra w1 va (ha.kept hk) ca)
  have HVB := hide (fun (w1 : World) (hk : Kept [] w w1) => values_any rb w1 vb (hb.kept hk) cb)
  obtain ⟨a, acap, rfl, -⟩ := ha
  obtain ⟨b, bcap, rfl, -⟩ := hb
  have HCA := hide ca
  have HCB := hide cb
  have HFa := hide hfa
  have HFb := hide hfb
  have hla := faultR_lt ra 0
  have hlb := faultR_lt rb 0
  have HCR : Hid (∀ (S : Nat → Prop) (w1 : World) (v1 v2 : Value), RowV S w1 v1 ra → RowV S w1 v2 rb → Calls Try.prog 21 #[v1, v2] w1 fun e w' => Kept [] w1 w' ∧ e = .returned (.tuple #[.int .i64 (cmpL (codeR ra) (codeR rb)), .int .i64 0])) := by
    intro S w1 v1 v2 h1 h2
    have := compare_any h1 h2
    rw [hfa, hfb, sort_code (fine_of_fault hfa) (fine_of_fault hfb) h1.ok h2.ok] at this
    simpa using this
  have HAH := hide (fun (w1 : World) (v1 v2 : Value) h1 h2 => ahead_any (w := w1) (v1 := v1) (v2 := v2) (p := codeR ra) (q := codeR rb) h1 h2)
  generalize cmpL (codeR ra) (codeR rb) = z at *
  generalize ra.len = LA at *
  generalize rb.len = LB at *
  clear ca cb hfa hfb hla hlb
  go_enter Try.func7, Try.ntmps7
  go_wp2_with (first
    | (go_at_call 9; refine (unhide HBA).mono ?_; rintro e w' ⟨rfl, hq⟩; have hq' := hq.symm; subst hq'; clear HBA)
    | (go_at_call 9; refine (unhide HBB).mono ?_; rintro e w' ⟨rfl, hq⟩; have hq' := hq.symm; subst hq'; clear HBB)
    | (go_at_call 24; refine (unhide HA).mono ?_; rintro e w1 ⟨rfl, hk⟩; have HK1 := hide hk; have HV1 := hide (unhide HVA w1 hk); clear hk)
    | (go_at_call 11; refine (unhide HV1).mono ?_; rintro e w2 ⟨⟨v1, c1, rfl, hrv⟩, hk⟩; have HK2 := hide ((unhide HK1).trans hk (by simp)); have HE1 := hide (enc_val hrv (unhide HCA)); clear hrv hk HV1)
    | (go_at_call 13; refine (unhide HE1).mono ?_; rintro e w3 ⟨hk, hh⟩; have hh2 : ∃ a n cap, e = .returned (.tuple #[.slice a n cap, .int .i64 0]) ∧ Sees w3 (.slice a n cap) (codeR ra) := (by rcases hh with ⟨_, h⟩ | ⟨hf, _⟩; exact h; exact absurd (unhide HFa) hf); obtain ⟨aa, an, ac, rfl, hsn⟩ := hh2; have HSa := hide hsn; clear hh hsn; have HK3 := hide ((unhide HK2).trans hk (by simp)); have HV2 := hide (unhide HVB w3 (unhide HK3)); clear hk HE1)
    | (go_at_call 11; refine (unhide HV2).mono ?_; rintro e w4 ⟨⟨v2, c2, rfl, hrv⟩, hk⟩; have HK4 := hide ((unhide HK3).trans hk (by simp)); have HE2 := hide (enc_val hrv (unhide HCB)); have HK34 := hide hk; clear hrv hk HV2)
    | (go_at_call 13; refine (unhide HE2).mono ?_; rintro e w5 ⟨hk, hh⟩; have hh2 : ∃ a n cap, e = .returned (.tuple #[.slice a n cap, .int .i64 0]) ∧ Sees w5 (.slice a n cap) (codeR rb) := (by rcases hh with ⟨_, h⟩ | ⟨hf, _⟩; exact h; exact absurd (unhide HFb) hf); obtain ⟨ba, bn, bc, rfl, hsn⟩ := hh2; have HSb := hide hsn; clear hh hsn; have HK5 := hide ((unhide HK4).trans hk (by simp)); have HK35 := hide ((unhide HK34).trans hk (by simp)); have HV3 := hide (unhide HVA w5 (unhide HK5)); clear hk HE2)
    | (go_at_call 11; refine (unhide HV3).mono ?_; rintro e w6 ⟨⟨v3, c3, rfl, hrv⟩, hk⟩; have HK6 := hide ((unhide HK5).trans hk (by simp)); have HK56 := hide hk; have HR3 := hide hrv.any; have HV4 := hide (unhide HVB w6 (unhide HK6)); clear hrv hk HV3)
    | (go_at_call 11; refine (unhide HV4).mono ?_; rintro e w7 ⟨⟨v4, c4, rfl, hrv⟩, hk⟩; have HK7 := hide ((unhide HK6).trans hk (by simp)); have HK57 := hide ((unhide HK56).trans hk (by simp)); have HC7 := hide (unhide HCR _ _ _ _ ((unhide HR3).kept hk (by simp)) hrv.any); clear hrv hk HV4)
    | (go_at_call 21; refine (unhide HC7).mono ?_; rintro e w8 ⟨hk, rfl⟩; have HK8 := hide ((unhide HK7).trans hk (by simp)); have k58 := (unhide HK57).trans hk (by simp); have HAH2 := hide (unhide HAH w8 _ _ ((unhide HSa).kept ((unhide HK35).trans k58 (by simp)) (Or.inr (by simp))) ((unhide HSb).kept k58 (Or.inr (by simp)))); clear hk k58)
    | (go_at_call 25; refine (unhide HAH2).mono ?_; rintro e w9 ⟨rfl, hk⟩; have HK9 := hide ((unhide HK8).trans hk (by simp)); clear hk))
  go_ret
  exact ⟨rfl, unhide HK9⟩

set_option maxRecDepth 100000 in
set_option maxHeartbeats 2000000 in
theorem sort_fb {w : World} {va vb : Value} {ra rb : Row} (ha : RowP w va ra) (hb : RowP w vb rb) (ca : cnt ra ≤ 131072) (cb : cnt rb ≤ 131072) (hfa : faultR ra 0 = 0) (hfb : faultR rb 0 ≠ 0) :
    Calls Try.prog 7 #[va, vb] w fun e w' => e = .returned (.bool true) ∧ Kept [] w w' := by
  have HBA := hide (beyond_any ha)
  have HBB := hide (beyond_any hb)
  rw [show decide (131072 < cnt ra) = false by simp; omega] at HBA
  rw [show decide (131072 < cnt rb) = false by simp; omega] at HBB
  have HA := hide (awake_any w)
  have HVA := hide (fun (w1 : World) (hk : Kept [] w w1) => values_any ra w1 va (ha.kept hk) ca)
  have HVB := hide (fun (w1 : World) (hk : Kept [] w w1) => values_any rb w1 vb (hb.kept hk) cb)
  obtain ⟨a, acap, rfl, -⟩ := ha
  obtain ⟨b, bcap, rfl, -⟩ := hb
  have HCA := hide ca
  have HCB := hide cb
  have HFa := hide hfa
  have HFb := hide hfb
  have hla := faultR_lt ra 0
  have hlb := faultR_lt rb 0
  obtain ⟨fb, hfb'⟩ : ∃ fb, faultR rb 0 = fb := ⟨_, rfl⟩
  have HCR : Hid (∀ (S : Nat → Prop) (w1 : World) (v1 v2 : Value), RowV S w1 v1 ra → RowV S w1 v2 rb → Calls Try.prog 21 #[v1, v2] w1 fun e w' => Kept [] w1 w' ∧ e = .returned (.tuple #[.int .i64 0, .int .i64 (fb : Nat)])) := by
    intro S w1 v1 v2 h1 h2
    have := compare_any h1 h2
    rw [if_neg (fun h => hfb h.2), if_pos hfa, hfb'] at this
    exact this
  have t1 : ((fb : Int) != 0) = true := by rw [← hfb']; simp; omega
  generalize ra.len = LA at *
  generalize rb.len = LB at *
  have HFB' := hide hfb'
  clear ca cb hfa hfb hla hlb hfb'
  go_enter Try.func7, Try.ntmps7
  go_wp2_with (first
    | (go_at_call 9; refine (unhide HBA).mono ?_; rintro e w' ⟨rfl, hq⟩; have hq' := hq.symm; subst hq'; clear HBA)
    | (go_at_call 9; refine (unhide HBB).mono ?_; rintro e w' ⟨rfl, hq⟩; have hq' := hq.symm; subst hq'; clear HBB)
    | (go_at_call 24; refine (unhide HA).mono ?_; rintro e w1 ⟨rfl, hk⟩; have HK1 := hide hk; have HV1 := hide (unhide HVA w1 hk); clear hk)
    | (go_at_call 11; refine (unhide HV1).mono ?_; rintro e w2 ⟨⟨v1, c1, rfl, hrv⟩, hk⟩; have HK2 := hide ((unhide HK1).trans hk (by simp)); have HE1 := hide (enc_val hrv (unhide HCA)); clear hrv hk HV1)
    | (go_at_call 13; refine (unhide HE1).mono ?_; rintro e w3 ⟨hk, hh⟩; have hh2 : ∃ a n cap, e = .returned (.tuple #[.slice a n cap, .int .i64 0]) ∧ Sees w3 (.slice a n cap) (codeR ra) := (by rcases hh with ⟨_, h⟩ | ⟨hf, _⟩; exact h; exact absurd (unhide HFa) hf); obtain ⟨aa, an, ac, rfl, hsn⟩ := hh2; have HSa := hide hsn; clear hh hsn; have HK3 := hide ((unhide HK2).trans hk (by simp)); have HV2 := hide (unhide HVB w3 (unhide HK3)); clear hk HE1)
    | (go_at_call 11; refine (unhide HV2).mono ?_; rintro e w4 ⟨⟨v2, c2, rfl, hrv⟩, hk⟩; have HK4 := hide ((unhide HK3).trans hk (by simp)); have HE2 := hide (enc_val hrv (unhide HCB)); have HK34 := hide hk; clear hrv hk HV2)
    | (go_at_call 13; refine (unhide HE2).mono ?_; rintro e w5 ⟨hk, hh⟩; have hh2 : e = .returned (.tuple #[.slice none 0 0, .int .i64 (fb : Nat)]) := (by rcases hh with ⟨hf, _⟩ | ⟨_, h⟩; exact absurd hf (unhide HFb); rw [unhide HFB'] at h; exact h); subst hh2; clear hh; have HK5 := hide ((unhide HK4).trans hk (by simp)); have HK35 := hide ((unhide HK34).trans hk (by simp)); have HV3 := hide (unhide HVA w5 (unhide HK5)); clear hk HE2)
    | (go_at_call 11; refine (unhide HV3).mono ?_; rintro e w6 ⟨⟨v3, c3, rfl, hrv⟩, hk⟩; have HK6 := hide ((unhide HK5).trans hk (by simp)); have HK56 := hide hk; have HR3 := hide hrv.any; have HV4 := hide (unhide HVB w6 (unhide HK6)); clear hrv hk HV3)
    | (go_at_call 11; refine (unhide HV4).mono ?_; rintro e w7 ⟨⟨v4, c4, rfl, hrv⟩, hk⟩; have HK7 := hide ((unhide HK6).trans hk (by simp)); have HK57 := hide ((unhide HK56).trans hk (by simp)); have HC7 := hide (unhide HCR _ _ _ _ ((unhide HR3).kept hk (by simp)) hrv.any); clear hrv hk HV4)
    | (go_at_call 21; refine (unhide HC7).mono ?_; rintro e w8 ⟨hk, rfl⟩; have HK8 := hide ((unhide HK7).trans hk (by simp)); clear hk))
  go_ret
  exact ⟨rfl, unhide HK8⟩

set_option maxRecDepth 100000 in
set_option maxHeartbeats 2000000 in
theorem sort_fa {w : World} {va vb : Value} {ra rb : Row} (ha : RowP w va ra) (hb : RowP w vb rb) (ca : cnt ra ≤ 131072) (cb : cnt rb ≤ 131072) (hfa : faultR ra 0 ≠ 0) (hfb : faultR rb 0 = 0) :
    Calls Try.prog 7 #[va, vb] w fun e w' => e = .returned (.bool true) ∧ Kept [] w w' := by
  have HBA := hide (beyond_any ha)
  have HBB := hide (beyond_any hb)
  rw [show decide (131072 < cnt ra) = false by simp; omega] at HBA
  rw [show decide (131072 < cnt rb) = false by simp; omega] at HBB
  have HA := hide (awake_any w)
  have HVA := hide (fun (w1 : World) (hk : Kept [] w w1) => values_any ra w1 va (ha.kept hk) ca)
  have HVB := hide (fun (w1 : World) (hk : Kept [] w w1) => values_any rb w1 vb (hb.kept hk) cb)
  obtain ⟨a, acap, rfl, -⟩ := ha
  obtain ⟨b, bcap, rfl, -⟩ := hb
  have HCA := hide ca
  have HCB := hide cb
  have HFa := hide hfa
  have HFb := hide hfb
  have hla := faultR_lt ra 0
  have hlb := faultR_lt rb 0
  obtain ⟨fa, hfa'⟩ : ∃ fa, faultR ra 0 = fa := ⟨_, rfl⟩
  have HCR : Hid (∀ (S : Nat → Prop) (w1 : World) (v1 v2 : Value), RowV S w1 v1 ra → RowV S w1 v2 rb → Calls Try.prog 21 #[v1, v2] w1 fun e w' => Kept [] w1 w' ∧ e = .returned (.tuple #[.int .i64 0, .int .i64 (fa : Nat)])) := by
    intro S w1 v1 v2 h1 h2
    have := compare_any h1 h2
    rw [if_neg (fun h => hfa h.1), if_neg hfa, hfa'] at this
    exact this
  have t1 : ((fa : Int) != 0) = true := by rw [← hfa']; simp; omega
  generalize ra.len = LA at *
  generalize rb.len = LB at *
  have HFA' := hide hfa'
  clear ca cb hfa hfb hla hlb hfa'
  go_enter Try.func7, Try.ntmps7
  go_wp2_with (first
    | (go_at_call 9; refine (unhide HBA).mono ?_; rintro e w' ⟨rfl, hq⟩; have hq' := hq.symm; subst hq'; clear HBA)
    | (go_at_call 9; refine (unhide HBB).mono ?_; rintro e w' ⟨rfl, hq⟩; have hq' := hq.symm; subst hq'; clear HBB)
    | (go_at_call 24; refine (unhide HA).mono ?_; rintro e w1 ⟨rfl, hk⟩; have HK1 := hide hk; have HV1 := hide (unhide HVA w1 hk); clear hk)
    | (go_at_call 11; refine (unhide HV1).mono ?_; rintro e w2 ⟨⟨v1, c1, rfl, hrv⟩, hk⟩; have HK2 := hide ((unhide HK1).trans hk (by simp)); have HE1 := hide (enc_val hrv (unhide HCA)); clear hrv hk HV1)
    | (go_at_call 13; refine (unhide HE1).mono ?_; rintro e w3 ⟨hk, hh⟩; have hh2 : e = .returned (.tuple #[.slice none 0 0, .int .i64 (fa : Nat)]) := (by rcases hh with ⟨hf, _⟩ | ⟨_, h⟩; exact absurd hf (unhide HFa); rw [unhide HFA'] at h; exact h); subst hh2; clear hh; have HK3 := hide ((unhide HK2).trans hk (by simp)); have HV2 := hide (unhide HVB w3 (unhide HK3)); clear hk HE1)
    | (go_at_call 11; refine (unhide HV2).mono ?_; rintro e w4 ⟨⟨v2, c2, rfl, hrv⟩, hk⟩; have HK4 := hide ((unhide HK3).trans hk (by simp)); have HE2 := hide (enc_val hrv (unhide HCB)); have HK34 := hide hk; clear hrv hk HV2)
    | (go_at_call 13; refine (unhide HE2).mono ?_; rintro e w5 ⟨hk, hh⟩; have hh2 : ∃ a n cap, e = .returned (.tuple #[.slice a n cap, .int .i64 0]) ∧ Sees w5 (.slice a n cap) (codeR rb) := (by rcases hh with ⟨_, h⟩ | ⟨hf, _⟩; exact h; exact absurd (unhide HFb) hf); obtain ⟨ba, bn, bc, rfl, hsn⟩ := hh2; have HSb := hide hsn; clear hh hsn; have HK5 := hide ((unhide HK4).trans hk (by simp)); have HK35 := hide ((unhide HK34).trans hk (by simp)); have HV3 := hide (unhide HVA w5 (unhide HK5)); clear hk HE2)
    | (go_at_call 11; refine (unhide HV3).mono ?_; rintro e w6 ⟨⟨v3, c3, rfl, hrv⟩, hk⟩; have HK6 := hide ((unhide HK5).trans hk (by simp)); have HK56 := hide hk; have HR3 := hide hrv.any; have HV4 := hide (unhide HVB w6 (unhide HK6)); clear hrv hk HV3)
    | (go_at_call 11; refine (unhide HV4).mono ?_; rintro e w7 ⟨⟨v4, c4, rfl, hrv⟩, hk⟩; have HK7 := hide ((unhide HK6).trans hk (by simp)); have HK57 := hide ((unhide HK56).trans hk (by simp)); have HC7 := hide (unhide HCR _ _ _ _ ((unhide HR3).kept hk (by simp)) hrv.any); clear hrv hk HV4)
    | (go_at_call 21; refine (unhide HC7).mono ?_; rintro e w8 ⟨hk, rfl⟩; have HK8 := hide ((unhide HK7).trans hk (by simp)); clear hk))
  go_ret
  exact ⟨rfl, unhide HK8⟩

set_option maxRecDepth 100000 in
set_option maxHeartbeats 2000000 in
theorem sort_ff {w : World} {va vb : Value} {ra rb : Row} (ha : RowP w va ra) (hb : RowP w vb rb) (ca : cnt ra ≤ 131072) (cb : cnt rb ≤ 131072) (hfa : faultR ra 0 ≠ 0) (hfb : faultR rb 0 ≠ 0) :
    Calls Try.prog 7 #[va, vb] w fun e w' => e = .returned (.bool true) ∧ Kept [] w w' := by
  have HBA := hide (beyond_any ha)
  have HBB := hide (beyond_any hb)
  rw [show decide (131072 < cnt ra) = false by simp; omega] at HBA
  rw [show decide (131072 < cnt rb) = false by simp; omega] at HBB
  have HA := hide (awake_any w)
  have HVA := hide (fun (w1 : World) (hk : Kept [] w w1) => values_any ra w1 va (ha.kept hk) ca)
  have HVB := hide (fun (w1 : World) (hk : Kept [] w w1) => values_any rb w1 vb (hb.kept hk) cb)
  obtain ⟨a, acap, rfl, -⟩ := ha
  obtain ⟨b, bcap, rfl, -⟩ := hb
  have HCA := hide ca
  have HCB := hide cb
  have HFa := hide hfa
  have HFb := hide hfb
  have hla := faultR_lt ra 0
  have hlb := faultR_lt rb 0
  obtain ⟨fa, hfa'⟩ : ∃ fa, faultR ra 0 = fa := ⟨_, rfl⟩
  have HCR : Hid (∀ (S : Nat → Prop) (w1 : World) (v1 v2 : Value), RowV S w1 v1 ra → RowV S w1 v2 rb → Calls Try.prog 21 #[v1, v2] w1 fun e w' => Kept [] w1 w' ∧ e = .returned (.tuple #[.int .i64 0, .int .i64 (fa : Nat)])) := by
    intro S w1 v1 v2 h1 h2
    have := compare_any h1 h2
    rw [if_neg (fun h => hfa h.1), if_neg hfa, hfa'] at this
    exact this
  have t1 : ((fa : Int) != 0) = true := by rw [← hfa']; simp; omega
  obtain ⟨fb, hfb'⟩ : ∃ fb, faultR rb 0 = fb := ⟨_, rfl⟩
  generalize ra.len = LA at *
  generalize rb.len = LB at *
  have HFA' := hide hfa'
  have HFB' := hide hfb'
  clear ca cb hfa hfb hla hlb hfa' hfb'
  go_enter Try.func7, Try.ntmps7
  go_wp2_with (first
    | (go_at_call 9; refine (unhide HBA).mono ?_; rintro e w' ⟨rfl, hq⟩; have hq' := hq.symm; subst hq'; clear HBA)
    | (go_at_call 9; refine (unhide HBB).mono ?_; rintro e w' ⟨rfl, hq⟩; have hq' := hq.symm; subst hq'; clear HBB)
    | (go_at_call 24; refine (unhide HA).mono ?_; rintro e w1 ⟨rfl, hk⟩; have HK1 := hide hk; have HV1 := hide (unhide HVA w1 hk); clear hk)
    | (go_at_call 11; refine (unhide HV1).mono ?_; rintro e w2 ⟨⟨v1, c1, rfl, hrv⟩, hk⟩; have HK2 := hide ((unhide HK1).trans hk (by simp)); have HE1 := hide (enc_val hrv (unhide HCA)); clear hrv hk HV1)
    | (go_at_call 13; refine (unhide HE1).mono ?_; rintro e w3 ⟨hk, hh⟩; have hh2 : e = .returned (.tuple #[.slice none 0 0, .int .i64 (fa : Nat)]) := (by rcases hh with ⟨hf, _⟩ | ⟨_, h⟩; exact absurd hf (unhide HFa); rw [unhide HFA'] at h; exact h); subst hh2; clear hh; have HK3 := hide ((unhide HK2).trans hk (by simp)); have HV2 := hide (unhide HVB w3 (unhide HK3)); clear hk HE1)
    | (go_at_call 11; refine (unhide HV2).mono ?_; rintro e w4 ⟨⟨v2, c2, rfl, hrv⟩, hk⟩; have HK4 := hide ((unhide HK3).trans hk (by simp)); have HE2 := hide (enc_val hrv (unhide HCB)); have HK34 := hide hk; clear hrv hk HV2)
    | (go_at_call 13; refine (unhide HE2).mono ?_; rintro e w5 ⟨hk, hh⟩; have hh2 : e = .returned (.tuple #[.slice none 0 0, .int .i64 (fb : Nat)]) := (by rcases hh with ⟨hf, _⟩ | ⟨_, h⟩; exact absurd hf (unhide HFb); rw [unhide HFB'] at h; exact h); subst hh2; clear hh; have HK5 := hide ((unhide HK4).trans hk (by simp)); have HK35 := hide ((unhide HK34).trans hk (by simp)); have HV3 := hide (unhide HVA w5 (unhide HK5)); clear hk HE2)
    | (go_at_call 11; refine (unhide HV3).mono ?_; rintro e w6 ⟨⟨v3, c3, rfl, hrv⟩, hk⟩; have HK6 := hide ((unhide HK5).trans hk (by simp)); have HK56 := hide hk; have HR3 := hide hrv.any; have HV4 := hide (unhide HVB w6 (unhide HK6)); clear hrv hk HV3)
    | (go_at_call 11; refine (unhide HV4).mono ?_; rintro e w7 ⟨⟨v4, c4, rfl, hrv⟩, hk⟩; have HK7 := hide ((unhide HK6).trans hk (by simp)); have HK57 := hide ((unhide HK56).trans hk (by simp)); have HC7 := hide (unhide HCR _ _ _ _ ((unhide HR3).kept hk (by simp)) hrv.any); clear hrv hk HV4)
    | (go_at_call 21; refine (unhide HC7).mono ?_; rintro e w8 ⟨hk, rfl⟩; have HK8 := hide ((unhide HK7).trans hk (by simp)); clear hk))
  go_ret
  exact ⟨rfl, unhide HK8⟩

set_option maxRecDepth 100000 in
set_option maxHeartbeats 400000 in
theorem sort_walk {w : World} {va vb : Value} {ra rb : Row} (ha : RowP w va ra) (hb : RowP w vb rb) :
    Calls Try.prog 7 #[va, vb] w fun e w' => e = .returned (.bool true) ∧ Kept [] w w' := by
  by_cases ca : cnt ra ≤ 131072
  · by_cases cb : cnt rb ≤ 131072
    · by_cases hfa : faultR ra 0 = 0
      · by_cases hfb : faultR rb 0 = 0
        · exact sort_ok ha hb ca cb hfa hfb
        · exact sort_fb ha hb ca cb hfa hfb
      · by_cases hfb : faultR rb 0 = 0
        · exact sort_fa ha hb ca cb hfa hfb
        · exact sort_ff ha hb ca cb hfa hfb
    · have HBA := hide (beyond_any ha)
      have HBB := hide (beyond_any hb)
      rw [show decide (131072 < cnt ra) = false by simp; omega] at HBA
      rw [show decide (131072 < cnt rb) = true by simp; omega] at HBB
      obtain ⟨a, acap, rfl, -⟩ := ha
      obtain ⟨b, bcap, rfl, -⟩ := hb
      generalize ra.len = LA at *
      generalize rb.len = LB at *
      go_enter Try.func7, Try.ntmps7
      go_wp2_with (first
        | (go_at_call 9; refine (unhide HBA).mono ?_; rintro e w' ⟨rfl, hq⟩; have hq' := hq.symm; subst hq'; clear HBA)
        | (go_at_call 9; refine (unhide HBB).mono ?_; rintro e w' ⟨rfl, hq⟩; have hq' := hq.symm; subst hq'; clear HBB))
      go_ret
      exact ⟨rfl, Kept.refl _ _⟩
  · have HBA := hide (beyond_any ha)
    rw [show decide (131072 < cnt ra) = true by simp; omega] at HBA
    obtain ⟨a, acap, rfl, -⟩ := ha
    obtain ⟨b, bcap, rfl, -⟩ := hb
    generalize ra.len = LA at *
    generalize rb.len = LB at *
    go_enter Try.func7, Try.ntmps7
    go_wp2_with (first
      | (go_at_call 9; refine (unhide HBA).mono ?_; rintro e w' ⟨rfl, hq⟩; have hq' := hq.symm; subst hq'; clear HBA))
    go_ret
    exact ⟨rfl, Kept.refl _ _⟩
end Go.Proofs.Ytigmofbammofbaa
