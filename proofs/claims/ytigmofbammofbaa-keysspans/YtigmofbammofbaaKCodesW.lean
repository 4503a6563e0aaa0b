/- KeysCodes and KeysSpans: the code and the span of every row are the document's, and the row stays as it was. -/
import Derived.Test.YtigmofbammofbaaKEncX
import Derived.Test.YtigmofbammofbaaKTwinW
import Derived.Test.YtigmofbammofbaaKKeptA
namespace Go.Proofs.Ytigmofbammofbaa
open Go.RowKit

theorem RowM.any {S : Nat → Prop} {w : World} {v : Value} {r : Row} (h : RowM S w v r) : RowM Any w v r := h.mono (fun _ _ _ => trivial)
theorem RowK.any {S : Nat → Prop} {w : World} {v u : Value} {r : Row} (h : RowK S w v u r) : RowK Any w v u r := h.mono (fun _ _ _ => trivial)

set_option maxRecDepth 100000 in
set_option maxHeartbeats 2000000 in
theorem codes_walk {w : World} {v : Value} {r : Row} (hr : RowP w v r) :
    Calls Try.prog 3 #[v] w fun e w' => e = .returned (.bool true) ∧ Kept [] w w' := by
  have HBA := hide (beyond_any hr)
  by_cases hc : 131072 < cnt r
  · rw [show decide (131072 < cnt r) = true by simp [hc]] at HBA
    obtain ⟨a, acap, rfl, -⟩ := hr
    generalize r.len = L at *
    go_enter Try.func3, Try.ntmps3
    go_wp2_with (first
      | (go_at_call 9; refine (unhide HBA).mono ?_; rintro e w' ⟨rfl, hq⟩; have hq' := hq.symm; subst hq'; clear HBA))
    go_ret
    exact ⟨rfl, Kept.refl _ _⟩
  rw [show decide (131072 < cnt r) = false by simp; omega] at HBA
  have HRE := hide (rencX hr (by omega))
  have HRP := hide hr
  have HVA := hide (fun (w1 : World) (hk : Kept [] w w1) => values_anyM2 r w1 v (hr.kept hk) (by omega))
  have HC : Hid (cnt r ≤ 262144) := by unfold Hid; omega
  obtain ⟨a, acap, rfl, -⟩ := hr
  generalize hL : r.len = L at *
  have HL := hide hL
  clear hc hL
  have HSA := hide (fun (w1 : World) (v1 v2 : Value) h1 h2 => same_yes (w := w1) (v1 := v1) (v2 := v2) (bs := codeX r) h1 h2)
  go_enter Try.func3, Try.ntmps3
  go_wp2_with (first
    | (go_at_call 9; refine (unhide HBA).mono ?_; rintro e w' ⟨rfl, hq⟩; have hq' := hq.symm; subst hq'; clear HBA)
    | (go_at_call 10; refine (unhide HRE).mono ?_; rintro e w1 ⟨hk, ea, en, ec, rfl, hsn⟩; have HK1 := hide hk; have HS1 := hide hsn; have HV1 := hide (unhide HVA w1 hk); clear hk hsn HRE)
    | (go_at_call 11; refine (unhide HV1).mono ?_; rintro e w2 ⟨⟨va, vc, rfl, hrm⟩, hk⟩; have HK2 := hide ((unhide HK1).trans hk (by simp)); have HK12 := hide hk; have HTW := hide (twin_any r _ w2 _ hrm.any (unhide HC)); rw [unhide HL] at HTW; have HRM := hide hrm.plain.any; clear hrm hk HV1)
    | (go_at_call 12; refine (unhide HTW).mono ?_; rintro e w3 ⟨fc, fcap, rfl, hrk, hk⟩; have HK3 := hide ((unhide HK2).trans hk (by simp)); have HK13 := hide ((unhide HK12).trans hk (by simp)); have HRK := hide hrk.any; have HE3 := hide (encX ((unhide HRM).kept hk (by simp)) (unhide HC)); clear hrk hk HTW)
    | (go_at_call 13; refine (unhide HE3).mono ?_; rintro e w4 ⟨hk, ya, yn, yc, rfl, hsn⟩; have HK4 := hide ((unhide HK3).trans hk (by simp)); have HK14 := hide ((unhide HK13).trans hk (by simp)); have HS4 := hide hsn; have HKE := hide (kept_any r _ w4 _ _ _ ((unhide HRK).kept hk (by simp)) ((unhide HRP).kept (unhide HK4))); clear hk hsn HE3)
    | (go_at_call 14; refine (unhide HKE).mono ?_; rintro e w5 ⟨rfl, hk⟩; have HK5 := hide ((unhide HK4).trans hk (by simp)); have HSM := hide (unhide HSA w5 _ _ ((unhide HS1).kept ((unhide HK14).trans hk (by simp)) (Or.inr (by simp))) ((unhide HS4).kept hk (Or.inr (by simp)))); clear hk HKE)
    | (go_at_call 15; refine (unhide HSM).mono ?_; rintro e w6 ⟨rfl, hk⟩; have HK6 := hide ((unhide HK5).trans hk (by simp)); clear hk HSM))
  go_ret
  exact ⟨rfl, unhide HK6⟩

set_option maxRecDepth 100000 in
set_option maxHeartbeats 2000000 in
theorem spans_walk {w : World} {v : Value} {r : Row} (hr : RowP w v r) :
    Calls Try.prog 6 #[v] w fun e w' => e = .returned (.bool true) ∧ Kept [] w w' := by
  have HBA := hide (beyond_any hr)
  by_cases hc : 131072 < cnt r
  · rw [show decide (131072 < cnt r) = true by simp [hc]] at HBA
    obtain ⟨a, acap, rfl, -⟩ := hr
    generalize r.len = L at *
    go_enter Try.func6, Try.ntmps6
    go_wp2_with (first
      | (go_at_call 9; refine (unhide HBA).mono ?_; rintro e w' ⟨rfl, hq⟩; have hq' := hq.symm; subst hq'; clear HBA))
    go_ret
    exact ⟨rfl, Kept.refl _ _⟩
  rw [show decide (131072 < cnt r) = false by simp; omega] at HBA
  have HRE := hide (rspanX hr (by omega))
  have HRP := hide hr
  have HVA := hide (fun (w1 : World) (hk : Kept [] w w1) => values_anyM2 r w1 v (hr.kept hk) (by omega))
  have HC : Hid (cnt r ≤ 262144) := by unfold Hid; omega
  obtain ⟨a, acap, rfl, -⟩ := hr
  generalize hL : r.len = L at *
  have HL := hide hL
  clear hc hL
  have HSA := hide (fun (w1 : World) (v1 v2 : Value) h1 h2 => same_yes (w := w1) (v1 := v1) (v2 := v2) (bs := codeX r) h1 h2)
  have HSB := hide (fun (w1 : World) (v1 v2 : Value) h1 h2 => same_yes (w := w1) (v1 := v1) (v2 := v2) (bs := spanX r) h1 h2)
  go_enter Try.func6, Try.ntmps6
  go_wp2_with (first
    | (go_at_call 9; refine (unhide HBA).mono ?_; rintro e w' ⟨rfl, hq⟩; have hq' := hq.symm; subst hq'; clear HBA)
    | (go_at_call 22; refine (unhide HRE).mono ?_; rintro e w1 ⟨hk, ea, en, ec, ea2, en2, ec2, rfl, hsn, hsn2⟩; have HK1 := hide hk; have HS1 := hide hsn; have HT1 := hide hsn2; have HV1 := hide (unhide HVA w1 hk); clear hk hsn hsn2 HRE)
    | (go_at_call 11; refine (unhide HV1).mono ?_; rintro e w2 ⟨⟨va, vc, rfl, hrm⟩, hk⟩; have HK2 := hide ((unhide HK1).trans hk (by simp)); have HK12 := hide hk; have HTW := hide (twin_any r _ w2 _ hrm.any (unhide HC)); rw [unhide HL] at HTW; have HRM := hide hrm.plain.any; clear hrm hk HV1)
    | (go_at_call 12; refine (unhide HTW).mono ?_; rintro e w3 ⟨fc, fcap, rfl, hrk, hk⟩; have HK3 := hide ((unhide HK2).trans hk (by simp)); have HK13 := hide ((unhide HK12).trans hk (by simp)); have HRK := hide hrk.any; have HE3 := hide (spanXp ((unhide HRM).kept hk (by simp)) (unhide HC)); clear hrk hk HTW)
    | (go_at_call 23; refine (unhide HE3).mono ?_; rintro e w4 ⟨hk, ya, yn, yc, ya2, yn2, yc2, rfl, hsn, hsn2⟩; have HK4 := hide ((unhide HK3).trans hk (by simp)); have HK14 := hide ((unhide HK13).trans hk (by simp)); have HS4 := hide hsn; have HT4 := hide hsn2; have HKE := hide (kept_any r _ w4 _ _ _ ((unhide HRK).kept hk (by simp)) ((unhide HRP).kept (unhide HK4))); clear hk hsn hsn2 HE3)
    | (go_at_call 14; refine (unhide HKE).mono ?_; rintro e w5 ⟨rfl, hk⟩; have HK5 := hide ((unhide HK4).trans hk (by simp)); have HK15 := hide ((unhide HK14).trans hk (by simp)); have HK45 := hide hk; have HSM := hide (unhide HSA w5 _ _ ((unhide HS1).kept ((unhide HK14).trans hk (by simp)) (Or.inr (by simp))) ((unhide HS4).kept hk (Or.inr (by simp)))); clear hk HKE)
    | (go_at_call 15; refine (unhide HSM).mono ?_; rintro e w6 ⟨rfl, hk⟩; have HK6 := hide ((unhide HK5).trans hk (by simp)); have HSM2 := hide (unhide HSB w6 _ _ ((unhide HT1).kept ((unhide HK15).trans hk (by simp)) (Or.inr (by simp))) ((unhide HT4).kept ((unhide HK45).trans hk (by simp)) (Or.inr (by simp)))); clear hk HSM)
    | (go_at_call 15; refine (unhide HSM2).mono ?_; rintro e w7 ⟨rfl, hk⟩; have HK7 := hide ((unhide HK6).trans hk (by simp)); clear hk HSM2))
  go_ret
  exact ⟨rfl, unhide HK7⟩
end Go.Proofs.Ytigmofbammofbaa
