/- KeysCompares: which of any two rows comes first is the document's, and the rows stay as they were. -/
import Derived.Test.YtigmofbammofbaaKCodesW
import Derived.Test.YtigmofbammofbaaKRefW
namespace Go.Proofs.Ytigmofbammofbaa
open Go.RowKit

set_option maxRecDepth 100000 in
set_option maxHeartbeats 2000000 in
theorem compares_walk {w : World} {v u : Value} {r s : Row} (hr : RowP w v r) (hs : RowP w u s) :
    Calls Try.prog 5 #[v, u] w fun e w' => e = .returned (.bool true) ∧ Kept [] w w' := by
  have HBA := hide (beyond_any hr)
  have HBB := hide (beyond_any hs)
  by_cases hc : 131072 < cnt r
  · rw [show decide (131072 < cnt r) = true by simp [hc]] at HBA
    obtain ⟨a, acap, rfl, -⟩ := hr
    obtain ⟨b, bcap, rfl, -⟩ := hs
    generalize r.len = L at *
    generalize s.len = M at *
    go_enter Try.func5, Try.ntmps5
    go_wp2_with (first
      | (go_at_call 9; refine (unhide HBA).mono ?_; rintro e w' ⟨rfl, hq⟩; have hq' := hq.symm; subst hq'; clear HBA))
    go_ret
    exact ⟨rfl, Kept.refl _ _⟩
  rw [show decide (131072 < cnt r) = false by simp; omega] at HBA
  by_cases hd : 131072 < cnt s
  · rw [show decide (131072 < cnt s) = true by simp [hd]] at HBB
    obtain ⟨a, acap, rfl, -⟩ := hr
    obtain ⟨b, bcap, rfl, -⟩ := hs
    generalize r.len = L at *
    generalize s.len = M at *
    go_enter Try.func5, Try.ntmps5
    go_wp2_with (first
      | (go_at_call 9; refine (unhide HBA).mono ?_; rintro e w' ⟨rfl, hq⟩; have hq' := hq.symm; subst hq'; clear HBA)
      | (go_at_call 9; refine (unhide HBB).mono ?_; rintro e w' ⟨rfl, hq⟩; have hq' := hq.symm; subst hq'; clear HBB))
    go_ret
    exact ⟨rfl, Kept.refl _ _⟩
  rw [show decide (131072 < cnt s) = false by simp; omega] at HBB
  have HRE := hide (rcompare_any hr hs)
  have HCM : Hid (∀ (S : Nat → Prop) (w1 : World) (v1 v2 : Value), RowV S w1 v1 r → RowV S w1 v2 s → _) := fun S w1 v1 v2 h1 h2 => compare_any h1 h2
  have HRP := hide hr
  have HSP := hide hs
  have HVA := hide (fun (w1 : World) (hk : Kept [] w w1) => values_anyM2 r w1 v (hr.kept hk) (by omega))
  have HVB := hide (fun (w1 : World) (hk : Kept [] w w1) => values_anyM2 s w1 u (hs.kept hk) (by omega))
  have HC : Hid (cnt r ≤ 262144) := by unfold Hid; omega
  have HD : Hid (cnt s ≤ 262144) := by unfold Hid; omega
  generalize (if faultR r 0 = 0 ∧ faultR s 0 = 0 then cmpR r s else (0 : Int)) = X at HRE HCM
  generalize (if faultR r 0 = 0 then ((faultR s 0 : Nat) : Int) else ((faultR r 0 : Nat) : Int)) = E at HRE HCM
  obtain ⟨a, acap, rfl, -⟩ := hr
  obtain ⟨b, bcap, rfl, -⟩ := hs
  generalize hL : r.len = L at *
  generalize hM : s.len = M at *
  have HL := hide hL
  have HM := hide hM
  clear hc hd hL hM
  go_enter Try.func5, Try.ntmps5
  go_wp2_with (first
    | (go_at_call 9; refine (unhide HBA).mono ?_; rintro e w' ⟨rfl, hq⟩; have hq' := hq.symm; subst hq'; clear HBA)
    | (go_at_call 9; refine (unhide HBB).mono ?_; rintro e w' ⟨rfl, hq⟩; have hq' := hq.symm; subst hq'; clear HBB)
    | (go_at_call 20; refine (unhide HRE).mono ?_; rintro e w1 ⟨hk, rfl⟩; have HK1 := hide hk; have HV1 := hide (unhide HVA w1 hk); clear hk HRE)
    | (go_at_call 11; refine (unhide HV1).mono ?_; rintro e w2 ⟨⟨va, vc, rfl, hrm⟩, hk⟩; have HK2 := hide ((unhide HK1).trans hk (by simp)); have HR2 := hide hrm.any; have HV2 := hide (unhide HVB w2 (unhide HK2)); clear hrm hk HV1)
    | (go_at_call 11; refine (unhide HV2).mono ?_; rintro e w3 ⟨⟨vb, vd, rfl, hrm⟩, hk⟩; have HK3 := hide ((unhide HK2).trans hk (by simp)); have HS3 := hide hrm.any; have HR3 := hide ((unhide HR2).kept hk (by simp)); have HT1 := hide (twin_any r _ w3 _ (unhide HR3) (unhide HC)); rw [unhide HL] at HT1; clear hrm hk HV2 HR2)
    | (go_at_call 12; refine (unhide HT1).mono ?_; rintro e w4 ⟨fc, fcap, rfl, hrk, hk⟩; have HK4 := hide ((unhide HK3).trans hk (by simp)); have HRK := hide hrk.any; have HR4 := hide ((unhide HR3).kept hk (by simp)); have HS4 := hide ((unhide HS3).kept hk (by simp)); have HT2 := hide (twin_any s _ w4 _ (unhide HS4) (unhide HD)); rw [unhide HM] at HT2; clear hrk hk HT1 HR3 HS3)
    | (go_at_call 12; refine (unhide HT2).mono ?_; rintro e w5 ⟨gc, gcap, rfl, hrk, hk⟩; have HK5 := hide ((unhide HK4).trans hk (by simp)); have HRK5 := hide ((unhide HRK).kept hk (by simp)); have HSK5 := hide hrk.any; have HC5 := hide (unhide HCM _ w5 _ _ ((unhide HR4).plain.kept hk (by simp)) ((unhide HS4).plain.kept hk (by simp))); clear hrk hk HT2 HRK HR4 HS4)
    | (go_at_call 21; refine (unhide HC5).mono ?_; rintro e w6 ⟨hk, rfl⟩; have HK6 := hide ((unhide HK5).trans hk (by simp)); have HKE := hide (kept_any r _ w6 _ _ _ ((unhide HRK5).kept hk (by simp)) ((unhide HRP).kept (unhide HK6))); have HSK6 := hide ((unhide HSK5).kept hk (by simp)); clear hk HC5 HRK5 HSK5)
    | (go_at_call 14; refine (unhide HKE).mono ?_; rintro e w7 ⟨rfl, hk⟩; have HK7 := hide ((unhide HK6).trans hk (by simp)); have HKF := hide (kept_any s _ w7 _ _ _ ((unhide HSK6).kept hk (by simp)) ((unhide HSP).kept (unhide HK7))); clear hk HKE HSK6)
    | (go_at_call 14; refine (unhide HKF).mono ?_; rintro e w8 ⟨rfl, hk⟩; have HK8 := hide ((unhide HK7).trans hk (by simp)); clear hk HKF))
  go_ret
  exact ⟨rfl, unhide HK8⟩
end Go.Proofs.Ytigmofbammofbaa
