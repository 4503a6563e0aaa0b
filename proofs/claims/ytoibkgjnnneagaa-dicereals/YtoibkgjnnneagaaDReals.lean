/- DiceReals: the walk. -/
import Derived.Test.YtoibkgjnnneagaaDReal
import Derived.Test.YtoibkgjnnneagaaDJump
namespace Go.Proofs.Ytoibkgjnnneagaa
open Go.RowKit

set_option maxRecDepth 100000 in
set_option maxHeartbeats 1000000 in
theorem reals_walk (w : World) (v : Nat) (hv : v < 18446744073709551616) :
    Calls Try.prog 8 #[.int .u64 v] w fun e w' => e = .returned (.bool true) ∧ Kept [] w w' := by
  have HA := hide (awake_any w)
  have HB := fun w => hide (before_any w v hv)
  have HR := fun w1 b1 (h : Dc w1 b1 (bef v)) => hide (real_any h)
  rw [mix_bef hv, on_bef] at HR
  have HU := fun w => hide (unmixAt_any w v hv)
  have hq : v / 2048 < 2 ^ 53 := by omega
  have e0 : (v : Int) / 2048 = ((v / 2048 : Nat) : Int) := by omega
  have q1 := real_back hq
  have q2 := real_int hq
  have q3 := real_pos hq
  have q4 := real_lt hq
  have q5 := whole_eq hq
  generalize v / 2048 = k at *
  generalize realW k = X at *
  have h1 : ∀ t w, (binOp .mul t (.float .f64 X) (.float .f64 4845873199050653696)).run Try.prog w = .ok (.float .f64 (floatOfInt .f64 (k : Int))) w := fun t w => run_float_arith w .mul t .f64 _ _ _ q1
  have h3 : ∀ w, (convert 52 28 (.float .f64 (floatOfInt .f64 (k : Int)))).run Try.prog w = .ok (.int .u64 (k : Int)) w := fun w => run_convert_float_int w 52 28 .f64 .u64 _ k (by rw [Try.underlying52]; rfl) Try.underlying28 q2
  clear q1 q2
  generalize bef v = s at *
  generalize unmixN v = u at *
  go_enter Try.func8, Try.ntmps8
  go_wp2_with (first
    | (go_at_call 20; refine (unhide HA).mono ?_; rintro e w1 ⟨rfl, hkp⟩; clear HA; replace hkp := hide hkp)
    | (go_at_call 22; refine (unhide (HB _)).mono ?_; rintro e w2 ⟨b, rfl, hd, hb, hk⟩; clear HB; have hg : w.heap.size ≤ b := Nat.le_trans (unhide hkp).size hb; replace hkp := hide ((unhide hkp).more hk); have HQ := HR _ _ hd; clear HR hd hb hk)
    | (go_at_call 28; refine (unhide HQ).mono ?_; rintro e w3 ⟨rfl, hd, hk⟩; clear HQ; replace hkp := hide ((unhide hkp).push hk hg); have HS := hide (state_any hd); clear hd hk)
    | (go_at_call 23; refine (unhide HS).mono ?_; rintro e w3 ⟨rfl, hq⟩; have hq' := hq.symm; subst hq'; clear HS)
    | (go_at_call 18; refine (unhide (HU _)).mono ?_; rintro e w3 ⟨rfl, hq⟩; have hq' := hq.symm; subst hq'; clear HU))
  go_ret
  exact ⟨rfl, unhide hkp⟩
end Go.Proofs.Ytoibkgjnnneagaa
