/- Real. -/
import Derived.Test.YtoibkgjnnneagaaDAwake
import Derived.Test.YtoibkgjnnneagaaDFlt
namespace Go.Proofs.Ytoibkgjnnneagaa
open Go.RowKit

set_option maxRecDepth 100000 in
set_option maxHeartbeats 1000000 in
theorem real_any {w : World} {b s : Nat} (h : Dc w b s) : Calls Try.prog 28 #[.pointer (some ⟨b, 0, none⟩)] w fun e w' => e = .returned (.float .f64 (realW (mixN (on s 1) / 2048))) ∧ Dc w' b (on s 1) ∧ Kept [b] w w' := by
  have H1 := hide (next_any h)
  have hl := mixN_lt (on s 1)
  clear h
  generalize on s 1 = t at *
  generalize mixN t = x at *
  have hq : x / 2048 < 2 ^ 53 := by omega
  have e0 : (x : Int) / 2048 = ((x / 2048 : Nat) : Int) := by omega
  have e1 := real_mul hq
  generalize x / 2048 = k at *
  have h1 : ∀ t w, (binOp .mul t (.float .f64 (floatOfInt .f64 (k : Int))) (.float .f64 4368491638549381120)).run Try.prog w = .ok (.float .f64 (realW k)) w := fun t w => run_float_arith w .mul t .f64 _ _ _ e1
  clear e1
  go_enter Try.func28, Try.ntmps28
  go_wp2_with (first
    | (go_at_call 21; refine (unhide H1).mono ?_; rintro e w1 ⟨rfl, hd, hk⟩; clear H1; replace hd := hide hd))
  go_ret
  exact ⟨rfl, unhide hd, hk⟩
end Go.Proofs.Ytoibkgjnnneagaa
