/- The law's order of reals; two reals unlike. -/
import Derived.Test.YtgiifedljebclaaDPlace
namespace Go.Proofs.Ytgiifedljebclaa.flo
open Go.RowKit

theorem kfb : ∀ (w : World) (n : Int), (callFunc 28 #[.int .u64 n]).run Try.prog w = .ok (.value (.float .f64 n.toNat)) w := by intro w n; kernel_rfl
theorem kbb : ∀ (w : World) (n : Nat), (callFunc 57 #[.float .f64 n]).run Try.prog w = .ok (.value (.int .u64 n)) w := by intro w n; kernel_rfl
set_option maxRecDepth 100000 in
theorem sooner_any {w : World} (a b : Nat) : Calls Try.prog 24 #[.int .u64 (a : Int), .int .u64 (b : Int)] w fun e w' => e = .returned (.bool (gtV b a)) ∧ w' = w := by
  have HF := kfb
  have ha1 := neq_of (a := a) rfl
  have hb1 := neq_of (a := b) rfl
  unfold gtV
  have ho : isN a = false → isN b = false → (FloatKind.f64.format.order a b == some Ordering.lt) = decide (kk a < kk b) := by
    intro ha hb
    rw [order_num ha hb]
    rcases Int.lt_trichotomy (kk a) (kk b) with h | h | h
    · rw [Int.compare_eq_lt.2 h, decide_eq_true h]; rfl
    · rw [Int.compare_eq_eq.2 h, decide_eq_false (by omega)]; rfl
    · rw [Int.compare_eq_gt.2 h, decide_eq_false (by omega)]; rfl
  cases hb : isN b with
  | true =>
    rw [hb] at hb1
    clear ho ha1 hb
    go_enter Try.func24, Try.ntmps24
    go_wp2
    go_ret
    exact ⟨rfl, rfl⟩
  | false =>
    rw [hb] at hb1
    cases ha : isN a with
    | true =>
      rw [ha] at ha1
      clear ho ha hb
      go_enter Try.func24, Try.ntmps24
      go_wp2
      go_ret
      exact ⟨rfl, rfl⟩
    | false =>
      rw [ha] at ha1
      have h1 := ho ha hb
      clear ho ha hb
      generalize decide (kk a < kk b) = x at *
      cases x
      · go_enter Try.func24, Try.ntmps24
        go_wp2
        go_ret
        exact ⟨rfl, rfl⟩
      · go_enter Try.func24, Try.ntmps24
        go_wp2
        go_ret
        exact ⟨rfl, rfl⟩
set_option maxRecDepth 100000 in
theorem differ_same {w : World} (a : Nat) : Calls Try.prog 30 #[.float .f64 a, .float .f64 a] w fun e w' => e = .returned (.bool false) ∧ w' = w := by
  have HF := kbb
  have ha1 := neq_of (a := a) rfl
  have ha2 := eqq_of (a := a) rfl
  cases ha : isN a with
  | true =>
    rw [ha] at ha1 ha2
    clear ha
    go_enter Try.func30, Try.ntmps30
    go_wp2
    go_ret
    exact ⟨rfl, rfl⟩
  | false =>
    rw [ha] at ha1 ha2
    clear ha
    go_enter Try.func30, Try.ntmps30
    go_wp2
    go_ret
    exact ⟨rfl, rfl⟩
end Go.Proofs.Ytgiifedljebclaa.flo
