/- A text of the base. -/
import Derived.Test.YtkejpbfbpomjfabPkS
import Derived.Test.YtkejpbfbpomjfabPkU
/- The reader's Real. -/
namespace Go.Proofs.Ytkejpbfbpomjfab
open Go.RowKit

/-- The number that eight bytes are, the highest first. -/
def of8 : List Nat → Nat := fun l => l.foldl (fun n b => n * 256 + b) 0

theorem be8_of8 (m : Nat) (h : m < 18446744073709551616) : of8 (be8 m) = m := by
  unfold of8 be8; simp only [List.foldl]; omega
theorem be8_lt (m : Nat) (h : m < 18446744073709551616) : ∀ x ∈ be8 m, x < 256 := by
  unfold be8; intro x hx; simp at hx; omega

theorem or_low (n x : Nat) (hx : x < 256) (hn : n < 72057594037927936) : bits .or .u64 (IntKind.u64.wrap ((n : Int) * 256)) (x : Int) = ((n * 256 + x : Nat) : Int) := by
  have e : IntKind.u64.wrap ((n : Int) * 256) = ((n * 256 : Nat) : Int) := by rw [IntKind.wrap_u64]; omega
  rw [e, u64_or_nat _ _ (by omega) (by omega)]
  have := Nat.two_pow_add_eq_or_of_lt (i := 8) (b := x) (by omega) n
  rw [Nat.mul_comm n 256, show (256 : Nat) = 2 ^ 8 from rfl, ← this]

end Go.Proofs.Ytkejpbfbpomjfab
