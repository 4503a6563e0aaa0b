/- Texts laid one behind the other: Real Rreal. -/
import Derived.Test.YtfhfkpgfnlmfhaaGreatDoorPkF
import Derived.Test.YtfhfkpgfnlmfhaaGreatDoorPkG
import Derived.Laws.Cover2
import Derived.Laws.ResultCell
import Derived.Laws.IdiomArrays
/- Real numbers as their bits: the writer's Real. -/
namespace Go.Proofs.YtfhfkpgfnlmfhaaGreatDoor
open Go.RowKit

/-- Is it a NaN? (A number that is unlike itself.) -/
def nanB (n : Nat) : Bool := FloatKind.f64.format.order n n != some .eq
def oneNaN : Nat := 9221120237041090560
theorem nan_one : nanB oneNaN = true := by decide +kernel
def canon (n : Nat) : Nat := if nanB n then oneNaN else n
def be8 (m : Nat) : List Nat := [m / 72057594037927936, m / 281474976710656 % 256, m / 1099511627776 % 256, m / 4294967296 % 256, m / 16777216 % 256, m / 65536 % 256, m / 256 % 256, m % 256]

/-- Eight bytes as cells, written out. -/
def cells8 (x0 x1 x2 x3 x4 x5 x6 x7 : Nat) : Array Value := #[.int .u8 x0, .int .u8 x1, .int .u8 x2, .int .u8 x3, .int .u8 x4, .int .u8 x5, .int .u8 x6, .int .u8 x7]

theorem sees8 (w : World) (x0 x1 x2 x3 x4 x5 x6 x7 : Nat) (t : TypeId) : Sees (w.alloc (.cells #[.int .u8 x0, .int .u8 x1, .int .u8 x2, .int .u8 x3, .int .u8 x4, .int .u8 x5, .int .u8 x6, .int .u8 x7] t)) (.slice (some ⟨w.heap.size, 0, none⟩) 8 8) [x0, x1, x2, x3, x4, x5, x6, x7] := by
  refine Or.inr ⟨w.heap.size, 0, 8, rfl, by simp, by unfold maxLen; omega, by simp, fun j hj => ?_⟩
  have b := Blk.new w #[.int .u8 x0, .int .u8 x1, .int .u8 x2, .int .u8 x3, .int .u8 x4, .int .u8 x5, .int .u8 x6, .int .u8 x7] t
  rw [b.cell]
  simp at hj
  match j, hj with
  | 0, _ => rfl
  | 1, _ => rfl
  | 2, _ => rfl
  | 3, _ => rfl
  | 4, _ => rfl
  | 5, _ => rfl
  | 6, _ => rfl
  | 7, _ => rfl

end Go.Proofs.YtfhfkpgfnlmfhaaGreatDoor

/- The reader's Real. -/
namespace Go.Proofs.YtfhfkpgfnlmfhaaGreatDoor
open Go.RowKit

/-- The number that eight bytes are, the highest first. -/
def of8 : List Nat → Nat := fun l => l.foldl (fun n b => n * 256 + b) 0

theorem be8_of8 (m : Nat) (h : m < 18446744073709551616) : of8 (be8 m) = m := by
  unfold of8 be8; simp only [List.foldl]; omega
theorem be8_lt (m : Nat) (h : m < 18446744073709551616) : ∀ x ∈ be8 m, x < 256 := by
  unfold be8; intro x hx; simp at hx; omega

theorem or_low (n x : Nat) (hx : x < 256) (hn : n < 72057594037927936) : bits .or .u64 (IntKind.u64.wrap ((n : Int) * 256)) (x : Int) = ((n * 256 + x : Nat) : Int) := by
  have e : IntKind.u64.wrap ((n : Int) * 256) = ((n * 256 : Nat) : Int) := by rw [IntKind.wrap_u64]; omega
  rw [e, u64_or_nat _ _ (by omega) (by omega)]
  have := Nat.two_pow_add_eq_or_of_lt (i := 8) (b := x) (by omega) n
  rw [Nat.mul_comm n 256, show (256 : Nat) = 2 ^ 8 from rfl, ← this]

end Go.Proofs.YtfhfkpgfnlmfhaaGreatDoor
