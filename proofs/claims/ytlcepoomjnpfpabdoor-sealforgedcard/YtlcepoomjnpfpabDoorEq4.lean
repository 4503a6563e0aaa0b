/- Two arrays of four bytes held against each other. -/
import Derived.Test.YtlcepoomjnpfpabDoorJoin
namespace Go.Proofs.YtlcepoomjnpfpabDoor
open Go.RowKit

theorem cellsOf5 : Tryd.prog.cellsOf 5 = 1 := by kernel_rfl
theorem info5 : (Tryd.prog.info? 5).isSome = true := by kernel_rfl

theorem eql25 (x y : Nat) (w : World) : ∃ r : Bool, (Op.equal 24 (.agg (bytes4 x)) (.agg (bytes4 y))).run Tryd.prog w = .ok r w ∧ (r = true ↔ bytes4 x = bytes4 y) := by
  obtain ⟨i, hi⟩ := Option.isSome_iff_exists.1 info5
  let f (x : Nat) (i : Nat) : Nat := if i = 0 then x % 256 else if i = 1 then x / 256 % 256 else if i = 2 then x / 65536 % 256 else x / 16777216
  have hf : ∀ x i, i < 4 → (bytes4 x)[i]? = some (.int .u8 (f x i : Nat)) := by
    intro x i hi
    obtain rfl | rfl | rfl | rfl : i = 0 ∨ i = 1 ∨ i = 2 ∨ i = 3 := by omega
    all_goals rfl
  obtain ⟨r, h1, h2⟩ := run_equal_ints w Tryd.underlying24 Tryd.underlying5 hi cellsOf5 _ _ (f x) (f y) (hf x) (hf y)
  refine ⟨r, h1, h2.trans ⟨fun h => ?_, fun h i hi => ?_⟩⟩
  · have a0 := h 0 (by omega)
    have a1 := h 1 (by omega)
    have a2 := h 2 (by omega)
    have a3 := h 3 (by omega)
    simp [f] at a0 a1 a2 a3
    simp [bytes4]
    omega
  · have := hf x i hi
    rw [h, hf y i hi] at this
    simp at this
    omega

theorem eql25_same (x : Nat) (w : World) : (Op.equal 24 (.agg (bytes4 x)) (.agg (bytes4 x))).run Tryd.prog w = .ok true w := by
  obtain ⟨r, h1, h2⟩ := eql25 x x w
  rw [h1, h2.2 rfl]

end Go.Proofs.YtlcepoomjnpfpabDoor
