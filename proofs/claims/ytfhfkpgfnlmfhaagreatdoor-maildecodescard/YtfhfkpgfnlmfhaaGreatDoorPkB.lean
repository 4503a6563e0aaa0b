/- A text of the base. -/
import Derived.Test.YtfhfkpgfnlmfhaaGreatDoorPkA
import Derived.Laws.BitsAllLaws
import Derived.Laws.DeepNot64
/- The form of a number, the fold of an int: plain functions, and what formOf, foldOf and unfold answer. -/
namespace Go.Proofs.YtfhfkpgfnlmfhaaGreatDoor
open Go.RowKit

def form (n : Nat) : List Nat := if n < 128 then [n] else (n % 128 + 128) :: form (n / 128)

theorem form_small {n : Nat} (h : n < 128) : form n = [n] := by rw [form]; simp [h]
theorem form_big {n : Nat} (h : 128 ≤ n) : form n = (n % 128 + 128) :: form (n / 128) := by
  rw [form]; simp [Nat.not_lt.2 h]
theorem form_len (k n : Nat) (h : n < 2 ^ (7 * k + 7)) : (form n).length ≤ k + 1 := by
  induction k generalizing n with
  | zero => rw [form_small (by simpa using h)]; simp
  | succ k ih =>
    by_cases hn : n < 128
    · rw [form_small hn]; simp
    · rw [form_big (by omega)]
      have : n / 128 < 2 ^ (7 * k + 7) := by
        have e : 2 ^ (7 * (k + 1) + 7) = 2 ^ (7 * k + 7) * 128 := by rw [show 7 * (k + 1) + 7 = (7 * k + 7) + 7 by omega, Nat.pow_add]
        rw [e] at h
        exact Nat.div_lt_of_lt_mul (by omega)
      have := ih _ this
      simp; omega
theorem form_le10 (n : Nat) (h : n < 18446744073709551616) : (form n).length ≤ 10 := form_len 9 n (by omega)
theorem form_pos (n : Nat) : 1 ≤ (form n).length := by
  by_cases h : n < 128
  · rw [form_small h]; simp
  · rw [form_big (by omega)]; simp
theorem form_byte (n : Nat) : ∀ b ∈ form n, b < 256 := by
  induction n using Nat.strongRecOn with
  | _ n ih =>
    by_cases h : n < 128
    · rw [form_small h]; simp; omega
    · rw [form_big (by omega)]
      intro b hb
      rcases List.mem_cons.1 hb with rfl | hb
      · omega
      · exact ih _ (by omega) b hb

theorem ret_int {k : IntKind} {a b : Int} (h : a = b) : Ending.returned (.int k a) = .returned (.int k b) := by rw [h]

theorem or128 (n : Nat) (h : n < 256) : bits .or .u8 (n : Int) 128 = ((n % 128 + 128 : Nat) : Int) := by
  have := u8_or_nat n 128 h (by omega)
  rw [show ((128 : Nat) : Int) = 128 from rfl] at this
  rw [this]
  have : ∀ m, m < 256 → m ||| 128 = m % 128 + 128 := by decide +kernel
  rw [this n h]

theorem Tryz.info5 : (Tryz.prog.info? 5).map (fun i => (i.zero, i.size, i.bytes)) = some (some (.int .u8 0), 1, 1) := by kernel_rfl

theorem news_one (w : World) (x : Nat) : Sees (w.alloc (.cells #[.int .u8 (x : Int)] 5)) (.slice (some ⟨w.heap.size, 0, none⟩) 1 1) [x] :=
  Or.inr ⟨w.heap.size, 0, 1, rfl, by simp, by unfold maxLen; omega, by simp, fun j hj => by
    have : j = 0 := by simp at hj; exact hj
    subst this
    simp [go_sem]⟩

def fold (i : Int) : Nat := if i < 0 then (-2 * i - 1).toNat else (2 * i).toNat
def unfoldN (n : Nat) : Int := if n % 2 = 1 then - ((n : Int) / 2) - 1 else (n : Int) / 2
theorem unfold_fold (i : Int) : unfoldN (fold i) = i := by unfold unfoldN fold; split <;> split <;> omega
theorem fold_lt (i : Int) (h1 : -9223372036854775808 ≤ i) (h2 : i ≤ 9223372036854775807) : fold i < 18446744073709551616 := by unfold fold; split <;> omega

theorem not_i64 (i : Int) (h1 : -9223372036854775808 ≤ i) (h2 : i ≤ 9223372036854775807) : bits .xor .i64 (-1) i = -1 - i := by
  by_cases h : 0 ≤ i
  · obtain ⟨a, rfl⟩ := Int.eq_ofNat_of_zero_le h
    exact i64_not a (by omega)
  · show IntKind.i64.wrap ((BitVec.ofInt 64 (-1) ^^^ BitVec.ofInt 64 i).toNat : Int) = _
    have h1 : BitVec.ofInt 64 (-1) = BitVec.allOnes 64 := by decide
    rw [h1, BitVec.allOnes_xor, BitVec.toNat_not, BitVec.toNat_ofInt]
    simp [IntKind.wrap, IntKind.bits, IntKind.signed]
    omega

end Go.Proofs.YtfhfkpgfnlmfhaaGreatDoor
