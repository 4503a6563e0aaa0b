/- A whole number divided by 2^53. -/
import Derived.Test.YtoibkgjnnneagaaDFlt
namespace Go.Proofs.Ytoibkgjnnneagaa
open Go Ieee

theorem div_pow {m : Nat} {e : Int} (h1 : 2 ^ 52 ≤ m) (h2 : m < 2 ^ 53) (e1 : -52 ≤ e) (e2 : e ≤ 0) : double.div (wd m e) (wd (2 ^ 52) 1) = some (wd m (e - 53)) := by
  unfold Format.div
  rw [read_wd h1 h2 (by omega) (by omega), read_wd (Nat.le_refl _) (by decide) (by omega) (by omega)]
  have hl := log2_52 h1 h2
  have hl2 : (2 ^ 52 : Nat).log2 = 52 := by decide
  have hn : (2 ^ 52 : Nat) ≠ 0 := by decide
  simp only [Datum.quotient, hn, if_false, Option.map_some, Format.write, hl, hl2]
  have ed : double.fractionBits + 2 + 52 - 52 = 54 := rfl
  rw [ed, Nat.shiftLeft_eq]
  have e3 : m * 2 ^ 54 = m * 4 * 2 ^ 52 := by rw [Nat.mul_assoc]
  rw [e3, Nat.mul_div_cancel _ (Nat.two_pow_pos 52), Nat.mul_mod_left]
  have e4 : 2 * (m * 4) + ((0 : Nat) != 0).toNat = m * 2 ^ 3 := by simp; omega
  rw [e4]
  have hl3 : (m * 2 ^ 3).log2 = 55 := by
    refine log2_of ?_ ?_
    · rw [show 2 ^ 55 = 2 ^ 52 * 2 ^ 3 from rfl]; exact Nat.mul_le_mul_right _ h1
    · rw [show 2 ^ (55 + 1) = 2 ^ 53 * 2 ^ 3 from rfl]; exact Nat.mul_lt_mul_of_pos_right h2 (by decide)
  congr 1
  rw [show (false ^^ false) = false from rfl, nearest_big (by rw [hl3]; omega) (by omega) (by rw [hl3]; omega) (by rw [hl3]; omega), hl3]
  have hr : rhd (m * 2 ^ 3) (2 ^ (55 - 52)) = m := by
    unfold rhd
    rw [show 55 - 52 = 3 from rfl, Nat.mul_div_cancel _ (by decide), Nat.mul_mod_left]
    simp
  rw [hr]
  congr 1
  omega
theorem real_quo {k : Nat} (h : k < 2 ^ 53) : floatBits .quo .f64 (floatOfInt .f64 (k : Int)) 4845873199050653696 = some (realW k) := by
  unfold realW
  by_cases h0 : k = 0
  · subst h0; decide
  · rw [if_neg h0, of_pos h0 h]
    obtain ⟨l, b1, b2⟩ := dg_bounds h0 h
    have hp : -52 ≤ pc k ∧ pc k ≤ 0 := by unfold pc; omega
    have e : (4845873199050653696 : Nat) = wd (2 ^ 52) 1 := by decide
    rw [e]
    show double.div _ _ = _
    exact div_pow b1 b2 hp.1 hp.2
end Go.Proofs.Ytoibkgjnnneagaa
