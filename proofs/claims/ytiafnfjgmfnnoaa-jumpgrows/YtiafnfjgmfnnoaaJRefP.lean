/- The document's quotient and jump, in plain numbers. -/
import Derived.Test.YtiafnfjgmfnnoaaJWays
namespace Go.Proofs.Ytiafnfjgmfnnoaa
open Go.RowKit

theorem q_ge {d : Nat} (h1 : 1 ≤ d) (h2 : d ≤ 2 ^ 31) : 2 ^ 52 ≤ 2 ^ (31 + pl d) / d ∧ 2 ^ (31 + pl d) / d < 2 ^ 53 := by
  by_cases h : d = 2 ^ d.log2
  · have e1 : pl d = 21 + d.log2 := by unfold pl; rw [if_pos h]
    have e2 : 2 ^ (31 + pl d) / d = 2 ^ 52 := by
      have e3 : 31 + (21 + d.log2) = 52 + d.log2 := by omega
      rw [e1, e3, Nat.pow_add]
      conv => lhs; rhs; rw [h]
      exact Nat.mul_div_cancel _ (Nat.two_pow_pos _)
    rw [e2]; omega
  · have e1 : pl d = 22 + d.log2 := by unfold pl; rw [if_neg h]
    have e3 : 31 + (22 + d.log2) = 53 + d.log2 := by omega
    obtain ⟨a, b⟩ := qm_mid h1 h2 h
    rw [e1, e3]; omega

theorem q_lt {d k : Nat} (h1 : 1 ≤ d) (h2 : d ≤ 2 ^ 31) (hk : k < pl d) : 2 ^ (31 + k) / d < 2 ^ 52 := by
  have h3 := (q_ge h1 h2).2
  have h4 : 2 ^ (31 + k) * 2 ≤ 2 ^ (31 + pl d) := by
    rw [← Nat.pow_succ]; exact Nat.pow_le_pow_right (by omega) (by omega)
  have h5 : 2 ^ (31 + k) / d * 2 ≤ 2 ^ (31 + k) * 2 / d := by
    rw [Nat.le_div_iff_mul_le (by omega), Nat.mul_right_comm]
    exact Nat.mul_le_mul_right _ (Nat.div_mul_le_self _ _)
  have h6 : 2 ^ (31 + k) * 2 / d ≤ 2 ^ (31 + pl d) / d := Nat.div_le_div_right h4
  omega

theorem q_next {d k : Nat} (h1 : 1 ≤ d) : 2 ^ (31 + (k + 1)) / d = 2 * (2 ^ (31 + k) / d) + (if d ≤ 2 * (2 ^ (31 + k) % d) then 1 else 0) ∧ 2 ^ (31 + (k + 1)) % d = 2 * (2 ^ (31 + k) % d) - (if d ≤ 2 * (2 ^ (31 + k) % d) then d else 0) := by
  have e : 2 ^ (31 + (k + 1)) = 2 * 2 ^ (31 + k) := by rw [← Nat.pow_succ']; congr 1
  rw [e]
  exact dbl rfl rfl (by omega)

/-- the last bit cut off, behind k cuts -/
def halfN (X : Nat) : Nat → Nat
  | 0 => 0
  | j + 1 => X / 2 ^ j % 2
/-- was any bit ahead of it 1? -/
def belowN (X : Nat) : Nat → Nat
  | 0 => 0
  | j + 1 => if X % 2 ^ j = 0 then 0 else 1
theorem halfN_le (X k : Nat) : halfN X k ≤ 1 := by cases k <;> simp [halfN]; omega
theorem belowN_le (X k : Nat) : belowN X k ≤ 1 := by cases k <;> simp [belowN]; split <;> omega

theorem mod_next (X j : Nat) : X % 2 ^ (j + 1) = X % 2 ^ j + 2 ^ j * (X / 2 ^ j % 2) := by
  rw [Nat.pow_succ, Nat.mod_mul]

theorem below_next (X k : Nat) : belowN X (k + 1) = belowN X k ||| halfN X k := by
  cases k with
  | zero => simp [belowN, halfN, Nat.mod_one]
  | succ j =>
    simp only [belowN, halfN]
    rw [mod_next]
    have hb : X / 2 ^ j % 2 < 2 := Nat.mod_lt _ (by omega)
    have hp := Nat.two_pow_pos j
    rcases Nat.eq_zero_or_pos (X / 2 ^ j % 2) with h | h
    · rw [h]; simp
    · have h1 : X / 2 ^ j % 2 = 1 := by omega
      rw [h1]
      have : X % 2 ^ j + 2 ^ j * 1 ≠ 0 := by omega
      rw [if_neg this]
      split <;> rfl

theorem round_iff (X c : Nat) : (2 ^ c < 2 * (X % 2 ^ c) ∨ 2 ^ c = 2 * (X % 2 ^ c) ∧ X / 2 ^ c % 2 = 1) ↔ (halfN X c = 1 ∧ (belowN X c = 1 ∨ X / 2 ^ c % 2 = 1)) := by
  cases c with
  | zero => simp [halfN, Nat.mod_one]
  | succ j =>
    have eh : halfN X (j + 1) = X / 2 ^ j % 2 := rfl
    have eb : belowN X (j + 1) = if X % 2 ^ j = 0 then 0 else 1 := rfl
    have hp := Nat.two_pow_pos j
    have hm := Nat.mod_lt X hp
    have e2 : 2 ^ (j + 1) = 2 * 2 ^ j := Nat.pow_succ'
    rw [eh, eb, mod_next, e2]
    generalize X / (2 * 2 ^ j) % 2 = v at *
    generalize X % 2 ^ j = r at *
    generalize 2 ^ j = p at *
    rcases (show X / p % 2 = 0 ∨ X / p % 2 = 1 by omega) with h | h
    · rw [h]; constructor
      · intro g; omega
      · intro g; omega
    · rw [h]
      by_cases g : r = 0
      · subst g; simp
      · simp only [g, if_false]
        constructor
        · intro _; exact ⟨trivial, Or.inl trivial⟩
        · intro _; left; omega

theorem round_is (X c : Nat) : rhd X (2 ^ c) = X / 2 ^ c + (if halfN X c = 1 ∧ (belowN X c = 1 ∨ X / 2 ^ c % 2 = 1) then 1 else 0) := by
  unfold rhd
  by_cases h : halfN X c = 1 ∧ (belowN X c = 1 ∨ X / 2 ^ c % 2 = 1)
  · rw [if_pos h, if_pos ((round_iff X c).2 h)]
  · rw [if_neg h, if_neg (fun g => h ((round_iff X c).1 g))]

/-- the whole of a number, cut k times -/
theorem cut_ge {n m k : Nat} (h1 : 1 ≤ n) (h2 : n ≤ 2 ^ 20) (m1 : 2 ^ 52 ≤ m) (m2 : m < 2 ^ 53) : 2097152 ≤ n * m / 2 ^ k / 4294967296 ↔ k < ct n m := by
  obtain ⟨c1, c2, c3, c4⟩ := ct_bounds h1 h2 m1 m2
  have h0 : n * m ≠ 0 := Nat.mul_ne_zero (by omega) (by omega)
  have e : (2097152 : Nat) * 4294967296 = 2 ^ 53 := by decide
  rw [Nat.le_div_iff_mul_le (by omega), e, Nat.le_div_iff_mul_le (Nat.two_pow_pos k), ← Nat.pow_add, ← Nat.le_log2 h0, c1]
  omega
theorem cut_lt {n m k : Nat} (h2 : n ≤ 2 ^ 20) (m2 : m < 2 ^ 53) : n * m / 2 ^ k < 2 ^ 73 := by
  refine Nat.lt_of_le_of_lt (Nat.div_le_self _ _) ?_
  have : n * m ≤ 2 ^ 20 * m := Nat.mul_le_mul_right _ h2
  omega
theorem cut_next (X k : Nat) : X / 2 ^ (k + 1) = X / 2 ^ k / 2 := by rw [Nat.pow_succ, Nat.div_div_eq_div_mul]
end Go.Proofs.Ytiafnfjgmfnnoaa
