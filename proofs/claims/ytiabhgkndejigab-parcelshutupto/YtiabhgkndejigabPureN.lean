/- Plain facts on forms: their groups, their ends, their beginnings. -/
import Derived.Test.YtiabhgkndejigabPure
namespace Go.Proofs.Ytiabhgkndejigab
open Go.RowKit

theorem form_drop (n k : Nat) (h : k < (form n).length) : (form n).drop k = form (n / 128 ^ k) := by
  induction k generalizing n with
  | zero => simp
  | succ k ih =>
    by_cases hn : n < 128
    · rw [form_small hn] at h; simp at h
    · rw [form_big (by omega)] at h ⊢
      simp at h
      rw [List.drop_succ_cons, ih _ (by omega), Nat.div_div_eq_div_mul, Nat.pow_succ, Nat.mul_comm 128]

theorem form_end (n : Nat) : n / 128 ^ (form n).length = 0 := by
  induction n using Nat.strongRecOn with
  | _ n ih =>
    by_cases hn : n < 128
    · rw [form_small hn]; simp; omega
    · rw [form_big (by omega)]
      have := ih (n / 128) (by omega)
      rw [List.length_cons, Nat.pow_succ, Nat.mul_comm, ← Nat.div_div_eq_div_mul]
      exact this

/-- The k-th byte, where it is the last one. -/
theorem form_at_last (n k : Nat) (h : k < (form n).length) (hx : n / 128 ^ k < 128) : (form n).getD k 0 = n / 128 ^ k ∧ k + 1 = (form n).length := by
  have e := form_drop n k h
  rw [form_small hx] at e
  have hl := congrArg List.length e
  simp at hl
  refine ⟨?_, by omega⟩
  have := congrArg (fun l => l.getD 0 0) e
  simpa using this

theorem form_at_more (n k : Nat) (h : k < (form n).length) (hx : ¬ n / 128 ^ k < 128) : (form n).getD k 0 = n / 128 ^ k % 128 + 128 ∧ k + 1 < (form n).length := by
  have e := form_drop n k h
  rw [form_big (n := n / 128 ^ k) (by omega)] at e
  have hl := congrArg List.length e
  have hp := form_pos (n / 128 ^ k / 128)
  simp at hl
  refine ⟨?_, by omega⟩
  have := congrArg (fun l => l.getD 0 0) e
  simpa using this

theorem form_last (n : Nat) (h : 1 < (form n).length) : (form n).getD ((form n).length - 1) 0 ≠ 0 := by
  have h1 : (form n).length - 1 < (form n).length := by omega
  by_cases hx : n / 128 ^ ((form n).length - 1) < 128
  · rw [(form_at_last n _ h1 hx).1]
    intro h0
    have h2 : (form n).length - 2 < (form n).length := by omega
    have hy : ¬ n / 128 ^ ((form n).length - 2) < 128 := by
      intro hy
      have := (form_at_last n _ h2 hy).2; omega
    have e : n / 128 ^ ((form n).length - 1) = n / 128 ^ ((form n).length - 2) / 128 := by
      rw [Nat.div_div_eq_div_mul, ← Nat.pow_succ]; congr 2; omega
    rw [e] at h0
    omega
  · have := (form_at_more n _ h1 hx).2; omega

theorem form_get_lt (n k : Nat) (h : k < (form n).length) : (form n).getD k 0 < 256 := by
  refine form_byte n _ ?_
  simp only [List.getD, List.getElem?_eq_getElem h, Option.getD_some]
  exact List.getElem_mem h

theorem read_short (n : Nat) : ∀ (k acc i : Nat), k ≤ 9 → (k = 9 → n ≤ 1) → n * 128 ^ k < 18446744073709551616 → i < (form n).length → readNum k acc ((form n).take i) = .inl 10 := by
  induction n using Nat.strongRecOn with
  | _ n ih =>
    intro k acc i hk h9 hb hi
    by_cases h : n < 128
    · rw [form_small h] at hi ⊢
      have : i = 0 := by simp at hi; exact hi
      subst this; rfl
    · rw [form_big (by omega)] at hi ⊢
      cases i with
      | zero => rfl
      | succ i =>
        simp at hi
        have hk8 : k ≠ 9 := by intro e; have := h9 e; omega
        show readNum k acc ((n % 128 + 128) :: (form (n / 128)).take i) = _
        rw [readNum, if_neg (by omega), if_neg (by omega)]
        have e1 : n / 128 * 128 ^ (k + 1) + n % 128 * 128 ^ k = n * 128 ^ k := by
          rw [Nat.pow_succ, ← Nat.mul_assoc, Nat.mul_right_comm, ← Nat.add_mul]
          congr 1; omega
        refine ih (n / 128) (by omega) (k + 1) _ i (by omega) ?_ (by omega) (by omega)
        intro e9
        have e3 : n / 128 * 128 ^ (k + 1) < 18446744073709551616 := by omega
        have e8 : 128 ^ (k + 1) = 9223372036854775808 := by rw [e9]
        rw [e8] at e3
        clear e1 hb
        omega

theorem read_short0 (n i : Nat) (h : n < 18446744073709551616) (hi : i < (form n).length) : readNum 0 0 ((form n).take i) = .inl 10 :=
  read_short n 0 0 i (by omega) (by omega) (by simpa using h) hi
end Go.Proofs.Ytiabhgkndejigab
