/- Plain facts on forms: two numbers that differ in their lowest bit; a form is read back. -/
import Derived.Test.YtiabhgkndejigabRint
namespace Go.Proofs.Ytiabhgkndejigab
open Go.RowKit

theorem form_pair (m : Nat) : ∃ x t, x % 2 = 0 ∧ x < 255 ∧ form (2 * m) = x :: t ∧ form (2 * m + 1) = (x + 1) :: t := by
  by_cases h : 2 * m < 128
  · exact ⟨2 * m, [], by omega, by omega, form_small h, form_small (by omega)⟩
  · refine ⟨2 * m % 128 + 128, form (2 * m / 128), by omega, by omega, form_big (by omega), ?_⟩
    rw [form_big (by omega), show (2 * m + 1) % 128 + 128 = 2 * m % 128 + 128 + 1 by omega, show (2 * m + 1) / 128 = 2 * m / 128 by omega]

theorem xor_one (x : Nat) (h : x < 256) : bits .xor .u8 (x : Int) 1 = ((if x % 2 = 0 then x + 1 else x - 1 : Nat) : Int) := by
  have := u8_xor_nat x 1 h (by omega)
  rw [show ((1 : Nat) : Int) = 1 from rfl] at this
  rw [this]
  have : ∀ m, m < 256 → m ^^^ 1 = (if m % 2 = 0 then m + 1 else m - 1) := by decide +kernel
  rw [this x h]

theorem read_form (n : Nat) : ∀ (k acc : Nat) (rest : List Nat), k ≤ 9 → (k = 9 → n ≤ 1) → (0 < k → 0 < n) → n * 128 ^ k < 18446744073709551616 → readNum k acc (form n ++ rest) = .inr (acc + n * 128 ^ k, rest) := by
  induction n using Nat.strongRecOn with
  | _ n ih =>
    intro k acc rest hk h9 h0 hb
    by_cases h : n < 128
    · rw [form_small h]
      show readNum k acc (n :: rest) = _
      rw [readNum, if_neg (by omega), if_pos h, if_neg (by omega)]
    · rw [form_big (by omega)]
      show readNum k acc ((n % 128 + 128) :: (form (n / 128) ++ rest)) = _
      have hk8 : k ≠ 9 := by intro e; have := h9 e; omega
      rw [readNum, if_neg (by omega), if_neg (by omega)]
      have e1 : n / 128 * 128 ^ (k + 1) + n % 128 * 128 ^ k = n * 128 ^ k := by
        rw [Nat.pow_succ, ← Nat.mul_assoc, Nat.mul_right_comm, ← Nat.add_mul]
        congr 1; omega
      rw [ih (n / 128) (by omega) (k + 1) _ rest (by omega) ?_ (by omega) (by omega)]
      · congr 2
        rw [show (n % 128 + 128) % 128 = n % 128 by omega]; omega
      · intro e9
        have e3 : n / 128 * 128 ^ (k + 1) < 18446744073709551616 := by omega
        have e8 : 128 ^ (k + 1) = 9223372036854775808 := by rw [e9]
        rw [e8] at e3
        clear e1 hb
        omega

theorem read_form0 (n : Nat) (rest : List Nat) (h : n < 18446744073709551616) : readNum 0 0 (form n ++ rest) = .inr (n, rest) := by
  have := read_form n 0 0 rest (by omega) (by omega) (by omega) (by simpa using h)
  simpa using this

/-- A piece of a slice of bytes. -/
theorem Sees.part {w : World} {b off n cap : Nat} {bs : List Nat} (h : Sees w (.slice (some ⟨b, off, none⟩) n cap) bs) (lo m off' cap' : Nat) (hlo : lo + m ≤ bs.length) (hc : m ≤ cap') (hc2 : cap' ≤ cap) (ho : off' = off + lo ∨ m = 0) :
    Sees w (.slice (some ⟨b, off', none⟩) m cap') ((bs.drop lo).take m) := by
  rcases h with ⟨h1, _⟩ | ⟨b', off2, cap2, hv, h1, h2, h3, h4⟩
  · cases h1
  · cases hv
    have hl : ((bs.drop lo).take m).length = m := by simp; omega
    refine Or.inr ⟨b, off', cap', by rw [hl], by omega, by omega, h3, fun j hj => ?_⟩
    rw [hl] at hj
    rcases ho with rfl | rfl
    · have := h4 (lo + j) (by omega)
      rw [show off + lo + j = off + (lo + j) by omega, this]
      simp [hj]
    · omega
end Go.Proofs.Ytiabhgkndejigab
