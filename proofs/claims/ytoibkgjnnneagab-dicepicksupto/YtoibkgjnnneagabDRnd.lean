/- Sums and products rounded: monotone, exact, doubled. -/
import Derived.Test.YtoibkgjnnneagabDSum
namespace Go.Proofs.Ytoibkgjnnneagab
open Go Ieee

theorem cut_zero (neg : Bool) (n : Nat) : Toward.even.cut neg n 0 = n := by
  rw [cut_even neg n 0 (by omega)]; unfold rhd; simp [Nat.mod_one]
theorem rhd_exact (m c : Nat) : rhd (m * 2 ^ c) (2 ^ c) = m := by
  unfold rhd
  rw [Nat.mul_div_cancel _ (Nat.two_pow_pos c), Nat.mul_mod_left]
  simp
theorem rhd_mono {X Y : Nat} (d : Nat) (h : X ≤ Y) : rhd X d ≤ rhd Y d := by
  have hq : X / d ≤ Y / d := Nat.div_le_div_right h
  rcases Nat.lt_or_ge (X / d) (Y / d) with h1 | h1
  · have := rhd_le X d; have := rhd_ge Y d; omega
  · have e : X / d = Y / d := Nat.le_antisymm hq h1
    have h2 := Nat.div_add_mod X d
    have h3 := Nat.div_add_mod Y d
    rw [e] at h2
    have hr : X % d ≤ Y % d := by omega
    unfold rhd
    rw [e]
    by_cases c1 : d < 2 * (X % d) ∨ (d = 2 * (X % d) ∧ Y / d % 2 = 1)
    · rw [if_pos c1, if_pos]; exact Nat.le_refl _
      rcases c1 with c | ⟨c, c'⟩
      · left; omega
      · by_cases c2 : Y % d = X % d
        · right; rw [c2]; exact ⟨c, c'⟩
        · left; omega
    · rw [if_neg c1]; omega

/-- the word nearest to so many of the least unit -/
def rnd (V : Nat) : Nat := double.nearest false V (-1074)
def rung (V : Nat) : Nat := (V.log2 - 52) * 4503599627370496 + rhd V (2 ^ (V.log2 - 52))
theorem rnd_zero : rnd 0 = 0 := by decide
theorem near_form {mag : Nat} (h0 : mag ≠ 0) (j : Nat) : double.nearest false mag ((j : Int) - 1074) = min ((mag.log2 + j - 52) * 4503599627370496 + rhd (mag * 2 ^ j) (2 ^ (mag.log2 + j - 52))) 9218868437227405312 := by
  unfold Format.nearest
  simp only [h0, if_false, dF, dL]
  have e1 : max ((j : Int) - 1074 + (mag.log2 : Int) - ((52 : Nat) : Int)) (-1074) = ((mag.log2 + j - 52 : Nat) : Int) - 1074 := by omega
  rw [e1]
  generalize hD : mag.log2 + j - 52 = D
  have e2 : ((j : Int) - 1074 - ((D : Int) - 1074)).toNat = j - D := by omega
  have e3 : ((D : Int) - 1074 - ((j : Int) - 1074)).toNat = D - j := by omega
  have e4 : ((D : Int) - 1074 - -1074).toNat = D := by omega
  rw [e2, e3, e4]
  have hc : Toward.even.cut false (mag <<< (j - D)) (D - j) = rhd (mag * 2 ^ j) (2 ^ D) := by
    rcases Nat.le_total D j with h | h
    · rw [show D - j = 0 by omega, cut_zero, Nat.shiftLeft_eq]
      have : mag * 2 ^ j = mag * 2 ^ (j - D) * 2 ^ D := by rw [Nat.mul_assoc, ← Nat.pow_add, show j - D + D = j by omega]
      rw [this, rhd_exact]
    · rw [show j - D = 0 by omega, Nat.shiftLeft_zero, cut_even _ _ _ (by omega)]
      have e : 2 ^ D = 2 ^ j * 2 ^ (D - j) := by rw [← Nat.pow_add, show j + (D - j) = D by omega]
      rw [e, Nat.mul_comm mag, rhd_scale _ _ _ (Nat.two_pow_pos j)]
  rw [hc]
  unfold Format.word
  simp only [Bool.false_eq_true, if_false, dB, dI]
theorem rnd_eq {V : Nat} (h0 : V ≠ 0) : rnd V = min (rung V) 9218868437227405312 := by
  have := near_form h0 0
  simp only [Nat.add_zero, Nat.pow_zero, Nat.mul_one] at this
  unfold rnd rung
  rw [← this]; rfl
theorem log2_mul_pow {m : Nat} (h0 : m ≠ 0) (j : Nat) : (m * 2 ^ j).log2 = m.log2 + j := by
  refine log2_of ?_ ?_
  · rw [Nat.pow_add]; exact Nat.mul_le_mul_right _ (Nat.log2_self_le h0)
  · rw [show m.log2 + j + 1 = (m.log2 + 1) + j by omega, Nat.pow_add]; exact Nat.mul_lt_mul_of_pos_right Nat.lt_log2_self (Nat.two_pow_pos j)
theorem near_rnd (mag j : Nat) : double.nearest false mag ((j : Int) - 1074) = rnd (mag * 2 ^ j) := by
  by_cases h0 : mag = 0
  · subst h0; rw [Nat.zero_mul]; unfold rnd Format.nearest; simp
  · have hp := Nat.two_pow_pos j
    have h1 : mag * 2 ^ j ≠ 0 := Nat.mul_ne_zero h0 (by omega)
    rw [near_form h0, rnd_eq h1]
    unfold rung
    rw [log2_mul_pow h0]
theorem pow52 : 2 ^ 52 = 4503599627370496 := rfl
theorem rung_bounds {V : Nat} (h : 4503599627370496 ≤ V) : (V.log2 - 52) * 4503599627370496 + 4503599627370496 ≤ rung V ∧ rung V ≤ (V.log2 - 52) * 4503599627370496 + 9007199254740992 := by
  have h0 : V ≠ 0 := by omega
  have hle := Nat.log2_self_le h0
  have hlt := Nat.lt_log2_self (n := V)
  have hL : 52 ≤ V.log2 := by
    rcases Nat.lt_or_ge V.log2 52 with h1 | h1
    · have : 2 ^ (V.log2 + 1) ≤ 2 ^ 52 := Nat.pow_le_pow_right (by omega) (by omega)
      rw [pow52] at this; omega
    · exact h1
  obtain ⟨D, hD⟩ : ∃ D, V.log2 = D + 52 := ⟨V.log2 - 52, by omega⟩
  unfold rung
  rw [hD, Nat.add_sub_cancel]
  rw [hD] at hle hlt
  have h1 : 4503599627370496 ≤ V / 2 ^ D := by
    rw [Nat.le_div_iff_mul_le (Nat.two_pow_pos D), ← pow52, ← Nat.pow_add, Nat.add_comm]; exact hle
  have h2 : V / 2 ^ D < 9007199254740992 := by
    rw [Nat.div_lt_iff_lt_mul (Nat.two_pow_pos D), show (9007199254740992 : Nat) = 2 ^ 53 from rfl, ← Nat.pow_add, show 53 + D = D + 52 + 1 by omega]; exact hlt
  have h3 := rhd_ge V (2 ^ D)
  have h4 := rhd_le V (2 ^ D)
  omega
theorem rung_small {V : Nat} (h : V < 9007199254740992) : rung V = V := by
  unfold rung
  have : V.log2 - 52 = 0 := by
    by_cases h0 : V = 0
    · subst h0; rfl
    · have := (Nat.log2_lt (k := 53) h0).2 h; omega
  rw [this, Nat.zero_mul, Nat.pow_zero]
  unfold rhd; simp [Nat.mod_one]
theorem rung_mono {V W : Nat} (h : V ≤ W) : rung V ≤ rung W := by
  by_cases h1 : W < 9007199254740992
  · rw [rung_small h1, rung_small (by omega)]; exact h
  · have hW := rung_bounds (V := W) (by omega)
    have hl : V.log2 ≤ W.log2 := by
      by_cases h0 : V = 0
      · subst h0; exact Nat.zero_le _
      · exact (Nat.le_log2 (by omega)).2 (Nat.le_trans (Nat.log2_self_le h0) h)
    by_cases h2 : V < 4503599627370496
    · rw [rung_small (by omega)]; omega
    · have hV := rung_bounds (V := V) (by omega)
      by_cases e : V.log2 - 52 = W.log2 - 52
      · unfold rung; rw [e]; have := rhd_mono (2 ^ (W.log2 - 52)) h; omega
      · have : V.log2 - 52 + 1 ≤ W.log2 - 52 := by omega
        omega
theorem rnd_mono {V W : Nat} (h : V ≤ W) : rnd V ≤ rnd W := by
  by_cases h0 : V = 0
  · subst h0; rw [rnd_zero]; exact Nat.zero_le _
  · rw [rnd_eq h0, rnd_eq (by omega)]
    have := rung_mono h
    omega
theorem rnd_val {a : Nat} (h : a < 9218868437227405312) : rnd (valF a) = a := by
  by_cases h1 : a < 4503599627370496
  · have e : valF a = a := by unfold valF mant expo; rw [if_pos h1, if_pos h1]; simp
    by_cases h0 : a = 0
    · subst h0; rw [e]; exact rnd_zero
    · rw [e, rnd_eq h0, rung_small (by omega)]; omega
  · have e : valF a = (4503599627370496 + a % 4503599627370496) * 2 ^ (a / 4503599627370496 - 1) := by unfold valF mant expo; rw [if_neg h1, if_neg h1]
    have hm : (4503599627370496 + a % 4503599627370496).log2 = 52 := log2_52 (by rw [pow52]; omega) (by rw [show 2 ^ 53 = 9007199254740992 from rfl]; omega)
    rw [e, rnd_eq (Nat.mul_ne_zero (by omega) (by have := Nat.two_pow_pos (a / 4503599627370496 - 1); omega))]
    unfold rung
    rw [log2_mul_pow (by omega), hm, show 52 + (a / 4503599627370496 - 1) - 52 = a / 4503599627370496 - 1 by omega, rhd_exact]
    omega
theorem rnd_twice {V : Nat} (h : 4503599627370496 ≤ V) (h2 : rnd V + 4503599627370496 ≤ 9218868437227405312) : rnd (2 * V) = rnd V + 4503599627370496 := by
  have h0 : V ≠ 0 := by omega
  have hL : 52 ≤ V.log2 := by
    rcases Nat.lt_or_ge V.log2 52 with h1 | h1
    · have h3 : 2 ^ (V.log2 + 1) ≤ 2 ^ 52 := Nat.pow_le_pow_right (by omega) (by omega)
      have hlt := Nat.lt_log2_self (n := V)
      rw [pow52] at h3; omega
    · exact h1
  have e : (2 * V).log2 = V.log2 + 1 := by have := log2_mul_pow h0 1; rw [Nat.pow_one, Nat.mul_comm] at this; exact this
  rw [rnd_eq h0] at h2 ⊢
  rw [rnd_eq (by omega)]
  have hr : rung (2 * V) = rung V + 4503599627370496 := by
    unfold rung
    rw [e, show V.log2 + 1 - 52 = (V.log2 - 52) + 1 by omega, Nat.pow_succ, Nat.mul_comm _ 2, rhd_scale _ _ _ (by omega)]
    omega
  rw [hr]; omega
theorem val_twice {a : Nat} (h : 4503599627370496 ≤ a) : valF (a + 4503599627370496) = 2 * valF a := by
  unfold valF mant expo
  rw [if_neg (by omega), if_neg (by omega), if_neg (by omega), if_neg (by omega)]
  have e1 : (a + 4503599627370496) % 4503599627370496 = a % 4503599627370496 := by omega
  have e2 : (a + 4503599627370496) / 4503599627370496 - 1 = (a / 4503599627370496 - 1) + 1 := by omega
  rw [e1, e2, Nat.pow_succ, ← Nat.mul_assoc, Nat.mul_comm]
theorem val_zero : valF 0 = 0 := by decide
theorem val_ge {a : Nat} (h : 4503599627370496 ≤ a) : 4503599627370496 ≤ valF a := by
  have := val_le h
  have e : valF 4503599627370496 = 4503599627370496 := by decide
  rw [e] at this; exact this
end Go.Proofs.Ytoibkgjnnneagab
