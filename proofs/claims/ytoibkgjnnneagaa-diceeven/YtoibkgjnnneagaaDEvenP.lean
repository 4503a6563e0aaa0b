/- The values for which a Roll answers k at once: plain numbers. -/
import Derived.Test.YtoibkgjnnneagaaDCeil
namespace Go.Proofs.Ytoibkgjnnneagaa

theorem ceil_le {V n x : Nat} (hn : 1 ≤ n) : ceilN V n ≤ x ↔ V ≤ x * n := by
  unfold ceilN
  have hd := Nat.div_add_mod V n
  have hm := Nat.mod_lt V hn
  constructor
  · intro h
    have h2 : n * ceilN V n ≤ n * x := Nat.mul_le_mul_left n h
    unfold ceilN at h2
    rw [Nat.mul_add, Nat.mul_comm n x] at h2
    split at h2
    · omega
    · omega
  · intro h
    rcases Nat.lt_or_ge x (V / n + (if V % n = 0 then 0 else 1)) with hx | hx
    · exfalso
      have h2 : n * (x + 1) ≤ n * (V / n + (if V % n = 0 then 0 else 1)) := Nat.mul_le_mul_left n hx
      rw [Nat.mul_add, Nat.mul_add, Nat.mul_one, Nat.mul_comm n x] at h2
      split at h2 <;> omega
    · exact hx

theorem ceil_add {V n : Nat} (q : Nat) (hn : 1 ≤ n) : ceilN (V + n * q) n = ceilN V n + q := by
  unfold ceilN
  rw [Nat.add_mul_div_left _ _ hn, Nat.add_mul_mod_self_left]
  omega

/-- the values' first and the one behind their last -/
def frm (n k : Nat) : Nat := ceilN (k * 18446744073709551616 + restN n) n
def til (n k : Nat) : Nat := ceilN ((k + 1) * 18446744073709551616) n

theorem til_frm {n : Nat} (k : Nat) (hn : 1 ≤ n) : til n k = frm n k + 18446744073709551616 / n := by
  unfold til frm restN
  have hd := Nat.div_add_mod 18446744073709551616 n
  have e : (k + 1) * 18446744073709551616 = k * 18446744073709551616 + 18446744073709551616 % n + n * (18446744073709551616 / n) := by omega
  rw [e, ceil_add _ hn]
theorem til_le {n k : Nat} (hk : k < n) : til n k ≤ 18446744073709551616 := by
  unfold til
  rw [ceil_le (by omega), Nat.mul_comm]
  exact Nat.mul_le_mul_left _ hk
theorem til_last {n k : Nat} (hk : k + 1 = n) : til n k = 18446744073709551616 := by
  unfold til ceilN
  rw [hk, Nat.mul_div_cancel_left _ (by omega), Nat.mul_mod_right, if_pos rfl]

theorem in_yes {n k x : Nat} (hn : 1 ≤ n) (h1 : frm n k ≤ x) (h2 : x < til n k) : x * n / 18446744073709551616 = k ∧ restN n ≤ x * n % 18446744073709551616 := by
  unfold frm at h1
  unfold til at h2
  rw [ceil_le hn] at h1
  have h3 : ¬ (k + 1) * 18446744073709551616 ≤ x * n := fun h => by rw [← ceil_le hn] at h; omega
  generalize x * n = y at *
  omega
theorem in_no {n k x : Nat} (hn : 1 ≤ n) (h : ¬ (frm n k ≤ x ∧ x < til n k)) : ¬ (x * n / 18446744073709551616 = k ∧ restN n ≤ x * n % 18446744073709551616) := by
  rintro ⟨h1, h2⟩
  apply h
  unfold frm til
  constructor
  · rw [ceil_le hn]; omega
  · rcases Nat.lt_or_ge x (ceilN ((k + 1) * 18446744073709551616) n) with h3 | h3
    · exact h3
    · rw [ge_iff_le, ceil_le hn] at h3; omega

theorem once_in {n k x : Nat} (hn : 1 ≤ n) (hx : x < 18446744073709551616) (h1 : frm n k ≤ x) (h2 : x < til n k) : onceN x n = (k, true) := by
  obtain ⟨a, b⟩ := in_yes hn h1 h2
  rw [once_yes hx b, a]
theorem once_out {n k x : Nat} (hn : 1 ≤ n) (hx : x < 18446744073709551616) (h : ¬ (frm n k ≤ x ∧ x < til n k)) : ¬ ((onceN x n).2 = true ∧ (onceN x n).1 = k) := by
  rintro ⟨a, b⟩
  by_cases hr : restN n ≤ x * n % 18446744073709551616
  · rw [once_yes hx hr] at b
    exact in_no hn h ⟨b, hr⟩
  · rw [once_no hx hr] at a; cases a

theorem quo_pos {n : Nat} (hn : 1 ≤ n) (h2 : n ≤ 9223372036854775807) : 1 ≤ 18446744073709551616 / n := by
  rw [Nat.le_div_iff_mul_le hn]; omega
theorem quo_half {n : Nat} (hn : 2 ≤ n) : 18446744073709551616 / n ≤ 9223372036854775808 := by
  have := Nat.div_le_div_left hn (by omega) (a := 18446744073709551616)
  omega
theorem neg_div {n : Nat} (hn : 1 ≤ n) (h2 : n ≤ 9223372036854775807) : (18446744073709551616 - n) / n + 1 = 18446744073709551616 / n := by
  have : 18446744073709551616 / n = (18446744073709551616 - n + n) / n := by congr 1; omega
  rw [this, Nat.add_div_right _ hn]
theorem frm_fits {n k : Nat} (hk : k < n) (h2 : n ≤ 9223372036854775807) : (k * 18446744073709551616 + restN n) / n + 1 < 18446744073709551616 := by
  have hr : restN n < n := Nat.mod_lt _ (by omega)
  have : (k * 18446744073709551616 + restN n) / n < 18446744073709551615 := by
    rw [Nat.div_lt_iff_lt_mul (by omega), Nat.mul_comm 18446744073709551615 n]
    have : k * 18446744073709551616 + 18446744073709551616 ≤ n * 18446744073709551616 := by omega
    omega
  omega
theorem til_fits {n k : Nat} (hk : k + 1 < n) (h2 : n ≤ 9223372036854775807) : ((k + 1) * 18446744073709551616 + 0) / n + 1 < 18446744073709551616 := by
  have : ((k + 1) * 18446744073709551616 + 0) / n < 18446744073709551615 := by
    rw [Nat.div_lt_iff_lt_mul (by omega), Nat.mul_comm 18446744073709551615 n]
    omega
  omega
end Go.Proofs.Ytoibkgjnnneagaa
