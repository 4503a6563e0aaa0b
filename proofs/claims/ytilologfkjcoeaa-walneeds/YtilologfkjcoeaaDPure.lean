/- Dice in plain numbers: stirred, unstirred, strides, a roll. -/
import Derived.Laws.BitsAllLaws
namespace Go.Proofs.Ytilologfkjcoeaa
open Go

theorem shr_bit (x k i : Nat) : (x / 2 ^ k).testBit i = x.testBit (i + k) := by
  rw [← Nat.shiftRight_eq_div_pow, Nat.testBit_shiftRight, Nat.add_comm]

/-- held against itself shifted -/
def sh (k x : Nat) : Nat := x ^^^ x / 2 ^ k
/-- and back -/
def unsh (k x : Nat) : Nat := x ^^^ (x / 2 ^ k ^^^ x / 2 ^ (2 * k))

theorem bit_high {x : Nat} (hx : x < 18446744073709551616) {i : Nat} (hi : 64 ≤ i) : x.testBit i = false :=
  Nat.testBit_lt_two_pow (Nat.lt_of_lt_of_le (show x < 2 ^ 64 from hx) (Nat.pow_le_pow_right (by omega) hi))

theorem unsh_sh {x k : Nat} (hx : x < 18446744073709551616) (hk : 64 ≤ 3 * k) : unsh k (sh k x) = x := by
  apply Nat.eq_of_testBit_eq
  intro i
  have h := bit_high hx (i := i + 2 * k + k) (by omega)
  unfold unsh sh
  simp only [Nat.testBit_xor, shr_bit]
  have e : i + k + k = i + 2 * k := by omega
  rw [h, e]
  cases x.testBit i <;> cases x.testBit (i + k) <;> cases x.testBit (i + 2 * k) <;> rfl

theorem sh_unsh {x k : Nat} (hx : x < 18446744073709551616) (hk : 64 ≤ 3 * k) : sh k (unsh k x) = x := by
  apply Nat.eq_of_testBit_eq
  intro i
  have h := bit_high hx (i := i + k + 2 * k) (by omega)
  unfold unsh sh
  simp only [Nat.testBit_xor, shr_bit]
  have e : i + k + k = i + 2 * k := by omega
  rw [h, e]
  cases x.testBit i <;> cases x.testBit (i + k) <;> cases x.testBit (i + 2 * k) <;> rfl

theorem div_lt' {x : Nat} (k : Nat) (hx : x < 18446744073709551616) : x / 2 ^ k < 18446744073709551616 :=
  Nat.lt_of_le_of_lt (Nat.div_le_self _ _) hx
theorem xor_lt {x y : Nat} (hx : x < 18446744073709551616) (hy : y < 18446744073709551616) : x ^^^ y < 18446744073709551616 :=
  Nat.xor_lt_two_pow (n := 64) hx hy
theorem sh_lt {x : Nat} (k : Nat) (hx : x < 18446744073709551616) : sh k x < 18446744073709551616 := xor_lt hx (div_lt' k hx)
theorem unsh_lt {x : Nat} (k : Nat) (hx : x < 18446744073709551616) : unsh k x < 18446744073709551616 := xor_lt hx (xor_lt (div_lt' _ hx) (div_lt' _ hx))

/-- stirred -/
def mixN (x : Nat) : Nat := sh 31 (sh 27 (sh 30 x * 13787848793156543929 % 18446744073709551616) * 10723151780598845931 % 18446744073709551616)
/-- unstirred -/
def unmixN (x : Nat) : Nat := unsh 30 (unsh 27 (unsh 31 x * 3573116690164977347 % 18446744073709551616) * 10871156337175269513 % 18446744073709551616)

theorem mod_lt' (x : Nat) : x % 18446744073709551616 < 18446744073709551616 := Nat.mod_lt _ (by omega)
theorem mixN_lt (x : Nat) : mixN x < 18446744073709551616 := sh_lt _ (mod_lt' _)
theorem unmixN_lt (x : Nat) : unmixN x < 18446744073709551616 := unsh_lt _ (mod_lt' _)

theorem f1 {x : Nat} (hx : x < 18446744073709551616) : x * 13787848793156543929 % 18446744073709551616 * 10871156337175269513 % 18446744073709551616 = x := by
  rw [Nat.mod_mul_mod, Nat.mul_assoc, Nat.mul_mod, show 13787848793156543929 * 10871156337175269513 % 18446744073709551616 = 1 by decide, Nat.mul_one, Nat.mod_mod, Nat.mod_eq_of_lt hx]
theorem f1' {x : Nat} (hx : x < 18446744073709551616) : x * 10871156337175269513 % 18446744073709551616 * 13787848793156543929 % 18446744073709551616 = x := by
  rw [Nat.mod_mul_mod, Nat.mul_assoc, Nat.mul_mod, show 10871156337175269513 * 13787848793156543929 % 18446744073709551616 = 1 by decide, Nat.mul_one, Nat.mod_mod, Nat.mod_eq_of_lt hx]
theorem f2 {x : Nat} (hx : x < 18446744073709551616) : x * 10723151780598845931 % 18446744073709551616 * 3573116690164977347 % 18446744073709551616 = x := by
  rw [Nat.mod_mul_mod, Nat.mul_assoc, Nat.mul_mod, show 10723151780598845931 * 3573116690164977347 % 18446744073709551616 = 1 by decide, Nat.mul_one, Nat.mod_mod, Nat.mod_eq_of_lt hx]
theorem f2' {x : Nat} (hx : x < 18446744073709551616) : x * 3573116690164977347 % 18446744073709551616 * 10723151780598845931 % 18446744073709551616 = x := by
  rw [Nat.mod_mul_mod, Nat.mul_assoc, Nat.mul_mod, show 3573116690164977347 * 10723151780598845931 % 18446744073709551616 = 1 by decide, Nat.mul_one, Nat.mod_mod, Nat.mod_eq_of_lt hx]

theorem unmix_mix {x : Nat} (hx : x < 18446744073709551616) : unmixN (mixN x) = x := by
  unfold unmixN mixN
  rw [unsh_sh (mod_lt' _) (by omega), f2 (sh_lt _ (mod_lt' _)), unsh_sh (mod_lt' _) (by omega), f1 (sh_lt _ hx), unsh_sh hx (by omega)]
theorem mix_unmix {x : Nat} (hx : x < 18446744073709551616) : mixN (unmixN x) = x := by
  unfold unmixN mixN
  rw [sh_unsh (mod_lt' _) (by omega), f1' (unsh_lt _ (mod_lt' _)), sh_unsh (mod_lt' _) (by omega), f2' (unsh_lt _ hx), sh_unsh hx (by omega)]

/-- gone on by n strides -/
def on (s n : Nat) : Nat := (s + n * 11400714819323198485) % 18446744073709551616
/-- strides between -/
def stepsN (a b : Nat) : Nat := (b + 18446744073709551616 - a) % 18446744073709551616 * 17428512612931826493 % 18446744073709551616

theorem on_lt (s n : Nat) : on s n < 18446744073709551616 := mod_lt' _
theorem stepsN_lt (a b : Nat) : stepsN a b < 18446744073709551616 := mod_lt' _
theorem on_on (s m n : Nat) : on (on s m) n = on s (m + n) := by unfold on; omega
theorem on_mod (s n : Nat) : on s (n % 18446744073709551616) = on s n := by unfold on; omega
theorem steps_on {s : Nat} (hs : s < 18446744073709551616) (n : Nat) : stepsN s (on s n) = n % 18446744073709551616 := by
  have h : (on s n + 18446744073709551616 - s) % 18446744073709551616 = n * 11400714819323198485 % 18446744073709551616 := by unfold on; omega
  unfold stepsN
  rw [h, Nat.mod_mul_mod, Nat.mul_assoc, Nat.mul_mod, show 11400714819323198485 * 17428512612931826493 % 18446744073709551616 = 1 by decide, Nat.mul_one, Nat.mod_mod]
theorem steps_back {s : Nat} (hs : s < 18446744073709551616) (n : Nat) : stepsN (on s n) s = (18446744073709551616 - n % 18446744073709551616) % 18446744073709551616 := by
  have e : on (on s n) (18446744073709551616 - n % 18446744073709551616) = s := by
    rw [on_on]; unfold on; omega
  have := steps_on (on_lt s n) (18446744073709551616 - n % 18446744073709551616)
  rwa [e] at this

/-- what 2^64 leaves -/
def restN (n : Nat) : Nat := 18446744073709551616 % n
/-- a roll of n sides with k draws at most: the answer, the strides gone -/
def rollK : Nat → Nat → Nat → Nat × Nat
  | 0, _, _ => (0, 0)
  | k + 1, n, s =>
    if restN n ≤ mixN (on s 1) * n % 18446744073709551616 ∨ k = 0 then (mixN (on s 1) * n / 18446744073709551616, 1)
    else ((rollK k n (on s 1)).1, (rollK k n (on s 1)).2 + 1)

theorem rollK_le (k n : Nat) : ∀ s, (rollK k n s).2 ≤ k := by
  induction k with
  | zero => intro s; exact Nat.le_refl _
  | succ k ih =>
    intro s; unfold rollK
    split
    · show 1 ≤ k + 1; omega
    · have := ih (on s 1); show _ + 1 ≤ k + 1; omega
theorem rollK_pos (k n : Nat) (s : Nat) : 1 ≤ (rollK (k + 1) n s).2 := by
  unfold rollK; split
  · exact Nat.le_refl _
  · exact Nat.le_add_left _ _
theorem rollK_lt (k n : Nat) (hn : 1 ≤ n) : ∀ s, (rollK k n s).1 < n := by
  induction k with
  | zero => intro s; exact hn
  | succ k ih =>
    intro s; unfold rollK
    split
    · show mixN (on s 1) * n / 18446744073709551616 < n
      rw [Nat.div_lt_iff_lt_mul (by omega), Nat.mul_comm]
      exact Nat.mul_lt_mul_of_pos_left (mixN_lt _) hn
    · exact ih _
end Go.Proofs.Ytilologfkjcoeaa
