/-
  Plain arithmetic for the seal's statements: a step of a register over natural numbers, that it is linear, what many steps are.
-/
import Derived.Laws.BitsAllLaws
namespace Go.Proofs.YtlcepoomjnpfpaaDoor
open Go

/-- one step of a register -/
def stp (v : Nat) : Nat := if v % 2 = 1 then (v / 2) ^^^ 2197175160 else v / 2
/-- many steps -/
def stps : Nat → Nat → Nat
  | 0, v => v
  | n + 1, v => stps n (stp v)

theorem stp_eq (v : Nat) : stp v = (v >>> 1) ^^^ (if v.testBit 0 then 2197175160 else 0) := by
  unfold stp
  have h : v.testBit 0 = decide (v % 2 = 1) := by simp [Nat.testBit_zero]
  rw [Nat.shiftRight_succ, Nat.shiftRight_zero]
  by_cases hv : v % 2 = 1 <;> simp [hv, h]

theorem stp_xor (a b : Nat) : stp (a ^^^ b) = stp a ^^^ stp b := by
  rw [stp_eq, stp_eq, stp_eq, Nat.testBit_xor, Nat.shiftRight_xor_distrib]
  cases a.testBit 0 <;> cases b.testBit 0 <;> simp
  · rw [Nat.xor_assoc]
  · rw [Nat.xor_assoc, Nat.xor_comm (b >>> 1), ← Nat.xor_assoc]
  · generalize a >>> 1 = x
    generalize b >>> 1 = y
    apply Nat.eq_of_testBit_eq
    intro i
    simp only [Nat.testBit_xor]
    cases x.testBit i <;> cases y.testBit i <;> cases (Nat.testBit 2197175160 i) <;> rfl

theorem stp_lt {v : Nat} (h : v < 4294967296) : stp v < 4294967296 := by
  unfold stp
  split
  · exact Nat.xor_lt_two_pow (n := 32) (by omega) (by omega)
  · omega

theorem stp_zero : stp 0 = 0 := by decide

theorem stps_xor (n : Nat) : ∀ a b : Nat, stps n (a ^^^ b) = stps n a ^^^ stps n b := by
  induction n with
  | zero => intro a b; rfl
  | succ n ih => intro a b; simp only [stps]; rw [stp_xor, ih]

theorem stps_zero (n : Nat) : stps n 0 = 0 := by
  induction n with
  | zero => rfl
  | succ n ih => simp only [stps]; rw [stp_zero, ih]

theorem stps_lt (n : Nat) : ∀ {v : Nat}, v < 4294967296 → stps n v < 4294967296 := by
  induction n with
  | zero => intro v h; exact h
  | succ n ih => intro v h; exact ih (stp_lt h)

theorem stps_add (m n : Nat) : ∀ v : Nat, stps (m + n) v = stps n (stps m v) := by
  induction m with
  | zero => intro v; simp [stps]
  | succ m ih => intro v; rw [Nat.succ_add]; simp only [stps]; rw [ih]

theorem stps_one (v : Nat) : stps 1 v = stp v := rfl

theorem stps_succ' (n v : Nat) : stps (n + 1) v = stp (stps n v) := by rw [stps_add]; rfl

theorem stps_comm (m n v : Nat) : stps m (stps n v) = stps n (stps m v) := by
  rw [← stps_add, ← stps_add, Nat.add_comm]

/-- the sum of the low bits, one bit more -/
theorem low_succ (r k : Nat) : r % 2 ^ (k + 1) = (r % 2 ^ k) ^^^ (if r / 2 ^ k % 2 = 1 then 2 ^ k else 0) := by
  apply Nat.eq_of_testBit_eq
  intro i
  rw [Nat.testBit_xor, Nat.testBit_mod_two_pow, Nat.testBit_mod_two_pow]
  have hb : r.testBit k = decide (r / 2 ^ k % 2 = 1) := by
    rw [Nat.testBit_eq_decide_div_mod_eq]
  by_cases hk : r / 2 ^ k % 2 = 1
  · rw [if_pos hk, Nat.testBit_two_pow]
    rcases Nat.lt_trichotomy i k with h | h | h
    · simp [h, show i < k + 1 by omega, show ¬ (k = i) by omega]
    · subst h; simp [hb, hk]
    · simp [show ¬ i < k by omega, show ¬ i < k + 1 by omega, show ¬ (k = i) by omega]
  · rw [if_neg hk, Nat.zero_testBit]
    rcases Nat.lt_trichotomy i k with h | h | h
    · simp [h, show i < k + 1 by omega]
    · subst h; simp [hb, hk]
    · simp [show ¬ i < k by omega, show ¬ i < k + 1 by omega]

/-- the steps of the low bits, one bit more -/
theorem stps_low (m r k : Nat) : stps m (r % 2 ^ (k + 1)) = stps m (r % 2 ^ k) ^^^ (if r / 2 ^ k % 2 = 1 then stps m (2 ^ k) else 0) := by
  rw [low_succ, stps_xor]
  split
  · rfl
  · rw [stps_zero]

/-- where the steps leave each single bit as it was, they leave each register as it was -/
theorem stps_still (m : Nat) (h : ∀ i, i < 32 → stps m (2 ^ i) = 2 ^ i) {r : Nat} (hr : r < 4294967296) : stps m r = r := by
  have key : ∀ k, k ≤ 32 → stps m (r % 2 ^ k) = r % 2 ^ k := by
    intro k
    induction k with
    | zero => intro _; simp [Nat.mod_one, stps_zero]
    | succ k ih =>
      intro hk
      rw [stps_low, ih (by omega), h k (by omega), ← low_succ]
  have := key 32 (by omega)
  rwa [Nat.mod_eq_of_lt (show r < 2 ^ 32 by omega)] at this

/-- the product of registers as polynomials, as the loop reckons it: j rounds are left -/
def tms : Nat → Nat → Nat → Nat → Nat
  | 0, _, _, out => out
  | j + 1, a, b, out => tms j (a * 2 % 4294967296) (stp b) (if a / 2147483648 = 1 then out ^^^ b else out)

theorem stp_pow (j : Nat) : stp (2 ^ (j + 1)) = 2 ^ j := by
  unfold stp
  rw [if_neg (by rw [Nat.pow_succ]; omega), Nat.pow_succ]
  omega

theorem tms_part (m : Nat) : ∀ (j : Nat), j ≤ 32 → ∀ (c b out : Nat), c < 2 ^ j → (∀ i, j = i + 1 → b = stps m (2 ^ i)) →
    tms j (c * 2 ^ (32 - j)) b out = out ^^^ stps m c := by
  intro j
  induction j with
  | zero =>
    intro _ c b out hc _
    have h0 : c = 0 := by simpa using hc
    subst h0
    simp [tms, stps_zero]
  | succ j ih =>
    intro hj c b out hc hb
    have hb0 := hb j rfl
    subst hb0
    have e1 : c * 2 ^ (32 - (j + 1)) / 2147483648 = c / 2 ^ j := by
      have : (2147483648 : Nat) = 2 ^ j * 2 ^ (32 - (j + 1)) := by
        rw [← Nat.pow_add, show j + (32 - (j + 1)) = 31 by omega]
      rw [this, Nat.mul_div_mul_right _ _ (Nat.two_pow_pos _)]
    have e2 : c * 2 ^ (32 - (j + 1)) * 2 % 4294967296 = (c % 2 ^ j) * 2 ^ (32 - j) := by
      have h1 : c * 2 ^ (32 - (j + 1)) * 2 = c * 2 ^ (32 - j) := by
        rw [Nat.mul_assoc, ← Nat.pow_succ, show (32 - (j + 1)).succ = 32 - j by omega]
      have h2 : (4294967296 : Nat) = 2 ^ j * 2 ^ (32 - j) := by
        rw [← Nat.pow_add, show j + (32 - j) = 32 by omega]
      rw [h1, h2, Nat.mul_mod_mul_right]
    have e3 : c / 2 ^ j % 2 = c / 2 ^ j := by
      apply Nat.mod_eq_of_lt
      rw [Nat.div_lt_iff_lt_mul (Nat.two_pow_pos _)]
      rw [Nat.pow_succ] at hc; omega
    have e4 : stps m c = stps m (c % 2 ^ j) ^^^ (if c / 2 ^ j = 1 then stps m (2 ^ j) else 0) := by
      have := stps_low m c j
      rw [e3, Nat.mod_eq_of_lt hc] at this
      exact this
    rw [tms, e1, e2, ih (by omega) _ _ _ (Nat.mod_lt _ (Nat.two_pow_pos _)), e4]
    · split
      · rw [Nat.xor_assoc, Nat.xor_comm (stps m (2 ^ j))]
      · simp
    · intro i hi
      subst hi
      rw [← stps_one, stps_comm, stps_one, stp_pow]

/-- the product with m steps of 1 is m steps -/
theorem tms_all (m : Nat) {a : Nat} (ha : a < 4294967296) : tms 32 a (stps m 2147483648) 0 = stps m a := by
  have := tms_part m 32 (by omega) a (stps m 2147483648) 0 (by omega) (by
    intro i hi
    obtain rfl : i = 31 := by omega
    rfl)
  simpa using this

/-- one step back -/
def unst (v : Nat) : Nat := if v / 2147483648 = 1 then ((v ^^^ 2197175160) * 2 % 4294967296) ||| 1 else v * 2 % 4294967296
def unsts : Nat → Nat → Nat
  | 0, v => v
  | n + 1, v => unsts n (unst v)
theorem unst_lt (v : Nat) : unst v < 4294967296 := by
  unfold unst
  split
  · exact Nat.or_lt_two_pow (n := 32) (by omega) (by omega)
  · omega

end Go.Proofs.YtlcepoomjnpfpaaDoor
