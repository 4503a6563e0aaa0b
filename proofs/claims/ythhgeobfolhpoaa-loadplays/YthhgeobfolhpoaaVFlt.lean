/- Floats as words: sums, products, rounding, order. -/
import Derived.Laws.FloatArith
namespace Go.Proofs.Ythhgeobfolhpoaa
open Go Ieee


/-- the whole number nearest to X / d, of two the even one -/
def rhd (X d : Nat) : Nat := X / d + (if d < 2 * (X % d) ∨ (d = 2 * (X % d) ∧ X / d % 2 = 1) then 1 else 0)

theorem rhd_ge (X d : Nat) : X / d ≤ rhd X d := Nat.le_add_right _ _
theorem rhd_le (X d : Nat) : rhd X d ≤ X / d + 1 := by unfold rhd; split <;> omega

theorem rhd_scale (a X d : Nat) (ha : 0 < a) : rhd (a * X) (a * d) = rhd X d := by
  have h1 : (a * d < 2 * (a * (X % d))) ↔ (d < 2 * (X % d)) := by
    rw [Nat.mul_left_comm]; exact Nat.mul_lt_mul_left ha
  have h2 : (a * d = 2 * (a * (X % d))) ↔ (d = 2 * (X % d)) := by
    rw [Nat.mul_left_comm]; exact Nat.mul_right_inj (by omega)
  unfold rhd
  rw [Nat.mul_div_mul_left _ _ ha, Nat.mul_mod_mul_left]
  simp only [h1, h2]

theorem cut_even (neg : Bool) (n k : Nat) (h : k ≤ n.log2 + 2) : Toward.even.cut neg n k = rhd n (2 ^ k) := by
  unfold Toward.cut rhd
  simp only [Nat.min_eq_left h, Nat.shiftLeft_eq, Nat.one_mul]
  by_cases h1 : 2 ^ k < 2 * (n % 2 ^ k)
  · simp [h1]
  · by_cases h2 : 2 ^ k = 2 * (n % 2 ^ k)
    · by_cases h3 : n / 2 ^ k % 2 = 1 <;> simp [← h2, h3]
    · simp [h1, h2]

theorem log2_of {n k : Nat} (h1 : 2 ^ k ≤ n) (h2 : n < 2 ^ (k + 1)) : n.log2 = k :=
  (Nat.log2_eq_iff (by have := Nat.two_pow_pos k; omega)).2 ⟨h1, h2⟩

theorem log2_52 {m : Nat} (h1 : 2 ^ 52 ≤ m) (h2 : m < 2 ^ 53) : m.log2 = 52 := log2_of h1 h2
theorem of_nat (k : Nat) : floatOfInt .f64 (k : Int) = double.nearest false k 0 := by
  have h : decide ((k : Int) < 0) = false := by simp
  show double.nearest (decide ((k : Int) < 0)) (k : Int).natAbs 0 = _
  rw [h]; rfl
theorem fmt : FloatKind.f64.format = double := rfl

theorem dF : double.fractionBits = 52 := rfl
theorem dB : double.binade = 4503599627370496 := rfl
theorem dI : double.infRung = 9218868437227405312 := rfl
theorem dS : double.signWeight = 9223372036854775808 := rfl
theorem dL : double.leastPlace = -1074 := rfl

/-- a word that is no number below 0 and no NaN -/
def good (s : Nat) : Prop := s ≤ 9218868437227405312
/-- a weight: from 0 on and finite, or the other nought -/
def fair (b : Nat) : Prop := b < 9218868437227405312 ∨ b = 9223372036854775808
instance (b : Nat) : Decidable (fair b) := by unfold fair; infer_instance

theorem read_low {a : Nat} (h : a < 9218868437227405312) : ∃ m e, double.read a = .number false m e ∧ -1074 ≤ e ∧ (m = 0 ↔ a = 0) := by
  have h1 : a / 9223372036854775808 % 2 = 0 := by omega
  have h2 : a % 9223372036854775808 = a := by omega
  by_cases hb : a < 4503599627370496
  · refine ⟨a, -1074, ?_, by omega, Iff.rfl⟩
    unfold Format.read
    simp only [dS, dB, dI, dL, h1, h2]
    rw [if_pos hb]; rfl
  · refine ⟨4503599627370496 + a % 4503599627370496, -1074 + ((a / 4503599627370496 - 1 : Nat) : Int), ?_, by omega, by omega⟩
    unfold Format.read
    simp only [dS, dB, dI, dL, h1, h2]
    rw [if_neg hb, if_pos h]; rfl
theorem read_inf : double.read 9218868437227405312 = .infinity false := by decide
theorem read_other : double.read 9223372036854775808 = .number true 0 (-1074) := by decide
theorem read_zero : double.read 0 = .number false 0 (-1074) := by decide
theorem read_fair {b : Nat} (h : fair b) : ∃ n m e, double.read b = .number n m e ∧ -1074 ≤ e ∧ (n = true → m = 0) := by
  rcases h with h | h
  · obtain ⟨m, e, h1, h2, _⟩ := read_low h
    exact ⟨false, m, e, h1, h2, by simp⟩
  · subst h; exact ⟨true, 0, -1074, read_other, by omega, by simp⟩
theorem near_good (mag : Nat) (place : Int) : good (double.nearest false mag place) := by
  unfold good Format.nearest Format.word
  simp only [Bool.false_eq_true, if_false, dI]
  split
  · omega
  · exact Nat.min_le_right _ _
theorem add_good {s b : Nat} (hs : good s) (hb : fair b) : ∃ r, floatBits .add .f64 s b = some r ∧ good r := by
  show ∃ r, double.add s b = some r ∧ good r
  obtain ⟨n, m, e, hr, _, hn⟩ := read_fair hb
  unfold Format.add
  rw [hr]
  by_cases h : s = 9218868437227405312
  · subst h
    rw [read_inf]
    exact ⟨9218868437227405312, by simp [Datum.sum, Format.write, Format.word, dI], Nat.le_refl _⟩
  · obtain ⟨m2, e2, h2, _, _⟩ := read_low (a := s) (by unfold good at hs; omega)
    rw [h2]
    simp only [Datum.sum, Option.map_some, Format.write]
    refine ⟨_, rfl, ?_⟩
    have ht : ¬ (signed false m2 (e2 - min e2 e).toNat + signed n m (e - min e2 e).toNat < 0) := by
      cases n with
      | false => unfold signed; simp only [Bool.false_eq_true, if_false]; generalize m2 <<< (e2 - min e2 e).toNat = A; generalize m <<< (e - min e2 e).toNat = B; omega
      | true => rw [hn rfl]; unfold signed; simp only [Bool.false_eq_true, if_false, if_true, Nat.zero_shiftLeft]; generalize m2 <<< (e2 - min e2 e).toNat = A; omega
    have : (if signed false m2 (e2 - min e2 e).toNat + signed n m (e - min e2 e).toNat = 0 then false && n else decide (signed false m2 (e2 - min e2 e).toNat + signed n m (e - min e2 e).toNat < 0)) = false := by
      split
      · rfl
      · exact decide_eq_false ht
    rw [this]
    exact near_good _ _

/-- a sum of two -/
def addF (s b : Nat) : Nat := (floatBits .add .f64 s b).getD 0
theorem add_eq {s b : Nat} (hs : good s) (hb : fair b) : floatBits .add .f64 s b = some (addF s b) ∧ good (addF s b) := by
  obtain ⟨r, h1, h2⟩ := add_good hs hb
  unfold addF
  rw [h1]
  exact ⟨rfl, h2⟩
/-- the sum of the first k -/
def sumF (ws : List Nat) : Nat → Nat
  | 0 => 0
  | k + 1 => addF (sumF ws k) (ws.getD k 0)
theorem sum_good {ws : List Nat} {k : Nat} (h : ∀ j, j < k → fair (ws.getD j 0)) : good (sumF ws k) := by
  induction k with
  | zero => exact Nat.zero_le _
  | succ k ih => exact (add_eq (ih fun j hj => h j (by omega)) (h k (by omega))).2

/-- a word's digits and place, its value in the least unit -/
def mant (a : Nat) : Nat := if a < 4503599627370496 then a else 4503599627370496 + a % 4503599627370496
def expo (a : Nat) : Nat := if a < 4503599627370496 then 0 else a / 4503599627370496 - 1
def valF (a : Nat) : Nat := mant a * 2 ^ expo a
theorem read_num {a : Nat} (h : a < 9218868437227405312) : double.read a = .number false (mant a) (-1074 + (expo a : Int)) := by
  have h1 : a / 9223372036854775808 % 2 = 0 := by omega
  have h2 : a % 9223372036854775808 = a := by omega
  unfold mant expo Format.read
  simp only [dS, dB, dI, dL, h1, h2]
  by_cases hb : a < 4503599627370496
  · rw [if_pos hb, if_pos hb, if_pos hb]; rfl
  · rw [if_neg hb, if_neg hb, if_neg hb, if_pos h]; rfl
theorem val_mono {a b : Nat} (h : a < b) : valF a < valF b := by
  unfold valF mant expo
  by_cases hb : b < 4503599627370496
  · rw [if_pos hb, if_pos hb, if_pos (by omega), if_pos (by omega), Nat.pow_zero]; omega
  · rw [if_neg hb, if_neg hb]
    have hbp := Nat.two_pow_pos (b / 4503599627370496 - 1)
    have hb1 : 4503599627370496 * 1 ≤ (4503599627370496 + b % 4503599627370496) * 2 ^ (b / 4503599627370496 - 1) := Nat.mul_le_mul (by omega) hbp
    by_cases ha : a < 4503599627370496
    · rw [if_pos ha, if_pos ha, Nat.pow_zero]; omega
    · rw [if_neg ha, if_neg ha]
      by_cases hq : a / 4503599627370496 = b / 4503599627370496
      · rw [hq]; exact Nat.mul_lt_mul_of_pos_right (by omega) hbp
      · obtain ⟨c, hc⟩ : ∃ c, b / 4503599627370496 - 1 = a / 4503599627370496 - 1 + 1 + c := ⟨b / 4503599627370496 - 1 - (a / 4503599627370496 - 1 + 1), by omega⟩
        rw [hc, Nat.pow_add, Nat.pow_succ]
        have hap := Nat.two_pow_pos (a / 4503599627370496 - 1)
        have hcp := Nat.two_pow_pos c
        generalize 2 ^ (a / 4503599627370496 - 1) = A at *
        have h1 : (4503599627370496 + a % 4503599627370496) * A < 9007199254740992 * A := Nat.mul_lt_mul_of_pos_right (by omega) hap
        have h2 : 4503599627370496 * (A * 2) * 1 ≤ (4503599627370496 + b % 4503599627370496) * (A * 2) * 2 ^ c := Nat.mul_le_mul (Nat.mul_le_mul_right _ (by omega)) hcp
        rw [Nat.mul_assoc (4503599627370496 + b % 4503599627370496)] at h2
        omega
theorem val_le {a b : Nat} (h : a ≤ b) : valF a ≤ valF b := by
  rcases Nat.lt_or_ge a b with h1 | h1
  · exact Nat.le_of_lt (val_mono h1)
  · rw [Nat.le_antisymm h h1]; exact Nat.le_refl _

theorem cmp_of {A B a b : Nat} (h1 : a < b → A < B) (h2 : b < a → B < A) (h3 : a = b → A = B) : compare (A : Int) (B : Int) = compare a b := by
  rcases Nat.lt_trichotomy a b with h | h | h
  · rw [Nat.compare_eq_lt.2 h, Int.compare_eq_lt]; have := h1 h; omega
  · rw [Nat.compare_eq_eq.2 h, Int.compare_eq_eq]; have := h3 h; omega
  · rw [Nat.compare_eq_gt.2 h, Int.compare_eq_gt]; have := h2 h; omega
theorem order_num {a b : Nat} (ha : a < 9218868437227405312) (hb : b < 9218868437227405312) : double.order a b = some (compare a b) := by
  unfold Format.order
  rw [read_num ha, read_num hb]
  unfold Datum.order
  simp only []
  congr 1
  unfold signed
  simp only [Bool.false_eq_true, if_false]
  have key : ∀ m x y : Nat, m <<< ((-1074 + (x : Int)) - min (-1074 + (x : Int)) (-1074 + (y : Int))).toNat * 2 ^ min x y = m * 2 ^ x := by
    intro m x y
    rw [show ((-1074 + (x : Int)) - min (-1074 + (x : Int)) (-1074 + (y : Int))).toNat = x - min x y by omega, Nat.shiftLeft_eq, Nat.mul_assoc, ← Nat.pow_add, show x - min x y + min x y = x by omega]
  have k1 := key (mant a) (expo a) (expo b)
  have k2 := key (mant b) (expo b) (expo a)
  rw [show min (-1074 + (expo b : Int)) (-1074 + (expo a : Int)) = min (-1074 + (expo a : Int)) (-1074 + (expo b : Int)) by omega, Nat.min_comm] at k2
  have m1 := fun h : a < b => val_mono h
  have m2 := fun h : b < a => val_mono h
  unfold valF at m1 m2
  rw [← k1, ← k2] at m1 m2
  have hp := Nat.two_pow_pos (min (expo a) (expo b))
  refine cmp_of (fun h => Nat.lt_of_mul_lt_mul_right (m1 h)) (fun h => Nat.lt_of_mul_lt_mul_right (m2 h)) (fun h => ?_)
  subst h
  rfl
theorem order_inf {a : Nat} (ha : a < 9218868437227405312) : double.order a 9218868437227405312 = some .lt ∧ double.order 9218868437227405312 a = some .gt := by
  unfold Format.order
  rw [read_num ha, read_inf]
  exact ⟨rfl, rfl⟩
theorem order_good {a b : Nat} (ha : good a) (hb : good b) : double.order a b = some (compare a b) := by
  unfold good at ha hb
  by_cases h1 : a = 9218868437227405312 <;> by_cases h2 : b = 9218868437227405312
  · subst h1; subst h2; decide
  · subst h1
    rw [(order_inf (a := b) (by omega)).2, Nat.compare_eq_gt.2 (by omega)]
  · subst h2
    rw [(order_inf (a := a) (by omega)).1, Nat.compare_eq_lt.2 (by omega)]
  · exact order_num (by omega) (by omega)

/-- the tests of a weight -/
theorem fair_yes {b : Nat} (h : fair b) : (double.order b 0 == some .lt) = false ∧ (double.order b 9218868437227405311 == some .gt) = false ∧ (double.order b b != some .eq) = false := by
  rcases h with h | h
  · rw [order_num h (by omega), order_num h (by omega), order_num h h, Nat.compare_eq_eq.2 rfl]
    refine ⟨?_, ?_, rfl⟩
    · have : compare b 0 ≠ .lt := fun e => by rw [Nat.compare_eq_lt] at e; omega
      cases hc : compare b 0 <;> simp_all
    · have : compare b 9218868437227405311 ≠ .gt := fun e => by rw [Nat.compare_eq_gt] at e; omega
      cases hc : compare b 9218868437227405311 <;> simp_all
  · subst h; decide
theorem fair_no {b : Nat} (h : ¬ fair b) (hb : b < 18446744073709551616) : (double.order b 0 == some .lt) = true ∨ ((double.order b 0 == some .lt) = false ∧ (double.order b 9218868437227405311 == some .gt) = true) ∨ ((double.order b 0 == some .lt) = false ∧ (double.order b 9218868437227405311 == some .gt) = false ∧ (double.order b b != some .eq) = true) := by
  unfold fair at h
  by_cases h1 : b = 9218868437227405312
  · subst h1; right; left; decide
  · by_cases h2 : b % 9223372036854775808 ≤ 9218868437227405312
    · left
      have h3 : b / 9223372036854775808 % 2 = 1 := by omega
      obtain ⟨r, hr⟩ : ∃ r, b % 9223372036854775808 = r := ⟨_, rfl⟩
      have hr0 : r ≠ 0 := by omega
      have hz : ∀ (m : Nat) (e : Int), m ≠ 0 → -1074 ≤ e → (Datum.number true m e).order (.number false 0 (-1074)) = some .lt := by
        intro m e hm he
        unfold Datum.order
        simp only []
        congr 1
        rw [show min e (-1074) = -1074 by omega, Int.compare_eq_lt]
        unfold signed
        simp only [Bool.false_eq_true, if_false, if_true]
        rw [Nat.zero_shiftLeft, Nat.shiftLeft_eq]
        have := Nat.mul_pos (Nat.pos_of_ne_zero hm) (Nat.two_pow_pos (e - -1074).toNat)
        generalize m * 2 ^ (e - -1074).toNat = A at *
        omega
      have hk : double.order b 0 = some .lt := by
        unfold Format.order
        rw [read_zero]
        unfold Format.read
        simp only [dS, dB, dI, dL, h3, hr]
        by_cases c1 : r < 4503599627370496
        · simp only [c1, if_true]; exact hz _ _ hr0 (by omega)
        · by_cases c2 : r < 9218868437227405312
          · simp only [c1, c2, if_false, if_true]; exact hz _ _ (by omega) (by omega)
          · have c3 : r = 9218868437227405312 := by omega
            simp only [c3, if_true]
            rfl
      rw [hk]; rfl
    · right; right
      have c1 : ¬ (b % 9223372036854775808 < 4503599627370496) := by omega
      have c2 : ¬ (b % 9223372036854775808 < 9218868437227405312) := by omega
      have c3 : ¬ (b % 9223372036854775808 = 9218868437227405312) := by omega
      have : double.read b = .nan (b / 9223372036854775808 % 2 == 1) (b % 9223372036854775808 - 9218868437227405312) := by
        unfold Format.read
        simp only [dS, dB, dI, dL, c1, c2, c3, if_false]
      unfold Format.order
      rw [this]
      exact ⟨rfl, rfl, rfl⟩

/-- can one be picked from a sum -/
def fine (s : Nat) : Bool := decide (0 < s ∧ s < 9218868437227405312)
theorem fine_yes {s : Nat} (hs : good s) (h : fine s = true) : (double.order s 0 == some .gt) = true ∧ (double.order s 9218868437227405311 == some .gt) = false := by
  have h1 : 0 < s ∧ s < 9218868437227405312 := of_decide_eq_true h
  rw [order_good hs (by unfold good; omega), order_good hs (by unfold good; omega), Nat.compare_eq_gt.2 h1.1]
  refine ⟨rfl, ?_⟩
  have : compare s 9218868437227405311 ≠ .gt := fun e => by rw [Nat.compare_eq_gt] at e; omega
  cases hc : compare s 9218868437227405311 <;> simp_all
theorem fine_no {s : Nat} (hs : good s) (h : fine s = false) : (double.order s 0 == some .gt) = false ∨ ((double.order s 0 == some .gt) = true ∧ (double.order s 9218868437227405311 == some .gt) = true) := by
  have h1 : ¬ (0 < s ∧ s < 9218868437227405312) := of_decide_eq_false h
  unfold good at hs
  by_cases h2 : s = 0
  · subst h2; left; decide
  · have : s = 9218868437227405312 := by omega
    subst this; right; decide

/-- a product of a random number and a sum -/
def mulF (x s : Nat) : Nat := (floatBits .mul .f64 x s).getD 0
theorem mul_eq {x s : Nat} (hx : x < 9218868437227405312) (hs : s < 9218868437227405312) : floatBits .mul .f64 x s = some (mulF x s) ∧ good (mulF x s) := by
  have : ∃ r, double.mul x s = some r ∧ good r := by
    unfold Format.mul
    rw [read_num hx, read_num hs]
    simp only [Datum.product, Option.map_some, Format.write, Bool.xor_false]
    exact ⟨_, rfl, near_good _ _⟩
  obtain ⟨r, h1, h2⟩ := this
  have h3 : floatBits .mul .f64 x s = some r := h1
  unfold mulF
  rw [h3]
  exact ⟨rfl, h2⟩

theorem cut_zero (neg : Bool) (n : Nat) : Toward.even.cut neg n 0 = n := by
  rw [cut_even neg n 0 (by omega)]; unfold rhd; simp [Nat.mod_one]
theorem rhd_exact (m c : Nat) : rhd (m * 2 ^ c) (2 ^ c) = m := by
  unfold rhd
  rw [Nat.mul_div_cancel _ (Nat.two_pow_pos c), Nat.mul_mod_left]
  simp
theorem rhd_mono {X Y : Nat} (d : Nat) (h : X ≤ Y) : rhd X d ≤ rhd Y d := by
  have hq : X / d ≤ Y / d := Nat.div_le_div_right h
  rcases Nat.lt_or_ge (X / d) (Y / d) with h1 | h1
  · have := rhd_le X d; have := rhd_ge Y d; omega
  · have e : X / d = Y / d := Nat.le_antisymm hq h1
    have h2 := Nat.div_add_mod X d
    have h3 := Nat.div_add_mod Y d
    rw [e] at h2
    have hr : X % d ≤ Y % d := by omega
    unfold rhd
    rw [e]
    by_cases c1 : d < 2 * (X % d) ∨ (d = 2 * (X % d) ∧ Y / d % 2 = 1)
    · rw [if_pos c1, if_pos]; exact Nat.le_refl _
      rcases c1 with c | ⟨c, c'⟩
      · left; omega
      · by_cases c2 : Y % d = X % d
        · right; rw [c2]; exact ⟨c, c'⟩
        · left; omega
    · rw [if_neg c1]; omega

/-- the word nearest to so many of the least unit -/
def rnd (V : Nat) : Nat := double.nearest false V (-1074)
def rung (V : Nat) : Nat := (V.log2 - 52) * 4503599627370496 + rhd V (2 ^ (V.log2 - 52))
theorem rnd_zero : rnd 0 = 0 := by decide
theorem near_form {mag : Nat} (h0 : mag ≠ 0) (j : Nat) : double.nearest false mag ((j : Int) - 1074) = min ((mag.log2 + j - 52) * 4503599627370496 + rhd (mag * 2 ^ j) (2 ^ (mag.log2 + j - 52))) 9218868437227405312 := by
  unfold Format.nearest
  simp only [h0, if_false, dF, dL]
  have e1 : max ((j : Int) - 1074 + (mag.log2 : Int) - ((52 : Nat) : Int)) (-1074) = ((mag.log2 + j - 52 : Nat) : Int) - 1074 := by omega
  rw [e1]
  generalize hD : mag.log2 + j - 52 = D
  have e2 : ((j : Int) - 1074 - ((D : Int) - 1074)).toNat = j - D := by omega
  have e3 : ((D : Int) - 1074 - ((j : Int) - 1074)).toNat = D - j := by omega
  have e4 : ((D : Int) - 1074 - -1074).toNat = D := by omega
  rw [e2, e3, e4]
  have hc : Toward.even.cut false (mag <<< (j - D)) (D - j) = rhd (mag * 2 ^ j) (2 ^ D) := by
    rcases Nat.le_total D j with h | h
    · rw [show D - j = 0 by omega, cut_zero, Nat.shiftLeft_eq]
      have : mag * 2 ^ j = mag * 2 ^ (j - D) * 2 ^ D := by rw [Nat.mul_assoc, ← Nat.pow_add, show j - D + D = j by omega]
      rw [this, rhd_exact]
    · rw [show j - D = 0 by omega, Nat.shiftLeft_zero, cut_even _ _ _ (by omega)]
      have e : 2 ^ D = 2 ^ j * 2 ^ (D - j) := by rw [← Nat.pow_add, show j + (D - j) = D by omega]
      rw [e, Nat.mul_comm mag, rhd_scale _ _ _ (Nat.two_pow_pos j)]
  rw [hc]
  unfold Format.word
  simp only [Bool.false_eq_true, if_false, dB, dI]
theorem rnd_eq {V : Nat} (h0 : V ≠ 0) : rnd V = min (rung V) 9218868437227405312 := by
  have := near_form h0 0
  simp only [Nat.add_zero, Nat.pow_zero, Nat.mul_one] at this
  unfold rnd rung
  rw [← this]; rfl
theorem log2_mul_pow {m : Nat} (h0 : m ≠ 0) (j : Nat) : (m * 2 ^ j).log2 = m.log2 + j := by
  refine log2_of ?_ ?_
  · rw [Nat.pow_add]; exact Nat.mul_le_mul_right _ (Nat.log2_self_le h0)
  · rw [show m.log2 + j + 1 = (m.log2 + 1) + j by omega, Nat.pow_add]; exact Nat.mul_lt_mul_of_pos_right Nat.lt_log2_self (Nat.two_pow_pos j)
theorem near_rnd (mag j : Nat) : double.nearest false mag ((j : Int) - 1074) = rnd (mag * 2 ^ j) := by
  by_cases h0 : mag = 0
  · subst h0; rw [Nat.zero_mul]; unfold rnd Format.nearest; simp
  · have hp := Nat.two_pow_pos j
    have h1 : mag * 2 ^ j ≠ 0 := Nat.mul_ne_zero h0 (by omega)
    rw [near_form h0, rnd_eq h1]
    unfold rung
    rw [log2_mul_pow h0]
theorem pow52 : 2 ^ 52 = 4503599627370496 := rfl
theorem rung_bounds {V : Nat} (h : 4503599627370496 ≤ V) : (V.log2 - 52) * 4503599627370496 + 4503599627370496 ≤ rung V ∧ rung V ≤ (V.log2 - 52) * 4503599627370496 + 9007199254740992 := by
  have h0 : V ≠ 0 := by omega
  have hle := Nat.log2_self_le h0
  have hlt := Nat.lt_log2_self (n := V)
  have hL : 52 ≤ V.log2 := by
    rcases Nat.lt_or_ge V.log2 52 with h1 | h1
    · have : 2 ^ (V.log2 + 1) ≤ 2 ^ 52 := Nat.pow_le_pow_right (by omega) (by omega)
      rw [pow52] at this; omega
    · exact h1
  obtain ⟨D, hD⟩ : ∃ D, V.log2 = D + 52 := ⟨V.log2 - 52, by omega⟩
  unfold rung
  rw [hD, Nat.add_sub_cancel]
  rw [hD] at hle hlt
  have h1 : 4503599627370496 ≤ V / 2 ^ D := by
    rw [Nat.le_div_iff_mul_le (Nat.two_pow_pos D), ← pow52, ← Nat.pow_add, Nat.add_comm]; exact hle
  have h2 : V / 2 ^ D < 9007199254740992 := by
    rw [Nat.div_lt_iff_lt_mul (Nat.two_pow_pos D), show (9007199254740992 : Nat) = 2 ^ 53 from rfl, ← Nat.pow_add, show 53 + D = D + 52 + 1 by omega]; exact hlt
  have h3 := rhd_ge V (2 ^ D)
  have h4 := rhd_le V (2 ^ D)
  omega
theorem rung_small {V : Nat} (h : V < 9007199254740992) : rung V = V := by
  unfold rung
  have : V.log2 - 52 = 0 := by
    by_cases h0 : V = 0
    · subst h0; rfl
    · have := (Nat.log2_lt (k := 53) h0).2 h; omega
  rw [this, Nat.zero_mul, Nat.pow_zero]
  unfold rhd; simp [Nat.mod_one]
theorem rung_mono {V W : Nat} (h : V ≤ W) : rung V ≤ rung W := by
  by_cases h1 : W < 9007199254740992
  · rw [rung_small h1, rung_small (by omega)]; exact h
  · have hW := rung_bounds (V := W) (by omega)
    have hl : V.log2 ≤ W.log2 := by
      by_cases h0 : V = 0
      · subst h0; exact Nat.zero_le _
      · exact (Nat.le_log2 (by omega)).2 (Nat.le_trans (Nat.log2_self_le h0) h)
    by_cases h2 : V < 4503599627370496
    · rw [rung_small (by omega)]; omega
    · have hV := rung_bounds (V := V) (by omega)
      by_cases e : V.log2 - 52 = W.log2 - 52
      · unfold rung; rw [e]; have := rhd_mono (2 ^ (W.log2 - 52)) h; omega
      · have : V.log2 - 52 + 1 ≤ W.log2 - 52 := by omega
        omega
theorem rnd_mono {V W : Nat} (h : V ≤ W) : rnd V ≤ rnd W := by
  by_cases h0 : V = 0
  · subst h0; rw [rnd_zero]; exact Nat.zero_le _
  · rw [rnd_eq h0, rnd_eq (by omega)]
    have := rung_mono h
    omega
theorem rnd_val {a : Nat} (h : a < 9218868437227405312) : rnd (valF a) = a := by
  by_cases h1 : a < 4503599627370496
  · have e : valF a = a := by unfold valF mant expo; rw [if_pos h1, if_pos h1]; simp
    by_cases h0 : a = 0
    · subst h0; rw [e]; exact rnd_zero
    · rw [e, rnd_eq h0, rung_small (by omega)]; omega
  · have e : valF a = (4503599627370496 + a % 4503599627370496) * 2 ^ (a / 4503599627370496 - 1) := by unfold valF mant expo; rw [if_neg h1, if_neg h1]
    have hm : (4503599627370496 + a % 4503599627370496).log2 = 52 := log2_52 (by rw [pow52]; omega) (by rw [show 2 ^ 53 = 9007199254740992 from rfl]; omega)
    rw [e, rnd_eq (Nat.mul_ne_zero (by omega) (by have := Nat.two_pow_pos (a / 4503599627370496 - 1); omega))]
    unfold rung
    rw [log2_mul_pow (by omega), hm, show 52 + (a / 4503599627370496 - 1) - 52 = a / 4503599627370496 - 1 by omega, rhd_exact]
    omega
theorem rnd_twice {V : Nat} (h : 4503599627370496 ≤ V) (h2 : rnd V + 4503599627370496 ≤ 9218868437227405312) : rnd (2 * V) = rnd V + 4503599627370496 := by
  have h0 : V ≠ 0 := by omega
  have hL : 52 ≤ V.log2 := by
    rcases Nat.lt_or_ge V.log2 52 with h1 | h1
    · have h3 : 2 ^ (V.log2 + 1) ≤ 2 ^ 52 := Nat.pow_le_pow_right (by omega) (by omega)
      have hlt := Nat.lt_log2_self (n := V)
      rw [pow52] at h3; omega
    · exact h1
  have e : (2 * V).log2 = V.log2 + 1 := by have := log2_mul_pow h0 1; rw [Nat.pow_one, Nat.mul_comm] at this; exact this
  rw [rnd_eq h0] at h2 ⊢
  rw [rnd_eq (by omega)]
  have hr : rung (2 * V) = rung V + 4503599627370496 := by
    unfold rung
    rw [e, show V.log2 + 1 - 52 = (V.log2 - 52) + 1 by omega, Nat.pow_succ, Nat.mul_comm _ 2, rhd_scale _ _ _ (by omega)]
    omega
  rw [hr]; omega
theorem val_twice {a : Nat} (h : 4503599627370496 ≤ a) : valF (a + 4503599627370496) = 2 * valF a := by
  unfold valF mant expo
  rw [if_neg (by omega), if_neg (by omega), if_neg (by omega), if_neg (by omega)]
  have e1 : (a + 4503599627370496) % 4503599627370496 = a % 4503599627370496 := by omega
  have e2 : (a + 4503599627370496) / 4503599627370496 - 1 = (a / 4503599627370496 - 1) + 1 := by omega
  rw [e1, e2, Nat.pow_succ, ← Nat.mul_assoc, Nat.mul_comm]
theorem val_zero : valF 0 = 0 := by decide
theorem val_ge {a : Nat} (h : 4503599627370496 ≤ a) : 4503599627370496 ≤ valF a := by
  have := val_le h
  have e : valF 4503599627370496 = 4503599627370496 := by decide
  rw [e] at this; exact this
end Go.Proofs.Ythhgeobfolhpoaa
