/- Real numbers of 53 bits as words: products with powers of two. -/
import Derived.Laws.FloatArith
import Derived.Test.YtoibkgjnnneagaaDPure
namespace Go.Proofs.Ytoibkgjnnneagaa
open Go Ieee

/-- the whole number nearest to X / d, of two the even one -/
def rhd (X d : Nat) : Nat := X / d + (if d < 2 * (X % d) ∨ (d = 2 * (X % d) ∧ X / d % 2 = 1) then 1 else 0)

theorem rhd_ge (X d : Nat) : X / d ≤ rhd X d := Nat.le_add_right _ _
theorem rhd_le (X d : Nat) : rhd X d ≤ X / d + 1 := by unfold rhd; split <;> omega

theorem rhd_scale (a X d : Nat) (ha : 0 < a) : rhd (a * X) (a * d) = rhd X d := by
  have h1 : (a * d < 2 * (a * (X % d))) ↔ (d < 2 * (X % d)) := by
    rw [Nat.mul_left_comm]; exact Nat.mul_lt_mul_left ha
  have h2 : (a * d = 2 * (a * (X % d))) ↔ (d = 2 * (X % d)) := by
    rw [Nat.mul_left_comm]; exact Nat.mul_right_inj (by omega)
  unfold rhd
  rw [Nat.mul_div_mul_left _ _ ha, Nat.mul_mod_mul_left]
  simp only [h1, h2]

theorem cut_even (neg : Bool) (n k : Nat) (h : k ≤ n.log2 + 2) : Toward.even.cut neg n k = rhd n (2 ^ k) := by
  unfold Toward.cut rhd
  simp only [Nat.min_eq_left h, Nat.shiftLeft_eq, Nat.one_mul]
  by_cases h1 : 2 ^ k < 2 * (n % 2 ^ k)
  · simp [h1]
  · by_cases h2 : 2 ^ k = 2 * (n % 2 ^ k)
    · by_cases h3 : n / 2 ^ k % 2 = 1 <;> simp [← h2, h3]
    · simp [h1, h2]

theorem log2_of {n k : Nat} (h1 : 2 ^ k ≤ n) (h2 : n < 2 ^ (k + 1)) : n.log2 = k :=
  (Nat.log2_eq_iff (by have := Nat.two_pow_pos k; omega)).2 ⟨h1, h2⟩

/-- a number of 53 bits at a place e, as a word -/
def wd (m : Nat) (e : Int) : Nat := (e + 1074).toNat * 2 ^ 52 + m

theorem read_wd {m : Nat} {e : Int} (h1 : 2 ^ 52 ≤ m) (h2 : m < 2 ^ 53) (h3 : -1074 ≤ e) (h4 : e ≤ 900) : double.read (wd m e) = .number false m e := by
  obtain ⟨k, rfl⟩ : ∃ k : Nat, e = (k : Int) - 1074 := ⟨(e + 1074).toNat, by omega⟩
  have hk : k ≤ 1974 := by omega
  have e1 : wd m ((k : Int) - 1074) = k * 2 ^ 52 + m := by
    unfold wd
    have : ((k : Int) - 1074 + 1074).toNat = k := by omega
    rw [this]
  rw [e1]
  have hb : k * 2 ^ 52 + m < 2 ^ 63 := by omega
  have hd : (k * 2 ^ 52 + m) / 2 ^ 52 = k + 1 := by omega
  have hm : (k * 2 ^ 52 + m) % 2 ^ 52 = m - 2 ^ 52 := by omega
  unfold Format.read
  have s1 : double.signWeight = 2 ^ 63 := rfl
  have s2 : double.binade = 2 ^ 52 := rfl
  have s3 : double.infRung = 2047 * 2 ^ 52 := rfl
  have s4 : double.leastPlace = -1074 := rfl
  simp only [s1, s2, s3, s4, Nat.mod_eq_of_lt hb, Nat.div_eq_of_lt hb, hd, hm]
  have c1 : ¬ (k * 2 ^ 52 + m < 2 ^ 52) := by omega
  have c2 : k * 2 ^ 52 + m < 2047 * 2 ^ 52 := by omega
  simp only [c1, c2, if_false, if_true]
  have e2 : 2 ^ 52 + (m - 2 ^ 52) = m := by omega
  have e3 : (-1074 : Int) + ((k + 1 - 1 : Nat) : Int) = (k : Int) - 1074 := by omega
  rw [e2, e3]
  rfl

/-- rounding up to 2^53 is the next place's least -/
theorem wd_carry {e : Int} (h3 : -1074 ≤ e) : wd (2 ^ 53) e = wd (2 ^ 52) (e + 1) := by
  unfold wd; omega

theorem nearest_big {mag : Nat} {place : Int} (h : 52 ≤ mag.log2) (h0 : mag ≠ 0) (h3 : -1074 ≤ place + (mag.log2 - 52 : Nat)) (h4 : place + (mag.log2 - 52 : Nat) ≤ 900) :
    double.nearest false mag place = wd (rhd mag (2 ^ (mag.log2 - 52))) (place + (mag.log2 - 52 : Nat)) := by
  have s2 : double.binade = 2 ^ 52 := rfl
  have s3 : double.infRung = 2047 * 2 ^ 52 := rfl
  have s4 : double.leastPlace = -1074 := rfl
  have s5 : double.fractionBits = 52 := rfl
  obtain ⟨k, hk⟩ : ∃ k, mag.log2 = k + 52 := ⟨mag.log2 - 52, by omega⟩
  have e1 : max (place + (mag.log2 : Int) - 52) (-1074) = place + (k : Int) := by rw [hk]; simp at h3 ⊢; omega
  have hle := Nat.log2_self_le h0
  have hlt := Nat.lt_log2_self (n := mag)
  rw [hk] at hle hlt h3 h4 ⊢
  have e2 : k + 52 - 52 = k := by omega
  rw [e2] at h3 h4 ⊢
  unfold Format.nearest
  rw [hk] at e1
  simp only [h0, if_false, s2, s3, s4, s5, hk]
  have e1' : max (place + ((k + 52 : Nat) : Int) - ((52 : Nat) : Int)) (-1074) = place + (k : Int) := by
    rw [← e1]; rfl
  rw [e1']
  have e3 : (place - (place + (k : Int))).toNat = 0 := by omega
  have e4 : (place + (k : Int) - place).toNat = k := by omega
  rw [e3, e4, Nat.shiftLeft_zero, cut_even _ _ _ (by omega)]
  unfold Format.word wd
  simp only [Bool.false_eq_true, if_false]
  have e5 : (place + (k : Int) - -1074) = place + (k : Int) + 1074 := by omega
  rw [e5]
  have hr := rhd_le mag (2 ^ k)
  have : mag / 2 ^ k < 2 ^ 53 := by
    rw [Nat.div_lt_iff_lt_mul (Nat.two_pow_pos k)]
    calc mag < 2 ^ (k + 52 + 1) := hlt
      _ = 2 ^ 53 * 2 ^ k := by rw [← Nat.pow_add]; congr 1; omega
  refine Nat.min_eq_left ?_
  have : (place + (k : Int) + 1074).toNat ≤ 1974 := by omega
  omega

theorem nearest_small {mag : Nat} (h : mag.log2 ≤ 52) (h0 : mag ≠ 0) :
    double.nearest false mag 0 = wd (mag * 2 ^ (52 - mag.log2)) (-((52 - mag.log2 : Nat) : Int)) := by
  have s2 : double.binade = 2 ^ 52 := rfl
  have s3 : double.infRung = 2047 * 2 ^ 52 := rfl
  have s4 : double.leastPlace = -1074 := rfl
  have s5 : double.fractionBits = 52 := rfl
  obtain ⟨k, hk⟩ : ∃ k, mag.log2 + k = 52 := ⟨52 - mag.log2, by omega⟩
  have hlt := Nat.lt_log2_self (n := mag)
  have ek : 52 - mag.log2 = k := by omega
  rw [ek]
  unfold Format.nearest
  simp only [h0, if_false, s2, s3, s4, s5]
  have e1' : max ((0 : Int) + (mag.log2 : Int) - ((52 : Nat) : Int)) (-1074) = -(k : Int) := by omega
  rw [e1']
  have e3 : ((0 : Int) - -(k : Int)).toNat = k := by omega
  have e4 : (-(k : Int) - 0).toNat = 0 := by omega
  rw [e3, e4, cut_even _ _ _ (by omega), Nat.shiftLeft_eq]
  have e6 : rhd (mag * 2 ^ k) (2 ^ 0) = mag * 2 ^ k := by unfold rhd; simp [Nat.mod_one]
  rw [e6]
  unfold Format.word wd
  simp only [Bool.false_eq_true, if_false]
  have e5 : (-(k : Int) - -1074) = -(k : Int) + 1074 := by omega
  rw [e5]
  refine Nat.min_eq_left ?_
  have : mag * 2 ^ k < 2 ^ 53 := by
    calc mag * 2 ^ k < 2 ^ (mag.log2 + 1) * 2 ^ k := (Nat.mul_lt_mul_right (Nat.two_pow_pos k)).2 hlt
      _ = 2 ^ 53 := by rw [← Nat.pow_add]; congr 1; omega
  have : (-(k : Int) + 1074).toNat ≤ 1974 := by omega
  omega

theorem log2_52 {m : Nat} (h1 : 2 ^ 52 ≤ m) (h2 : m < 2 ^ 53) : m.log2 = 52 := log2_of h1 h2

/-- a product with a power of two is exact -/
theorem mul_pow {m : Nat} {e f : Int} (h1 : 2 ^ 52 ≤ m) (h2 : m < 2 ^ 53) (e1 : -1074 ≤ e) (e2 : e ≤ 900) (f1 : -1074 ≤ f) (f2 : f ≤ 900) (g1 : -1074 ≤ e + f + 52) (g2 : e + f + 52 ≤ 900) :
    double.mul (wd m e) (wd (2 ^ 52) f) = some (wd m (e + f + 52)) := by
  unfold Format.mul
  rw [read_wd h1 h2 e1 e2, read_wd (Nat.le_refl _) (by decide) f1 f2]
  simp only [Datum.product, Option.map_some, Format.write, Bool.xor_false]
  congr 1
  have hl : (m * 2 ^ 52).log2 = 104 := by
    refine log2_of ?_ ?_
    · rw [show 2 ^ 104 = 2 ^ 52 * 2 ^ 52 from rfl]; exact Nat.mul_le_mul_right _ h1
    · rw [show 2 ^ (104 + 1) = 2 ^ 53 * 2 ^ 52 from rfl]; exact Nat.mul_lt_mul_of_pos_right h2 (Nat.two_pow_pos 52)
  have h0 : m * 2 ^ 52 ≠ 0 := Nat.mul_ne_zero (by omega) (by decide)
  rw [nearest_big (by rw [hl]; omega) h0 (by rw [hl]; omega) (by rw [hl]; omega), hl]
  have hr : rhd (m * 2 ^ 52) (2 ^ (104 - 52)) = m := by
    unfold rhd
    rw [show 104 - 52 = 52 from rfl, Nat.mul_div_cancel _ (Nat.two_pow_pos 52), Nat.mul_mod_left]
    simp
  rw [hr]
  congr 1

/-- a whole number of up to 53 bits: its digits, its place -/
def dg (k : Nat) : Nat := k * 2 ^ (52 - k.log2)
def pc (k : Nat) : Int := -((52 - k.log2 : Nat) : Int)
theorem dg_bounds {k : Nat} (h0 : k ≠ 0) (h : k < 2 ^ 53) : k.log2 ≤ 52 ∧ 2 ^ 52 ≤ dg k ∧ dg k < 2 ^ 53 := by
  have hL : k.log2 ≤ 52 := by have := (Nat.log2_lt (k := 53) h0).2 h; omega
  have hle := Nat.log2_self_le h0
  have hlt := Nat.lt_log2_self (n := k)
  refine ⟨hL, ?_, ?_⟩
  · have : 2 ^ 52 = 2 ^ k.log2 * 2 ^ (52 - k.log2) := by rw [← Nat.pow_add]; congr 1; omega
    rw [this]; exact Nat.mul_le_mul_right _ hle
  · have : 2 ^ 53 = 2 ^ (k.log2 + 1) * 2 ^ (52 - k.log2) := by rw [← Nat.pow_add]; congr 1; omega
    rw [this]; exact (Nat.mul_lt_mul_right (Nat.two_pow_pos _)).2 hlt

theorem of_nat (k : Nat) : floatOfInt .f64 (k : Int) = double.nearest false k 0 := by
  have h : decide ((k : Int) < 0) = false := by simp
  show double.nearest (decide ((k : Int) < 0)) (k : Int).natAbs 0 = _
  rw [h]; rfl
theorem of_pos {k : Nat} (h0 : k ≠ 0) (h : k < 2 ^ 53) : floatOfInt .f64 (k : Int) = wd (dg k) (pc k) := by
  rw [of_nat, nearest_small (dg_bounds h0 h).1 h0]; rfl

theorem fmt : FloatKind.f64.format = double := rfl
/-- a random number's word -/
def realW (k : Nat) : Nat := if k = 0 then 0 else wd (dg k) (pc k - 53)

theorem real_mul {k : Nat} (h : k < 2 ^ 53) : floatBits .mul .f64 (floatOfInt .f64 (k : Int)) 4368491638549381120 = some (realW k) := by
  unfold realW
  by_cases h0 : k = 0
  · subst h0; decide
  · rw [if_neg h0, of_pos h0 h]
    obtain ⟨l, b1, b2⟩ := dg_bounds h0 h
    have hp : -52 ≤ pc k ∧ pc k ≤ 0 := by unfold pc; omega
    have e : (4368491638549381120 : Nat) = wd (2 ^ 52) (-105) := by decide
    rw [e]
    show double.mul _ _ = _
    rw [mul_pow b1 b2 (by omega) (by omega) (by omega) (by omega) (by omega) (by omega)]
    congr 2; omega
theorem real_back {k : Nat} (h : k < 2 ^ 53) : floatBits .mul .f64 (realW k) 4845873199050653696 = some (floatOfInt .f64 (k : Int)) := by
  unfold realW
  by_cases h0 : k = 0
  · subst h0; decide
  · rw [if_neg h0, of_pos h0 h]
    obtain ⟨l, b1, b2⟩ := dg_bounds h0 h
    have hp : -52 ≤ pc k ∧ pc k ≤ 0 := by unfold pc; omega
    have e : (4845873199050653696 : Nat) = wd (2 ^ 52) 1 := by decide
    rw [e]
    show double.mul _ _ = _
    rw [mul_pow b1 b2 (by omega) (by omega) (by omega) (by omega) (by omega) (by omega)]
    congr 2; omega
theorem real_read {k : Nat} (h0 : k ≠ 0) (h : k < 2 ^ 53) : double.read (realW k) = .number false (dg k) (pc k - 53) := by
  unfold realW
  obtain ⟨l, b1, b2⟩ := dg_bounds h0 h
  have hp : -52 ≤ pc k ∧ pc k ≤ 0 := by unfold pc; omega
  rw [if_neg h0, read_wd b1 b2 (by omega) (by omega)]
theorem nat_read {k : Nat} (h0 : k ≠ 0) (h : k < 2 ^ 53) : double.read (floatOfInt .f64 (k : Int)) = .number false (dg k) (pc k) := by
  obtain ⟨l, b1, b2⟩ := dg_bounds h0 h
  have hp : -52 ≤ pc k ∧ pc k ≤ 0 := by unfold pc; omega
  rw [of_pos h0 h, read_wd b1 b2 (by omega) (by omega)]

theorem real_int {k : Nat} (h : k < 2 ^ 53) : floatToIntVal .f64 (floatOfInt .f64 (k : Int)) .u64 = some (k : Int) := by
  have ht : (double.read (floatOfInt .f64 (k : Int))).toInt .zero = some (k : Int) := by
    by_cases h0 : k = 0
    · subst h0; decide
    · rw [nat_read h0 h]
      unfold Datum.toInt Datum.integral
      have hc : Toward.zero.cut false (dg k <<< (pc k).toNat) (-(pc k)).toNat = k := by
        have hL := (dg_bounds h0 h).1
        have e1 : (pc k).toNat = 0 := by unfold pc; omega
        have e2 : (-(pc k)).toNat = 52 - k.log2 := by unfold pc; omega
        rw [e1, e2, Nat.shiftLeft_zero]
        unfold Toward.cut
        have hl : (dg k).log2 = 52 := log2_52 (dg_bounds h0 h).2.1 (dg_bounds h0 h).2.2
        simp only [Bool.toNat_false, Nat.add_zero]
        rw [hl, Nat.min_eq_left (by omega), Nat.shiftLeft_eq, Nat.one_mul]
        unfold dg
        rw [Nat.mul_div_cancel _ (Nat.two_pow_pos _)]
      simp only []
      rw [hc]
      simp [signed]
  unfold floatToIntVal
  rw [show FloatKind.f64.decode (floatOfInt .f64 (k : Int)) = double.read (floatOfInt .f64 (k : Int)) from rfl, ht]
  have m1 : IntKind.u64.min = 0 := rfl
  have m2 : IntKind.u64.max = 18446744073709551615 := rfl
  simp only [m1, m2]
  rw [if_pos]; omega

theorem cmp_gt {a b : Int} (h : b < a) : compare a b = .gt := by rw [Int.compare_eq_gt]; exact h
theorem order_zero {m : Nat} {e : Int} (h : m ≠ 0) (he : -1074 ≤ e) : (Datum.number false m e).order (.number false 0 (-1074)) = some .gt := by
  unfold Datum.order
  simp only []
  congr 1
  have e1 : min e (-1074) = -1074 := by omega
  rw [e1]
  apply cmp_gt
  unfold signed
  simp only [Bool.false_eq_true, if_false]
  rw [Nat.zero_shiftLeft, Nat.shiftLeft_eq]
  have := Nat.mul_pos (Nat.pos_of_ne_zero h) (Nat.two_pow_pos (e - -1074).toNat)
  omega

theorem real_pos {k : Nat} (h : k < 2 ^ 53) : (FloatKind.f64.format.order (realW k) 0 == some .gt || FloatKind.f64.format.order (realW k) 0 == some .eq) = true := by
  by_cases h0 : k = 0
  · subst h0; decide
  · have hp : -52 ≤ pc k ∧ pc k ≤ 0 := by have := (dg_bounds h0 h).1; unfold pc; omega
    have hm := (dg_bounds h0 h).2.1
    show (Datum.order (double.read (realW k)) (double.read 0) == _ || _) = true
    rw [real_read h0 h, show double.read 0 = .number false 0 (-1074) by decide, order_zero (by omega) (by omega)]
    rfl
theorem real_lt {k : Nat} (h : k < 2 ^ 53) : (FloatKind.f64.format.order (realW k) 4607182418800017408 == some .lt) = true := by
  by_cases h0 : k = 0
  · subst h0; decide
  · have hp : -52 ≤ pc k ∧ pc k ≤ 0 := by have := (dg_bounds h0 h).1; unfold pc; omega
    obtain ⟨_, b1, b2⟩ := dg_bounds h0 h
    show (Datum.order (double.read (realW k)) (double.read 4607182418800017408) == _) = true
    rw [real_read h0 h, show double.read 4607182418800017408 = .number false (2 ^ 52) (-52) by decide]
    unfold Datum.order
    simp only []
    have e1 : min (pc k - 53) (-52) = pc k - 53 := by omega
    rw [e1]
    have hc : compare (signed false (dg k) (pc k - 53 - (pc k - 53)).toNat) (signed false (2 ^ 52) (-52 - (pc k - 53)).toNat) = .lt := by
      rw [Int.compare_eq_lt]
      unfold signed
      simp only [Bool.false_eq_true, if_false]
      rw [show (pc k - 53 - (pc k - 53)).toNat = 0 by omega, Nat.shiftLeft_zero, Nat.shiftLeft_eq]
      obtain ⟨c, hc⟩ : ∃ c, (-52 - (pc k - 53)).toNat = c + 1 := ⟨(-52 - (pc k - 53)).toNat - 1, by omega⟩
      rw [hc, Nat.pow_succ]
      have := Nat.two_pow_pos c
      have h3 : 2 ^ 52 * (1 * 2) ≤ 2 ^ 52 * (2 ^ c * 2) := Nat.mul_le_mul_left _ (by omega)
      omega
    rw [hc]; rfl
theorem order_self {d : Nat} {m : Nat} {e : Int} (h : double.read d = .number false m e) : FloatKind.f64.format.order d d = some .eq := by
  show Datum.order (double.read d) (double.read d) = _
  rw [h]
  unfold Datum.order
  simp only []
  congr 1
  rw [Int.compare_eq_eq]
theorem whole_eq {k : Nat} (h : k < 2 ^ 53) : FloatKind.f64.format.order (floatOfInt .f64 (k : Int)) (floatOfInt .f64 (k : Int)) = some .eq := by
  by_cases h0 : k = 0
  · subst h0; decide
  · exact order_self (nat_read h0 h)
end Go.Proofs.Ytoibkgjnnneagaa
