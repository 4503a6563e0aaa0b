/- Floats of either sign: sums, products, order. -/
import Derived.Test.YthhgeobfolhpoaaVNum
namespace Go.Proofs.Ythhgeobfolhpoaa
open Go Ieee

/-- a word's size and sign, its value in the least unit -/
def mg (a : Nat) : Nat := a % 9223372036854775808
def ng (a : Nat) : Bool := decide (9223372036854775808 ≤ a)
def sv (a : Nat) : Int := if ng a then -(valF (mg a) : Int) else (valF (mg a) : Int)
/-- a number of either sign that is not great -/
structure fin (a : Nat) : Prop where
  lt : a < 18446744073709551616
  low : mid (mg a)
/-- and a small one -/
structure fil (a : Nat) : Prop where
  lt : a < 18446744073709551616
  low : low (mg a)
theorem fil.fin {a : Nat} (h : fil a) : fin a := ⟨h.lt, h.low.mid⟩
theorem mg_low {a : Nat} (h : a < 9223372036854775808) : mg a = a := Nat.mod_eq_of_lt h
theorem ng_low {a : Nat} (h : a < 9223372036854775808) : ng a = false := decide_eq_false (by omega)
theorem fil_low {a : Nat} (h : low a) : fil a := by
  have h1 := h.lt
  exact ⟨by omega, by rw [mg_low (by omega)]; exact h⟩
theorem fin_mid {a : Nat} (h : mid a) : fin a := by
  have h1 := h.lt
  exact ⟨by omega, by rw [mg_low (by omega)]; exact h⟩
theorem sv_low {a : Nat} (h : a < 9223372036854775808) : sv a = (valF a : Int) := by unfold sv; rw [ng_low h, mg_low h]; rfl
theorem read_fin {a : Nat} (h : fin a) : double.read a = .number (ng a) (mant (mg a)) (-1074 + (expo (mg a) : Int)) := by
  have h1 := h.low.lt
  have h2 := h.lt
  unfold mg at h1
  have hs : (a / 9223372036854775808 % 2 == 1) = ng a := by
    unfold ng
    by_cases c : 9223372036854775808 ≤ a
    · rw [decide_eq_true c]; simp; omega
    · rw [decide_eq_false c]; simp; omega
  unfold Format.read mg mant expo
  simp only [dS, dB, dI, dL, hs]
  by_cases hb : a % 9223372036854775808 < 4503599627370496
  · rw [if_pos hb, if_pos hb, if_pos hb]; simp
  · rw [if_neg hb, if_neg hb, if_neg hb, if_pos h1]
theorem near_sign (s : Bool) (mag : Nat) (p : Int) : double.nearest s mag p = (if s then 9223372036854775808 else 0) + double.nearest false mag p := by
  unfold Format.nearest
  by_cases h0 : mag = 0
  · simp only [h0, if_true, Format.word, dS]; cases s <;> simp
  · simp only [h0, if_false]
    have hc : ∀ n k, Toward.even.cut s n k = Toward.even.cut false n k := fun n k => rfl
    rw [hc]
    unfold Format.word
    simp only [dS]
    cases s <;> simp
/-- a rounded number of units, with its sign -/
def rs (t : Int) : Nat := (if t < 0 then 9223372036854775808 else 0) + rnd t.natAbs
theorem rnd_inf (V : Nat) : rnd V ≤ 9218868437227405312 := near_good V (-1074)
theorem sv_rs {t : Int} (h : rnd t.natAbs < 9218868437227405312) : sv (rs t) = (if t < 0 then -(valF (rnd t.natAbs) : Int) else (valF (rnd t.natAbs) : Int)) ∧ mg (rs t) = rnd t.natAbs ∧ rs t < 18446744073709551616 := by
  unfold rs sv mg ng
  by_cases c : t < 0
  · rw [if_pos c, if_pos c]
    have h1 : (9223372036854775808 + rnd t.natAbs) % 9223372036854775808 = rnd t.natAbs := by omega
    rw [h1, decide_eq_true (by omega)]
    exact ⟨rfl, rfl, by omega⟩
  · rw [if_neg c, if_neg c, Nat.zero_add]
    have h1 : rnd t.natAbs % 9223372036854775808 = rnd t.natAbs := by omega
    rw [h1, decide_eq_false (by omega)]
    exact ⟨rfl, rfl, by omega⟩
theorem add_sgn {a b : Nat} (ha : fin a) (hb : fin b) : floatBits .add .f64 a b = some (if sv a + sv b = 0 then (if ng a && ng b then 9223372036854775808 else 0) else rs (sv a + sv b)) := by
  show double.add a b = _
  unfold Format.add
  rw [read_fin ha, read_fin hb]
  simp only [Datum.sum, Option.map_some, Format.write]
  obtain ⟨mn, hmn⟩ : ∃ mn : Nat, min (expo (mg a)) (expo (mg b)) = mn := ⟨_, rfl⟩
  have e1 : min (-1074 + (expo (mg a) : Int)) (-1074 + (expo (mg b) : Int)) = (mn : Int) - 1074 := by omega
  have e2 : (-1074 + (expo (mg a) : Int) - ((mn : Int) - 1074)).toNat = expo (mg a) - mn := by omega
  have e3 : (-1074 + (expo (mg b) : Int) - ((mn : Int) - 1074)).toNat = expo (mg b) - mn := by omega
  rw [e1, e2, e3]
  have key : ∀ (s : Bool) (m x : Nat), mn ≤ x → signed s m (x - mn) * ((2 ^ mn : Nat) : Int) = (if s then -((m * 2 ^ x : Nat) : Int) else ((m * 2 ^ x : Nat) : Int)) := by
    intro s m x hx
    have h1 : m <<< (x - mn) * 2 ^ mn = m * 2 ^ x := by rw [Nat.shiftLeft_eq, Nat.mul_assoc, ← Nat.pow_add, show x - mn + mn = x by omega]
    unfold signed
    cases s
    · simp only [Bool.false_eq_true, if_false]; rw [← h1]; simp
    · simp only [if_true]; rw [← h1, Int.neg_mul]; simp
  have k1 : signed (ng a) (mant (mg a)) (expo (mg a) - mn) * ((2 ^ mn : Nat) : Int) = sv a := by rw [key _ _ _ (by omega)]; rfl
  have k2 : signed (ng b) (mant (mg b)) (expo (mg b) - mn) * ((2 ^ mn : Nat) : Int) = sv b := by rw [key _ _ _ (by omega)]; rfl
  generalize signed (ng a) (mant (mg a)) (expo (mg a) - mn) = A at *
  generalize signed (ng b) (mant (mg b)) (expo (mg b) - mn) = B at *
  have hp : (0 : Int) < ((2 ^ mn : Nat) : Int) := by have := Nat.two_pow_pos mn; omega
  have ht : sv a + sv b = (A + B) * ((2 ^ mn : Nat) : Int) := by rw [Int.add_mul, k1, k2]
  have habs : (sv a + sv b).natAbs = (A + B).natAbs * 2 ^ mn := by rw [ht, Int.natAbs_mul]; rfl
  generalize sv a + sv b = T at *
  generalize A + B = C at *
  rw [near_sign, near_rnd, ← habs]
  have hz : C = 0 ↔ T = 0 := by
    rw [ht]
    constructor
    · intro e; rw [e]; simp
    · intro e; rcases Int.mul_eq_zero.1 e with e | e
      · exact e
      · omega
  have hn : C < 0 ↔ T < 0 := by
    rw [ht]
    constructor
    · intro e; exact Int.mul_neg_of_neg_of_pos e hp
    · intro e
      rcases Int.lt_or_le C 0 with h | h
      · exact h
      · have := Int.mul_nonneg h (Int.le_of_lt hp); omega
  congr 1
  by_cases c0 : T = 0
  · rw [if_pos c0, if_pos (hz.2 c0), c0]; simp [rnd_zero]
  · rw [if_neg c0, if_neg (fun e => c0 (hz.1 e))]
    unfold rs
    by_cases c1 : T < 0
    · rw [if_pos c1, decide_eq_true (hn.2 c1)]; rfl
    · rw [if_neg c1, decide_eq_false (fun e => c1 (hn.1 e))]; rfl
/-- a sum of a number and a small one -/
def addS (a b : Nat) : Nat := (floatBits .add .f64 a b).getD 0
theorem add_fin {a b : Nat} (ha : fin a) (hb : fil b) : floatBits .add .f64 a b = some (addS a b) ∧ fin (addS a b) ∧ (sv (addS a b) = if sv a + sv b < 0 then -(valF (rnd (sv a + sv b).natAbs) : Int) else (valF (rnd (sv a + sv b).natAbs) : Int)) := by
  have h := add_sgn ha hb.fin
  have hbd : rnd (sv a + sv b).natAbs ≤ 5327758359179296768 := by
    rw [← sat100]
    refine rnd_mono ?_
    have h1 := val_le ha.low
    have h2 := val_le hb.low
    have e1 : (sv a).natAbs = valF (mg a) := by unfold sv; split <;> simp
    have e2 : (sv b).natAbs = valF (mg b) := by unfold sv; split <;> simp
    have := Int.natAbs_add_le (sv a) (sv b)
    unfold mid at h1
    generalize valF 5327758359179296768 = X at *
    generalize valF 5057542381537067008 = Y at *
    omega
  have e : addS a b = (if sv a + sv b = 0 then (if ng a && ng b then 9223372036854775808 else 0) else rs (sv a + sv b)) := by unfold addS; rw [h]; rfl
  refine ⟨by rw [e]; exact h, ?_, ?_⟩
  · rw [e]
    by_cases c : sv a + sv b = 0
    · rw [if_pos c]
      split
      · exact ⟨by omega, Nat.zero_le _⟩
      · exact ⟨by omega, Nat.zero_le _⟩
    · rw [if_neg c]
      obtain ⟨_, h2, h3⟩ := sv_rs (t := sv a + sv b) (by omega)
      exact ⟨h3, by rw [h2]; exact hbd⟩
  · rw [e]
    by_cases c : sv a + sv b = 0
    · rw [if_pos c, c]
      simp only [Int.natAbs_zero, rnd_zero]
      split <;> decide
    · rw [if_neg c]
      exact (sv_rs (t := sv a + sv b) (by omega)).1
theorem order_fin {a b : Nat} (ha : fin a) (hb : fin b) : double.order a b = some (compare (sv a) (sv b)) := by
  unfold Format.order
  rw [read_fin ha, read_fin hb]
  unfold Datum.order
  simp only []
  congr 1
  obtain ⟨mn, hmn⟩ : ∃ mn : Nat, min (expo (mg a)) (expo (mg b)) = mn := ⟨_, rfl⟩
  have e1 : min (-1074 + (expo (mg a) : Int)) (-1074 + (expo (mg b) : Int)) = (mn : Int) - 1074 := by omega
  have e2 : (-1074 + (expo (mg a) : Int) - ((mn : Int) - 1074)).toNat = expo (mg a) - mn := by omega
  have e3 : (-1074 + (expo (mg b) : Int) - ((mn : Int) - 1074)).toNat = expo (mg b) - mn := by omega
  rw [e1, e2, e3]
  have key : ∀ (s : Bool) (m x : Nat), mn ≤ x → signed s m (x - mn) * ((2 ^ mn : Nat) : Int) = (if s then -((m * 2 ^ x : Nat) : Int) else ((m * 2 ^ x : Nat) : Int)) := by
    intro s m x hx
    have h1 : m <<< (x - mn) * 2 ^ mn = m * 2 ^ x := by rw [Nat.shiftLeft_eq, Nat.mul_assoc, ← Nat.pow_add, show x - mn + mn = x by omega]
    unfold signed
    cases s
    · simp only [Bool.false_eq_true, if_false]; rw [← h1]; simp
    · simp only [if_true]; rw [← h1, Int.neg_mul]; simp
  have k1 : signed (ng a) (mant (mg a)) (expo (mg a) - mn) * ((2 ^ mn : Nat) : Int) = sv a := by rw [key _ _ _ (by omega)]; rfl
  have k2 : signed (ng b) (mant (mg b)) (expo (mg b) - mn) * ((2 ^ mn : Nat) : Int) = sv b := by rw [key _ _ _ (by omega)]; rfl
  have hp : (0 : Int) < ((2 ^ mn : Nat) : Int) := by have := Nat.two_pow_pos mn; omega
  rw [← k1, ← k2]
  generalize signed (ng a) (mant (mg a)) (expo (mg a) - mn) = A
  generalize signed (ng b) (mant (mg b)) (expo (mg b) - mn) = B
  rcases Int.lt_trichotomy A B with h | h | h
  · rw [Int.compare_eq_lt.2 h, Int.compare_eq_lt.2 (Int.mul_lt_mul_of_pos_right h hp)]
  · rw [h]; simp
  · rw [Int.compare_eq_gt.2 h, Int.compare_eq_gt.2 (Int.mul_lt_mul_of_pos_right h hp)]
theorem eq_fin {a : Nat} (h : fin a) : (FloatKind.f64.format.order a a == some Ordering.eq) = true := by
  show (double.order a a == some Ordering.eq) = true
  rw [order_fin h h]; simp
/-- a product of a load and a turn's part -/
theorem mul_neg {x y : Nat} (hx : x < 9218868437227405312) (hy : y < 9218868437227405312) : floatBits .mul .f64 x (9223372036854775808 + y) = some (9223372036854775808 + mulF x y) := by
  have hr : double.read (9223372036854775808 + y) = .number true (mant y) (-1074 + (expo y : Int)) := by
    have h1 : (9223372036854775808 + y) / 9223372036854775808 % 2 = 1 := by omega
    have h2 : (9223372036854775808 + y) % 9223372036854775808 = y := by omega
    unfold mant expo Format.read
    simp only [dS, dB, dI, dL, h1, h2]
    by_cases hb : y < 4503599627370496
    · rw [if_pos hb, if_pos hb, if_pos hb]; rfl
    · rw [if_neg hb, if_neg hb, if_neg hb, if_pos hy]; rfl
  show double.mul x _ = _
  unfold Format.mul
  rw [read_num hx, hr]
  simp only [Datum.product, Option.map_some, Format.write, Bool.false_xor]
  rw [near_sign, mul_num hx hy]
  rfl
end Go.Proofs.Ythhgeobfolhpoaa
