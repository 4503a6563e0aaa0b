/- The order of reals, by their words. -/
import Derived.Laws.FloatArith
import Derived.Test.YtgiifedljebclaaRPure
namespace Go.Proofs.Ytgiifedljebclaa.flo
open Go Ieee

theorem fmt : FloatKind.f64.format = double := rfl
theorem dB : double.binade = 4503599627370496 := rfl
theorem dI : double.infRung = 9218868437227405312 := rfl
theorem dS : double.signWeight = 9223372036854775808 := rfl
theorem dL : double.leastPlace = -1074 := rfl
/-- a number's value in the least unit -/
def sg (s : Bool) (n : Nat) : Int := if s then -(n : Int) else (n : Int)
def kf : Datum → Int
  | .number s m e => sg s (m * 2 ^ (e + 1074).toNat)
  | .infinity s => sg s (2 ^ 2200)
  | .nan .. => 0
def kk (a : Nat) : Int := kf (double.read a)
def isN (a : Nat) : Bool := (double.read a).isNaN
def Fnt (d : Datum) : Prop := match d with
  | .number _ m e => -1074 ≤ e ∧ m * 2 ^ (e + 1074).toNat < 2 ^ 2200
  | _ => True
theorem pw {x y z : Nat} (h : x + y < z) : 2 ^ x * 2 ^ y < 2 ^ z := by rw [← Nat.pow_add]; exact Nat.pow_lt_pow_right (by omega) h
theorem read_fin (a : Nat) : Fnt (double.read a) := by
  have hr : double.read a = (if a % 9223372036854775808 < 4503599627370496 then Datum.number (a / 9223372036854775808 % 2 == 1) (a % 9223372036854775808) (-1074) else if a % 9223372036854775808 < 9218868437227405312 then Datum.number (a / 9223372036854775808 % 2 == 1) (4503599627370496 + a % 9223372036854775808 % 4503599627370496) (-1074 + ((a % 9223372036854775808 / 4503599627370496 - 1 : Nat) : Int)) else if a % 9223372036854775808 = 9218868437227405312 then Datum.infinity (a / 9223372036854775808 % 2 == 1) else Datum.nan (a / 9223372036854775808 % 2 == 1) (a % 9223372036854775808 - 9218868437227405312)) := rfl
  rw [hr]
  clear hr
  by_cases h : a % 9223372036854775808 < 4503599627370496
  · rw [if_pos h]
    refine ⟨by omega, ?_⟩
    show _ * 2 ^ 0 < _
    have : (4503599627370496 : Nat) < 2 ^ 2200 := by decide +kernel
    omega
  · rw [if_neg h]
    by_cases h2 : a % 9223372036854775808 < 9218868437227405312
    · rw [if_pos h2]
      generalize a % 9223372036854775808 = r at *
      refine ⟨by omega, ?_⟩
      have hx : r / 4503599627370496 - 1 ≤ 2046 := by omega
      have hm : 4503599627370496 + r % 4503599627370496 ≤ 2 ^ 53 := by omega
      have e : (-1074 + ((r / 4503599627370496 - 1 : Nat) : Int) + 1074).toNat = r / 4503599627370496 - 1 := by omega
      rw [e]
      have h3 := Nat.mul_le_mul hm (Nat.pow_le_pow_right (n := 2) (by omega) hx)
      refine Nat.lt_of_le_of_lt h3 ?_
      exact pw (x := 53) (y := 2046) (z := 2200) (by omega)
    · rw [if_neg h2]
      by_cases h3 : a % 9223372036854775808 = 9218868437227405312
      · rw [if_pos h3]; trivial
      · rw [if_neg h3]; trivial
theorem sg_lt {s : Bool} {n : Nat} (h : n < 2 ^ 2200) : sg s n < ((2 ^ 2200 : Nat) : Int) ∧ -((2 ^ 2200 : Nat) : Int) < sg s n := by
  unfold sg
  generalize (2 ^ 2200 : Nat) = B at *
  split <;> omega
theorem big : (0 : Int) < ((2 ^ 2200 : Nat) : Int) := by have := Nat.two_pow_pos 2200; omega
theorem order_kf {d e : Datum} (hd : Fnt d) (he : Fnt e) (nd : d.isNaN = false) (ne : e.isNaN = false) : d.order e = some (compare (kf d) (kf e)) := by
  cases d with
  | nan s f => cases nd
  | infinity s =>
    cases e with
    | nan s f => cases ne
    | infinity t =>
      have hb := big
      unfold Datum.order kf sg
      simp only []
      congr 1
      generalize ((2 ^ 2200 : Nat) : Int) = B at *
      cases s <;> cases t
      · simp
      · simp only [Bool.toNat_true, Bool.toNat_false, if_true, Bool.false_eq_true, if_false]
        rw [Int.compare_eq_gt.2 (show -B < B by omega)]; rfl
      · simp only [Bool.toNat_true, Bool.toNat_false, if_true, Bool.false_eq_true, if_false]
        rw [Int.compare_eq_lt.2 (show -B < B by omega)]; rfl
      · simp
    | number t n j =>
      have h := sg_lt (s := t) he.2
      unfold Datum.order kf
      simp only []
      congr 1
      generalize sg t (n * 2 ^ (j + 1074).toNat) = X at *
      unfold sg
      generalize ((2 ^ 2200 : Nat) : Int) = B at *
      cases s
      · simp only [Bool.false_eq_true, if_false]; rw [Int.compare_eq_gt.2 (by omega)]
      · simp only [if_true]; rw [Int.compare_eq_lt.2 (by omega)]
  | number s m i =>
    cases e with
    | nan s f => cases ne
    | infinity t =>
      have h := sg_lt (s := s) hd.2
      unfold Datum.order kf
      simp only []
      congr 1
      generalize sg s (m * 2 ^ (i + 1074).toNat) = X at *
      unfold sg
      generalize ((2 ^ 2200 : Nat) : Int) = B at *
      cases t
      · simp only [Bool.false_eq_true, if_false]; rw [Int.compare_eq_lt.2 (by omega)]
      · simp only [if_true]; rw [Int.compare_eq_gt.2 (by omega)]
    | number t n j =>
      obtain ⟨x, hx⟩ : ∃ x : Nat, i = (x : Int) - 1074 := ⟨(i + 1074).toNat, by have := hd.1; omega⟩
      obtain ⟨y, hy⟩ : ∃ y : Nat, j = (y : Int) - 1074 := ⟨(j + 1074).toNat, by have := he.1; omega⟩
      subst hx hy
      unfold Datum.order kf
      simp only []
      congr 1
      obtain ⟨mn, hmn⟩ : ∃ mn : Nat, min x y = mn := ⟨_, rfl⟩
      have e1 : min ((x : Int) - 1074) ((y : Int) - 1074) = (mn : Int) - 1074 := by omega
      have e2 : ((x : Int) - 1074 - ((mn : Int) - 1074)).toNat = x - mn := by omega
      have e3 : ((y : Int) - 1074 - ((mn : Int) - 1074)).toNat = y - mn := by omega
      have e4 : ((x : Int) - 1074 + 1074).toNat = x := by omega
      have e5 : ((y : Int) - 1074 + 1074).toNat = y := by omega
      rw [e1, e2, e3, e4, e5]
      have key : ∀ (s : Bool) (m x : Nat), mn ≤ x → signed s m (x - mn) * ((2 ^ mn : Nat) : Int) = sg s (m * 2 ^ x) := by
        intro s m x hx
        have h1 : m <<< (x - mn) * 2 ^ mn = m * 2 ^ x := by rw [Nat.shiftLeft_eq, Nat.mul_assoc, ← Nat.pow_add, show x - mn + mn = x by omega]
        unfold signed sg
        cases s
        · simp only [Bool.false_eq_true, if_false]; rw [← h1]; simp
        · simp only [if_true]; rw [← h1, Int.neg_mul]; simp
      rw [← key s m x (by omega), ← key t n y (by omega)]
      have hp : (0 : Int) < ((2 ^ mn : Nat) : Int) := by have := Nat.two_pow_pos mn; omega
      generalize signed s m (x - mn) = A
      generalize signed t n (y - mn) = B
      rcases Int.lt_trichotomy A B with h | h | h
      · rw [Int.compare_eq_lt.2 h, Int.compare_eq_lt.2 (Int.mul_lt_mul_of_pos_right h hp)]
      · rw [h]; simp
      · rw [Int.compare_eq_gt.2 h, Int.compare_eq_gt.2 (Int.mul_lt_mul_of_pos_right h hp)]
theorem order_num {a b : Nat} (ha : isN a = false) (hb : isN b = false) : FloatKind.f64.format.order a b = some (compare (kk a) (kk b)) := by
  rw [fmt]; exact order_kf (read_fin a) (read_fin b) ha hb
theorem order_nan {a b : Nat} (h : isN a = true ∨ isN b = true) : FloatKind.f64.format.order a b = none := by
  rw [fmt]
  unfold Format.order isN at *
  cases hx : double.read a with
  | nan s f => cases double.read b <;> rfl
  | number s m e =>
    cases hy : double.read b with
    | nan s f => rfl
    | number t n j => rw [hx, hy] at h; rcases h with h | h <;> cases h
    | infinity t => rw [hx, hy] at h; rcases h with h | h <;> cases h
  | infinity s =>
    cases hy : double.read b with
    | nan s f => rfl
    | number t n j => rw [hx, hy] at h; rcases h with h | h <;> cases h
    | infinity t => rw [hx, hy] at h; rcases h with h | h <;> cases h
theorem nan_self {a : Nat} : (FloatKind.f64.format.order a a == some Ordering.eq) = !isN a := by
  cases h : isN a with
  | true => rw [order_nan (Or.inl h)]; rfl
  | false => rw [order_num h h]; simp
end Go.Proofs.Ytgiifedljebclaa.flo
