/- A text of the base. -/
import Derived.Test.YtfhfkpgfnlmfhaaGreatDoorPkH
import Derived.Laws.FloatArith
/- Real numbers: the order of their words. -/
namespace Go.Proofs.YtfhfkpgfnlmfhaaGreatDoor
open Go Ieee

/-- a magnitude, as a whole number of the least places -/
def mag (r : Nat) : Nat := if r < 4503599627370496 then r else (4503599627370496 + r % 4503599627370496) * 2 ^ (r / 4503599627370496 - 1)
theorem mag_lt {r s : Nat} (h : r < s) : mag r < mag s := by
  unfold mag
  by_cases h1 : s < 4503599627370496
  · rw [if_pos (by omega), if_pos h1]; exact h
  · rw [if_neg h1]
    have hp : 0 < 2 ^ (s / 4503599627370496 - 1) := Nat.two_pow_pos _
    by_cases h2 : r < 4503599627370496
    · rw [if_pos h2]
      have : 4503599627370496 * 1 ≤ (4503599627370496 + s % 4503599627370496) * 2 ^ (s / 4503599627370496 - 1) := Nat.mul_le_mul (by omega) hp
      omega
    · rw [if_neg h2]
      by_cases h3 : r / 4503599627370496 = s / 4503599627370496
      · rw [h3]
        exact Nat.mul_lt_mul_of_pos_right (by omega) hp
      · obtain ⟨k, hk⟩ : ∃ k, s / 4503599627370496 - 1 = (r / 4503599627370496 - 1) + 1 + k := ⟨s / 4503599627370496 - 1 - (r / 4503599627370496 - 1) - 1, by omega⟩
        rw [hk, Nat.pow_add, Nat.pow_succ]
        have hq : 0 < 2 ^ (r / 4503599627370496 - 1) := Nat.two_pow_pos _
        have hk2 : 0 < 2 ^ k := Nat.two_pow_pos _
        generalize 2 ^ (r / 4503599627370496 - 1) = P at *
        generalize 2 ^ k = K at *
        have e1 : (4503599627370496 + r % 4503599627370496) * P < 9007199254740992 * P := Nat.mul_lt_mul_of_pos_right (by omega) hq
        have e2 : 4503599627370496 * (P * 2 * 1) ≤ (4503599627370496 + s % 4503599627370496) * (P * 2 * K) := Nat.mul_le_mul (by omega) (Nat.mul_le_mul_left _ hk2)
        omega
theorem mag_lt_iff {r s : Nat} : mag r < mag s ↔ r < s := by
  constructor
  · intro h
    rcases Nat.lt_trichotomy r s with h1 | h1 | h1
    · exact h1
    · subst h1; omega
    · have := mag_lt h1; omega
  · exact mag_lt
theorem mag_zero : mag 0 = 0 := by simp [mag]

/-- the number of a word, in least places -/
def sval (x : Nat) : Int := if x < 9223372036854775808 then (mag x : Int) else -(mag (x - 9223372036854775808) : Int)
def isNum (x : Nat) : Prop := x % 9223372036854775808 ≤ 9218868437227405312
instance (x : Nat) : Decidable (isNum x) := by unfold isNum; infer_instance

theorem cmp_scale (a b : Int) (k : Nat) : compare (a * (2 ^ k : Nat)) (b * (2 ^ k : Nat)) = compare a b := by
  have hp : (0 : Int) < ((2 ^ k : Nat) : Int) := by exact_mod_cast Nat.two_pow_pos k
  rcases Int.lt_trichotomy a b with h | h | h
  · rw [Int.compare_eq_lt.2 h, Int.compare_eq_lt.2 (Int.mul_lt_mul_of_pos_right h hp)]
  · subst h; rw [Int.compare_eq_eq.2 rfl, Int.compare_eq_eq.2 rfl]
  · rw [Int.compare_eq_gt.2 h, Int.compare_eq_gt.2 (Int.mul_lt_mul_of_pos_right h hp)]
def negB (x : Nat) : Bool := decide (9223372036854775808 ≤ x)
theorem sval_eq {x : Nat} (hx : x < 18446744073709551616) : sval x = if negB x then -(mag (x % 9223372036854775808) : Int) else (mag (x % 9223372036854775808) : Int) := by
  unfold sval negB
  by_cases h : x < 9223372036854775808
  · rw [if_pos h, if_neg (by simp; omega), Nat.mod_eq_of_lt h]
  · rw [if_neg h, if_pos (by simp; omega), show x % 9223372036854775808 = x - 9223372036854775808 by omega]
theorem read_word {x : Nat} (hx : x < 18446744073709551616) : double.read x = if x % 9223372036854775808 < 4503599627370496 then Datum.number (negB x) (x % 9223372036854775808) (-1074)
    else if x % 9223372036854775808 < 9218868437227405312 then .number (negB x) (4503599627370496 + x % 9223372036854775808 % 4503599627370496) (-1074 + ((x % 9223372036854775808 / 4503599627370496 - 1 : Nat) : Int))
    else if x % 9223372036854775808 = 9218868437227405312 then .infinity (negB x) else .nan (negB x) (x % 9223372036854775808 - 9218868437227405312) := by
  have c1 : double.signWeight = 9223372036854775808 := by decide
  have c2 : double.binade = 4503599627370496 := by decide
  have c3 : double.infRung = 9218868437227405312 := by decide
  have c4 : double.leastPlace = -1074 := by decide
  have hn : (x / 9223372036854775808 % 2 == 1) = negB x := by
    unfold negB
    by_cases h : 9223372036854775808 ≤ x
    · have : x / 9223372036854775808 = 1 := by omega
      rw [this]; simp [h]
    · have : x / 9223372036854775808 = 0 := by omega
      rw [this]; simp [h]
  unfold Format.read
  rw [c1, c2, c3, c4]
  simp only [hn]
theorem read_num {x : Nat} (hx : x < 18446744073709551616) (nx : isNum x) : (∃ (m e : Nat), double.read x = .number (negB x) m (-1074 + (e : Int)) ∧ m * 2 ^ e = mag (x % 9223372036854775808) ∧ x % 9223372036854775808 < 9218868437227405312) ∨ (x % 9223372036854775808 = 9218868437227405312 ∧ double.read x = .infinity (negB x)) := by
  unfold isNum at nx
  rw [read_word hx]
  by_cases h1 : x % 9223372036854775808 < 4503599627370496
  · left
    refine ⟨x % 9223372036854775808, 0, ?_, ?_, by omega⟩
    · rw [if_pos h1]; simp
    · unfold mag; rw [if_pos h1]; simp
  · rw [if_neg h1]
    by_cases h2 : x % 9223372036854775808 < 9218868437227405312
    · left
      refine ⟨_, _, by rw [if_pos h2], ?_, h2⟩
      unfold mag
      rw [if_neg h1]
    · right
      have h3 : x % 9223372036854775808 = 9218868437227405312 := by omega
      exact ⟨h3, by rw [if_neg h2, if_pos h3]⟩
theorem cmp_lt' {a b : Int} (h : a < b) : compare a b = .lt := Int.compare_eq_lt.2 h
theorem cmp_gt' {a b : Int} (h : b < a) : compare a b = .gt := Int.compare_eq_gt.2 h
theorem cmp_eq' {a b : Int} (h : a = b) : compare a b = .eq := Int.compare_eq_eq.2 h
theorem order_num {x y : Nat} (hx : x < 18446744073709551616) (hy : y < 18446744073709551616) (nx : isNum x) (ny : isNum y) : double.order x y = some (compare (sval x) (sval y)) := by
  unfold Format.order
  rw [sval_eq hx, sval_eq hy]
  rcases read_num hx nx with ⟨m, e, h1, h2, h3⟩ | ⟨h1, h2⟩
  · rcases read_num hy ny with ⟨n, f, g1, g2, g3⟩ | ⟨g1, g2⟩
    · rw [h1, g1, ← h2, ← g2]
      simp only [Datum.order]
      congr 1
      have a1 : (-1074 + (e : Int) - min (-1074 + (e : Int)) (-1074 + (f : Int))).toNat = e - min e f := by omega
      have a2 : (-1074 + (f : Int) - min (-1074 + (e : Int)) (-1074 + (f : Int))).toNat = f - min e f := by omega
      rw [a1, a2, ← cmp_scale _ _ (min e f)]
      have b1 : ∀ (s : Bool) (m e : Nat), min e f ≤ e → signed s m (e - min e f) * ((2 ^ min e f : Nat) : Int) = if s then -((m * 2 ^ e : Nat) : Int) else ((m * 2 ^ e : Nat) : Int) := by
        intro s m e he
        have : 2 ^ (e - min e f) * 2 ^ min e f = 2 ^ e := by rw [← Nat.pow_add]; congr 1; omega
        unfold signed
        rw [Nat.shiftLeft_eq, ← this, ← Nat.mul_assoc]
        cases s
        · simp
        · simp [Int.neg_mul]
      have b2 : ∀ (s : Bool) (m : Nat), signed s m (f - min e f) * ((2 ^ min e f : Nat) : Int) = if s then -((m * 2 ^ f : Nat) : Int) else ((m * 2 ^ f : Nat) : Int) := by
        intro s m
        have : 2 ^ (f - min e f) * 2 ^ min e f = 2 ^ f := by rw [← Nat.pow_add]; congr 1; omega
        unfold signed
        rw [Nat.shiftLeft_eq, ← this, ← Nat.mul_assoc]
        cases s
        · simp
        · simp [Int.neg_mul]
      rw [b1 _ _ e (by omega), b2]
    · rw [h1, g2]
      simp only [Datum.order]
      have hm := mag_lt (show x % 9223372036854775808 < y % 9223372036854775808 by omega)
      cases negB y
      · cases negB x <;> simp <;> (symm; apply cmp_lt'; omega)
      · cases negB x <;> simp <;> (symm; apply cmp_gt'; omega)
  · rcases read_num hy ny with ⟨n, f, g1, g2, g3⟩ | ⟨g1, g2⟩
    · rw [h2, g1]
      simp only [Datum.order]
      have hm := mag_lt (show y % 9223372036854775808 < x % 9223372036854775808 by omega)
      cases negB x
      · cases negB y <;> simp <;> (symm; apply cmp_gt'; omega)
      · cases negB y <;> simp <;> (symm; apply cmp_lt'; omega)
    · rw [h2, g2, h1, g1]
      simp only [Datum.order]
      have hp : 0 < mag 9218868437227405312 := by have := mag_lt (show 0 < 9218868437227405312 by omega); omega
      generalize mag 9218868437227405312 = M at *
      cases negB x
      · cases negB y
        · first | (simp; done) | (simp; symm; exact cmp_eq' rfl)
        · simp; symm; apply cmp_gt'; omega
      · cases negB y
        · simp; symm; apply cmp_lt'; omega
        · first | (simp; done) | (simp; symm; exact cmp_eq' rfl)
theorem nanB_iff {x : Nat} (hx : x < 18446744073709551616) : nanB x = true ↔ ¬ isNum x := by
  unfold nanB
  show (double.order x x != some .eq) = true ↔ _
  by_cases h : isNum x
  · rw [order_num hx hx h h, cmp_eq' rfl]; simp [h]
  · have h' := h
    unfold isNum at h'
    have : double.read x = .nan (negB x) (x % 9223372036854775808 - 9218868437227405312) := by
      rw [read_word hx, if_neg (by omega), if_neg (by omega), if_neg (by omega)]
    unfold Format.order
    rw [this]
    simp [Datum.order, h]
theorem rcanon {x : Nat} (hx : x < 18446744073709551616) : canon x = if 9218868437227405312 < x % 9223372036854775808 then oneNaN else x := by
  unfold canon
  have h := nanB_iff hx
  unfold isNum at h
  by_cases h1 : 9218868437227405312 < x % 9223372036854775808
  · rw [if_pos (h.2 (by omega)), if_pos h1]
  · rw [if_neg (fun hh => (h.1 hh) (by omega)), if_neg h1]

end Go.Proofs.YtfhfkpgfnlmfhaaGreatDoor
