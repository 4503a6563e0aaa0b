/- Doubled weights are picked alike; one weight alone is picked. -/
import Derived.Test.YtoibkgjnnneagabDDbl
namespace Go.Proofs.Ytoibkgjnnneagab
open Go Ieee

theorem near_up {P : Nat} {p : Int} (h0 : P ≠ 0) (h : -1074 ≤ p + (P.log2 : Int) - 52) : ∃ g, double.nearest false P p = min g 9218868437227405312 ∧ double.nearest false P (p + 1) = min (g + 4503599627370496) 9218868437227405312 ∧ g = (p + (P.log2 : Int) - 52 + 1074).toNat * 4503599627370496 + Toward.even.cut false (P <<< (52 - P.log2)) (P.log2 - 52) := by
  refine ⟨_, ?_, ?_, rfl⟩
  · unfold Format.nearest
    simp only [h0, if_false, dF, dL]
    rw [show max (p + (P.log2 : Int) - ((52 : Nat) : Int)) (-1074) = p + (P.log2 : Int) - 52 by omega]
    rw [show (p - (p + (P.log2 : Int) - 52)).toNat = 52 - P.log2 by omega, show (p + (P.log2 : Int) - 52 - p).toNat = P.log2 - 52 by omega, show (p + (P.log2 : Int) - 52 - -1074).toNat = (p + (P.log2 : Int) - 52 + 1074).toNat by omega]
    unfold Format.word
    simp only [Bool.false_eq_true, if_false, dB, dI]
  · unfold Format.nearest
    simp only [h0, if_false, dF, dL]
    rw [show max (p + 1 + (P.log2 : Int) - ((52 : Nat) : Int)) (-1074) = p + 1 + (P.log2 : Int) - 52 by omega]
    rw [show (p + 1 - (p + 1 + (P.log2 : Int) - 52)).toNat = 52 - P.log2 by omega, show (p + 1 + (P.log2 : Int) - 52 - (p + 1)).toNat = P.log2 - 52 by omega, show (p + 1 + (P.log2 : Int) - 52 - -1074).toNat = (p + (P.log2 : Int) - 52 + 1074).toNat + 1 by omega]
    unfold Format.word
    simp only [Bool.false_eq_true, if_false, dB, dI]
    generalize (p + (P.log2 : Int) - 52 + 1074).toNat = A
    generalize Toward.even.cut false (P <<< (52 - P.log2)) (P.log2 - 52) = K
    have e : (A + 1) * 4503599627370496 + K = A * 4503599627370496 + K + 4503599627370496 := by omega
    rw [e]
theorem min_dbl {g : Nat} (h1 : 4503599627370496 ≤ g) (h2 : g ≤ 8660422083433463808) : min (g + 4503599627370496) 9218868437227405312 = dblS (min g 9218868437227405312) ∧ min g 9218868437227405312 < 9218868437227405312 - 4503599627370496 ∧ (min g 9218868437227405312 = 0 ∨ 4503599627370496 ≤ min g 9218868437227405312) := by
  rw [Nat.min_eq_left (by omega), Nat.min_eq_left (by omega)]
  unfold dblS
  rw [if_neg (by omega)]
  exact ⟨rfl, by omega, Or.inr h1⟩
theorem place_le {A C E : Nat} {q : Int} (hq : q + 1074 ≤ (E : Int)) (hE : E ≤ 1921) (hA : A = (q + 1074).toNat) (hC1 : 4503599627370496 ≤ C) (hC2 : C ≤ 9007199254740992) : 4503599627370496 ≤ A * 4503599627370496 + C ∧ A * 4503599627370496 + C ≤ 8660422083433463808 := by
  have : A ≤ E := by omega
  have h2 : A * 4503599627370496 ≤ 1921 * 4503599627370496 := Nat.mul_le_mul_right _ (by omega)
  omega

theorem mul_twice {k S : Nat} (hk : k < 2 ^ 53) (h1 : 553942754166571008 ≤ S) (h2 : S < 8660422083433463808) : mulF (realW k) (S + 4503599627370496) = dblS (mulF (realW k) S) ∧ mulF (realW k) S < 9218868437227405312 - 4503599627370496 ∧ (mulF (realW k) S = 0 ∨ 4503599627370496 ≤ mulF (realW k) S) := by
  have hm : 4503599627370496 ≤ mant S ∧ mant S < 9007199254740992 := by unfold mant; rw [if_neg (by omega)]; omega
  have hm2 : mant (S + 4503599627370496) = mant S := by unfold mant; rw [if_neg (by omega), if_neg (by omega)]; omega
  have he : 122 ≤ expo S ∧ expo S ≤ 1921 := by unfold expo; rw [if_neg (by omega)]; omega
  have he2 : expo (S + 4503599627370496) = expo S + 1 := by unfold expo; rw [if_neg (by omega), if_neg (by omega)]; omega
  by_cases h0 : k = 0
  · subst h0
    have hz : ∀ T, T < 9218868437227405312 → mulF (realW 0) T = 0 := by
      intro T hT
      unfold mulF
      show (double.mul (realW 0) T).getD 0 = 0
      unfold Format.mul
      rw [show realW 0 = 0 from rfl, read_zero, read_num hT]
      simp [Datum.product, Format.write, Format.nearest, Format.word]
    rw [hz S (by omega), hz _ (by omega)]
    exact ⟨rfl, by omega, Or.inl rfl⟩
  · obtain ⟨l, b1, b2⟩ := dg_bounds h0 hk
    rw [pow52] at b1
    rw [show 2 ^ 53 = 9007199254740992 from rfl] at b2
    have hp : -52 ≤ pc k ∧ pc k ≤ 0 := by unfold pc; omega
    have hP0 : dg k * mant S ≠ 0 := Nat.mul_ne_zero (by omega) (by omega)
    have hL : 104 ≤ (dg k * mant S).log2 ∧ (dg k * mant S).log2 ≤ 105 := by
      constructor
      · rw [Nat.le_log2 hP0, show 2 ^ 104 = 4503599627370496 * 4503599627370496 from rfl]; exact Nat.mul_le_mul b1 hm.1
      · have : (dg k * mant S).log2 < 106 := by
          rw [Nat.log2_lt hP0, show 2 ^ 106 = 9007199254740992 * 9007199254740992 from rfl]
          exact Nat.mul_lt_mul_of_lt_of_le b2 (Nat.le_of_lt hm.2) (by omega)
        omega
    have f1 : mulF (realW k) S = double.nearest false (dg k * mant S) (pc k - 53 + (-1074 + (expo S : Int))) := by
      unfold mulF
      show (double.mul (realW k) S).getD 0 = _
      unfold Format.mul
      rw [real_read h0 hk, read_num (by omega)]
      simp [Datum.product, Format.write]
    have f2 : mulF (realW k) (S + 4503599627370496) = double.nearest false (dg k * mant S) (pc k - 53 + (-1074 + (expo S : Int)) + 1) := by
      unfold mulF
      show (double.mul (realW k) _).getD 0 = _
      unfold Format.mul
      rw [real_read h0 hk, read_num (by omega), hm2, he2]
      simp only [Datum.product, Format.write, Option.map_some, Option.getD_some, Bool.xor_false]
      rw [show pc k - 53 + (-1074 + ((expo S + 1 : Nat) : Int)) = pc k - 53 + (-1074 + (expo S : Int)) + 1 by omega]
    obtain ⟨g, g1, g2, g3⟩ := near_up (P := dg k * mant S) (p := pc k - 53 + (-1074 + (expo S : Int))) hP0 (by omega)
    have hcut : 4503599627370496 ≤ Toward.even.cut false ((dg k * mant S) <<< (52 - (dg k * mant S).log2)) ((dg k * mant S).log2 - 52) ∧ Toward.even.cut false ((dg k * mant S) <<< (52 - (dg k * mant S).log2)) ((dg k * mant S).log2 - 52) ≤ 9007199254740992 := by
      rw [show 52 - (dg k * mant S).log2 = 0 by omega, Nat.shiftLeft_zero, cut_even _ _ _ (by omega)]
      have hle := Nat.log2_self_le hP0
      have hlt := Nat.lt_log2_self (n := dg k * mant S)
      generalize hD : (dg k * mant S).log2 - 52 = D
      rw [show (dg k * mant S).log2 = D + 52 by omega] at hle hlt
      generalize dg k * mant S = V at *
      have q1 : 4503599627370496 ≤ V / 2 ^ D := by
        rw [Nat.le_div_iff_mul_le (Nat.two_pow_pos D), ← pow52, ← Nat.pow_add, Nat.add_comm]; exact hle
      have q2 : V / 2 ^ D < 9007199254740992 := by
        rw [Nat.div_lt_iff_lt_mul (Nat.two_pow_pos D), show (9007199254740992 : Nat) = 2 ^ 53 from rfl, ← Nat.pow_add, show 53 + D = D + 52 + 1 by omega]; exact hlt
      have h3 := rhd_ge V (2 ^ D)
      have h4 := rhd_le V (2 ^ D)
      omega
    generalize Toward.even.cut false ((dg k * mant S) <<< (52 - (dg k * mant S).log2)) ((dg k * mant S).log2 - 52) = C at *
    have hg := place_le (A := (pc k - 53 + (-1074 + (expo S : Int)) + ((dg k * mant S).log2 : Int) - 52 + 1074).toNat) (E := expo S) (q := pc k - 53 + (-1074 + (expo S : Int)) + ((dg k * mant S).log2 : Int) - 52) (by omega) he.2 rfl hcut.1 hcut.2
    rw [← g3] at hg
    rw [f1, f2, g1, g2]
    exact min_dbl hg.1 hg.2

theorem cmp_dbl {s x : Nat} (hsl : s < 9218868437227405312 - 4503599627370496) (hxl : x < 9218868437227405312 - 4503599627370496) : double.order (dblS s) (dblS x) = double.order s x := by
  have d1 : good (dblS s) := by unfold good dblS; split <;> omega
  have d2 : good (dblS x) := by unfold good dblS; split <;> omega
  rw [order_good d1 d2, order_good (by unfold good; omega) (by unfold good; omega)]
  congr 1
  rcases Nat.lt_trichotomy s x with h | h | h
  · rw [Nat.compare_eq_lt.2 h, Nat.compare_eq_lt.2 (by unfold dblS; split <;> split <;> omega)]
  · subst h; rw [Nat.compare_eq_eq.2 rfl, Nat.compare_eq_eq.2 rfl]
  · rw [Nat.compare_eq_gt.2 h, Nat.compare_eq_gt.2 (by unfold dblS; split <;> split <;> omega)]

theorem last_dbl {ws : List Nat} (h : Tame ws ws.length) : ∀ k, k ≤ ws.length → lastF (ws.map dblM) k = lastF ws k := by
  intro k
  induction k with
  | zero => intro _; rfl
  | succ k ih =>
    intro hk
    show (if posF ((ws.map dblM).getD k 0) = true then k else lastF (ws.map dblM) k) = (if posF (ws.getD k 0) = true then k else lastF ws k)
    rw [(dbl_fair h (j := k) (by omega)).2, ih (by omega)]
theorem above_dbl {ws : List Nat} (h : Tame ws ws.length) {x : Nat} (hxl : x < 9218868437227405312 - 4503599627370496) : ∀ f k, f + k = ws.length → aboveF (ws.map dblM) (dblS x) f k = aboveF ws x f k := by
  intro f
  induction f with
  | zero => intro k hk; exact last_dbl h k (by omega)
  | succ f ih =>
    intro k hk
    show (if (double.order (sumF (ws.map dblM) (k + 1)) (dblS x) == some .gt) = true then k else aboveF (ws.map dblM) (dblS x) f (k + 1)) = (if (double.order (sumF ws (k + 1)) x == some .gt) = true then k else aboveF ws x f (k + 1))
    have hs := h.sum (k := k + 1) (by omega)
    rw [dbl_sum h _ (by omega), cmp_dbl (by omega) hxl, ih (k + 1) (by omega)]
theorem pick_dbl {ws : List Nat} (hr : right ws) (h : Tame ws ws.length) (s : Nat) : right (ws.map dblM) ∧ pickF (ws.map dblM) s = pickF ws s := by
  obtain ⟨hf, hfi⟩ := hr
  have hfin : 0 < sumF ws ws.length ∧ sumF ws ws.length < 9218868437227405312 := of_decide_eq_true hfi
  have hs := h.sum (k := ws.length) (Nat.le_refl _)
  have hlt : mixN (on s 1) / 2048 < 2 ^ 53 := by have := mixN_lt (on s 1); omega
  have hd := dbl_sum h ws.length (Nat.le_refl _)
  have hds : dblS (sumF ws ws.length) = sumF ws ws.length + 4503599627370496 := by unfold dblS; rw [if_neg (by omega)]
  obtain ⟨m1, m2, -⟩ := mul_twice (k := mixN (on s 1) / 2048) (S := sumF ws ws.length) hlt (by omega) (by omega)
  constructor
  · refine ⟨fun j hj => (dbl_fair h (by simpa using hj)).1, ?_⟩
    rw [List.length_map, hd, hds]
    exact decide_eq_true (by omega)
  · unfold pickF
    rw [List.length_map, hd, hds, m1]
    exact above_dbl h m2 _ _ (by omega)

/-- one weight alone -/
def unit (n i : Nat) : List Nat := (List.replicate n 0).set i 4607182418800017408
theorem unit_length (n i : Nat) : (unit n i).length = n := by simp [unit]
theorem unit_at {n i j : Nat} (hi : i < n) (_hj : j < n) : (unit n i).getD j 0 = if j = i then 4607182418800017408 else 0 := by
  unfold unit
  simp only [List.getD]
  rw [List.getElem?_set]
  by_cases h : j = i
  · subst h; simp [hi]
  · rw [if_neg (by omega), if_neg h, List.getElem?_replicate]; split <;> rfl
theorem unit_sum {n i : Nat} (hi : i < n) : ∀ k, k ≤ n → sumF (unit n i) k = if i < k then 4607182418800017408 else 0 := by
  intro k
  induction k with
  | zero => intro _; rfl
  | succ k ih =>
    intro hk
    rw [sum_succ, ih (by omega), unit_at hi (by omega)]
    by_cases h1 : i < k
    · rw [if_pos h1, if_neg (by omega), if_pos (by omega)]; exact add_nil (by omega) (Or.inl rfl)
    · by_cases h2 : k = i
      · rw [if_neg h1, if_pos h2, if_pos (by omega), add_num (by omega) (by omega), val_zero, Nat.zero_add, rnd_val (by omega)]
      · rw [if_neg h1, if_neg h2, if_neg (by omega)]; exact add_nil (by omega) (Or.inl rfl)
theorem mul_one {k : Nat} (h : k < 2 ^ 53) : mulF (realW k) 4607182418800017408 = realW k := by
  unfold mulF
  show (double.mul (realW k) 4607182418800017408).getD 0 = _
  unfold realW
  by_cases h0 : k = 0
  · subst h0; decide
  · rw [if_neg h0]
    obtain ⟨l, b1, b2⟩ := dg_bounds h0 h
    have hp : -52 ≤ pc k ∧ pc k ≤ 0 := by unfold pc; omega
    have e : (4607182418800017408 : Nat) = wd (2 ^ 52) (-52) := by decide
    rw [e, mul_pow b1 b2 (by omega) (by omega) (by omega) (by omega) (by omega) (by omega)]
    show wd (dg k) _ = wd (dg k) _
    congr 1; omega
theorem pick_unit {n i : Nat} (hi : i < n) (s : Nat) : right (unit n i) ∧ pickF (unit n i) s = i := by
  have hs := unit_sum hi n (Nat.le_refl _)
  rw [if_pos hi] at hs
  have hlt : mixN (on s 1) / 2048 < 2 ^ 53 := by have := mixN_lt (on s 1); omega
  have hx := realW_lt hlt
  constructor
  · refine ⟨fun j hj => ?_, ?_⟩
    · rw [unit_length] at hj
      rw [unit_at hi hj]; unfold fair; split <;> omega
    · rw [unit_length, hs]; decide
  · unfold pickF
    rw [unit_length, hs, mul_one hlt]
    have key : ∀ f k, f + k = n → k ≤ i → aboveF (unit n i) (realW (mixN (on s 1) / 2048)) f k = i := by
      intro f
      induction f with
      | zero => intro k hk hki; omega
      | succ f ih =>
        intro k hk hki
        show (if (double.order (sumF (unit n i) (k + 1)) (realW (mixN (on s 1) / 2048)) == some .gt) = true then k else aboveF (unit n i) (realW (mixN (on s 1) / 2048)) f (k + 1)) = i
        rw [unit_sum hi _ (by omega)]
        by_cases e : k = i
        · rw [if_pos (show i < k + 1 by omega), order_good (by unfold good; omega) (by unfold good; omega), Nat.compare_eq_gt.2 hx, if_pos (show (some Ordering.gt == some Ordering.gt) = true from rfl)]; exact e
        · rw [if_neg (show ¬ i < k + 1 by omega), zero_not (by unfold good; omega), if_neg (by simp)]
          exact ih (k + 1) (by omega) (by omega)
    exact key n 0 (by omega) (Nat.zero_le _)
end Go.Proofs.Ytoibkgjnnneagab
