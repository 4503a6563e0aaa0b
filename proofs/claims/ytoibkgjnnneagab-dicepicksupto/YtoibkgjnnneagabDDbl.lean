/- Weights doubled; what is picked has a weight. -/
import Derived.Test.YtoibkgjnnneagabDRnd
import Derived.Test.YtoibkgjnnneagabDPick
namespace Go.Proofs.Ytoibkgjnnneagab
open Go Ieee

theorem add_num {a b : Nat} (ha : a < 9218868437227405312) (hb : b < 9218868437227405312) : addF a b = rnd (valF a + valF b) := by
  unfold addF
  show (double.add a b).getD 0 = _
  unfold Format.add
  rw [read_num ha, read_num hb]
  simp only [Datum.sum, Option.map_some, Option.getD_some, Format.write]
  obtain ⟨mn, hmn⟩ : ∃ mn : Nat, min (expo a) (expo b) = mn := ⟨_, rfl⟩
  have e1 : min (-1074 + (expo a : Int)) (-1074 + (expo b : Int)) = (mn : Int) - 1074 := by omega
  have e2 : (-1074 + (expo a : Int) - ((mn : Int) - 1074)).toNat = expo a - mn := by omega
  have e3 : (-1074 + (expo b : Int) - ((mn : Int) - 1074)).toNat = expo b - mn := by omega
  rw [e1, e2, e3]
  unfold signed
  simp only [Bool.false_eq_true, if_false]
  have e4 : (((mant a <<< (expo a - mn) : Nat) : Int) + ((mant b <<< (expo b - mn) : Nat) : Int)) = ((mant a <<< (expo a - mn) + mant b <<< (expo b - mn) : Nat) : Int) := by omega
  rw [e4]
  have e5 : (if ((mant a <<< (expo a - mn) + mant b <<< (expo b - mn) : Nat) : Int) = 0 then (false && false) else decide (((mant a <<< (expo a - mn) + mant b <<< (expo b - mn) : Nat) : Int) < 0)) = false := by
    split
    · rfl
    · exact decide_eq_false (by exact Int.not_lt.2 (Int.natCast_nonneg _))
  rw [e5, Int.natAbs_natCast, near_rnd]
  congr 1
  unfold valF
  rw [Nat.add_mul, Nat.shiftLeft_eq, Nat.shiftLeft_eq, Nat.mul_assoc, Nat.mul_assoc, ← Nat.pow_add, ← Nat.pow_add, show expo a - mn + mn = expo a by omega, show expo b - mn + mn = expo b by omega]
theorem add_nil {a b : Nat} (ha : a < 9218868437227405312) (hb : b = 0 ∨ b = 9223372036854775808) : addF a b = a := by
  rcases hb with rfl | rfl
  · rw [add_num ha (by omega), val_zero, Nat.add_zero, rnd_val ha]
  · unfold addF
    show (double.add a _).getD 0 = _
    unfold Format.add
    rw [read_num ha, read_other]
    simp only [Datum.sum, Option.map_some, Option.getD_some, Format.write]
    have e1 : min (-1074 + (expo a : Int)) (-1074) = ((0 : Nat) : Int) - 1074 := by omega
    have e2 : (-1074 + (expo a : Int) - (((0 : Nat) : Int) - 1074)).toNat = expo a := by omega
    rw [e1, e2]
    unfold signed
    simp only [Bool.false_eq_true, if_false, if_true]
    rw [Nat.zero_shiftLeft]
    have e4 : (((mant a <<< expo a : Nat) : Int) + -((0 : Nat) : Int)) = ((mant a <<< expo a : Nat) : Int) := by omega
    rw [e4]
    have e5 : (if ((mant a <<< expo a : Nat) : Int) = 0 then (false && true) else decide (((mant a <<< expo a : Nat) : Int) < 0)) = false := by
      split
      · rfl
      · exact decide_eq_false (by exact Int.not_lt.2 (Int.natCast_nonneg _))
    rw [e5, Int.natAbs_natCast, near_rnd, Nat.pow_zero, Nat.mul_one, Nat.shiftLeft_eq]
    exact rnd_val ha
theorem add_inf {b : Nat} (hb : fair b) : addF 9218868437227405312 b = 9218868437227405312 := by
  obtain ⟨n, m, e, hr, _, hn⟩ := read_fair hb
  unfold addF
  show (double.add _ _).getD 0 = _
  unfold Format.add
  rw [read_inf, hr]
  simp [Datum.sum, Format.write, Format.word, dI]
/-- a weight above 0 -/
def posF (b : Nat) : Bool := double.order b 0 == some .gt
theorem pos_iff {b : Nat} (h : fair b) : posF b = true ↔ ¬ (b = 0 ∨ b = 9223372036854775808) := by
  unfold posF
  rcases h with h | h
  · rw [order_num h (by omega)]
    by_cases h0 : b = 0
    · subst h0; simp
    · rw [Nat.compare_eq_gt.2 (by omega)]; simp; omega
  · subst h
    constructor
    · intro h; exact absurd h (by decide)
    · intro h; exact absurd (Or.inr rfl) h
theorem add_ge {s b : Nat} (hs : good s) (hb : fair b) : s ≤ addF s b ∧ (posF b = true → b ≤ addF s b) := by
  by_cases h : s = 9218868437227405312
  · subst h; rw [add_inf hb]
    refine ⟨Nat.le_refl _, fun hp => ?_⟩
    rcases hb with hb | hb
    · omega
    · subst hb; exact absurd hp (by decide)
  · have hs' : s < 9218868437227405312 := by unfold good at hs; omega
    by_cases hz : b = 0 ∨ b = 9223372036854775808
    · rw [add_nil hs' hz]
      exact ⟨Nat.le_refl _, fun hp => absurd hz ((pos_iff hb).1 hp)⟩
    · have hb' : b < 9218868437227405312 := by unfold fair at hb; omega
      rw [add_num hs' hb']
      have h1 := rnd_mono (V := valF s) (W := valF s + valF b) (by omega)
      have h2 := rnd_mono (V := valF b) (W := valF s + valF b) (by omega)
      rw [rnd_val hs'] at h1
      rw [rnd_val hb'] at h2
      exact ⟨h1, fun _ => h2⟩

theorem sum_succ (ws : List Nat) (k : Nat) : sumF ws (k + 1) = addF (sumF ws k) (ws.getD k 0) := rfl
theorem sum_mono {ws : List Nat} {n : Nat} (hf : ∀ j, j < n → fair (ws.getD j 0)) {i j : Nat} (hij : i ≤ j) (hj : j ≤ n) : sumF ws i ≤ sumF ws j := by
  induction j with
  | zero => rw [show i = 0 by omega]; exact Nat.le_refl _
  | succ j ih =>
    by_cases e : i = j + 1
    · rw [e]; exact Nat.le_refl _
    · have h1 := ih (by omega) (by omega)
      have h2 := (add_ge (s := sumF ws j) (sum_good fun k hk => hf k (by omega)) (hf j (by omega))).1
      rw [sum_succ]; omega
theorem sum_pos {ws : List Nat} {n : Nat} (hf : ∀ j, j < n → fair (ws.getD j 0)) {j : Nat} (hj : j < n) (hp : posF (ws.getD j 0) = true) : ws.getD j 0 ≤ sumF ws n := by
  have h1 := (add_ge (s := sumF ws j) (sum_good fun k hk => hf k (by omega)) (hf j hj)).2 hp
  have h2 := sum_mono hf (i := j + 1) (j := n) (by omega) (Nat.le_refl _)
  rw [sum_succ] at h2; omega
theorem sum_none {ws : List Nat} {n : Nat} (hf : ∀ j, j < n → fair (ws.getD j 0)) (hz : ∀ j, j < n → posF (ws.getD j 0) = false) : sumF ws n = 0 := by
  induction n with
  | zero => rfl
  | succ n ih =>
    have := ih (fun j hj => hf j (by omega)) (fun j hj => hz j (by omega))
    have h2 : ws.getD n 0 = 0 ∨ ws.getD n 0 = 9223372036854775808 := by
      have h3 := hz n (by omega)
      by_cases h : ws.getD n 0 = 0 ∨ ws.getD n 0 = 9223372036854775808
      · exact h
      · have := (pos_iff (hf n (by omega))).2 h; rw [h3] at this; cases this
    rw [sum_succ, this, add_nil (by omega) h2]

theorem last_pos {ws : List Nat} (n : Nat) : (∀ j, j < n → posF (ws.getD j 0) = false) ∨ (lastF ws n < n ∧ posF (ws.getD (lastF ws n) 0) = true) := by
  induction n with
  | zero => left; intro j hj; omega
  | succ n ih =>
    have e : lastF ws (n + 1) = if posF (ws.getD n 0) = true then n else lastF ws n := rfl
    by_cases h : posF (ws.getD n 0) = true
    · right; rw [e, if_pos h]; exact ⟨by omega, h⟩
    · rw [e, if_neg h]
      rcases ih with h1 | h1
      · left; intro j hj
        by_cases e2 : j = n
        · rw [e2]; simpa using h
        · exact h1 j (by omega)
      · right; exact ⟨by omega, h1.2⟩
theorem above_pos {ws : List Nat} {x n : Nat} (hf : ∀ j, j < n → fair (ws.getD j 0)) (hfin : sumF ws n < 9218868437227405312) (h0 : 0 < sumF ws n) :
    ∀ f k, f + k = n → (double.order (sumF ws k) x == some .gt) = false → aboveF ws x f k < n ∧ posF (ws.getD (aboveF ws x f k) 0) = true := by
  intro f
  induction f with
  | zero =>
    intro k hk _
    have e : k = n := by omega
    subst e
    show lastF ws k < k ∧ _
    rcases last_pos (ws := ws) k with h | h
    · rw [sum_none hf h] at h0; omega
    · exact h
  | succ f ih =>
    intro k hk hno
    have e : aboveF ws x (f + 1) k = if (double.order (sumF ws (k + 1)) x == some .gt) = true then k else aboveF ws x f (k + 1) := rfl
    rw [e]
    by_cases hg : (double.order (sumF ws (k + 1)) x == some .gt) = true
    · rw [if_pos hg]
      refine ⟨by omega, ?_⟩
      have hfk := hf k (by omega)
      rw [pos_iff hfk]
      intro hz
      rw [sum_succ, add_nil (by have := sum_mono hf (i := k) (j := n) (by omega) (Nat.le_refl _); omega) hz, hno] at hg
      cases hg
    · rw [if_neg hg]
      exact ih (k + 1) (by omega) (by simpa using hg)
theorem zero_not {x : Nat} (hx : good x) : (double.order 0 x == some .gt) = false := by
  rw [order_good (by unfold good; omega) hx]
  have : compare 0 x ≠ .gt := fun e => by rw [Nat.compare_eq_gt] at e; omega
  cases hc : compare 0 x <;> simp_all
theorem pick_pos {ws : List Nat} (hr : right ws) (s : Nat) : pickF ws s < ws.length ∧ posF (ws.getD (pickF ws s) 0) = true := by
  obtain ⟨hf, hfi⟩ := hr
  have hfin : 0 < sumF ws ws.length ∧ sumF ws ws.length < 9218868437227405312 := of_decide_eq_true hfi
  have hlt : mixN (on s 1) / 2048 < 2 ^ 53 := by have := mixN_lt (on s 1); omega
  have hg := (mul_eq (x := realW (mixN (on s 1) / 2048)) (s := sumF ws ws.length) (by have := realW_lt hlt; omega) hfin.2).2
  unfold pickF
  exact above_pos hf hfin.2 hfin.1 ws.length 0 (by omega) (zero_not hg)

/-- a word doubled -/
def dblS (s : Nat) : Nat := if s = 0 then 0 else s + 4503599627370496
/-- a weight times 2 -/
def dblM (b : Nat) : Nat := (floatBits .mul .f64 4611686018427387904 b).getD 0
theorem mul_two {b : Nat} (hb : fair b) : floatBits .mul .f64 4611686018427387904 b = some (dblM b) ∧ dblM b < 18446744073709551616 := by
  have : ∃ r, double.mul 4611686018427387904 b = some r ∧ r < 18446744073709551616 := by
    obtain ⟨n, m, e, hr, _, _⟩ := read_fair hb
    unfold Format.mul
    rw [show double.read 4611686018427387904 = .number false 4503599627370496 (-51) by decide, hr]
    simp only [Datum.product, Option.map_some]
    exact ⟨_, rfl, by have := double.write_lt (.number (false ^^ n) (4503599627370496 * m) (-51 + e)); rw [show double.width = 64 from rfl] at this; exact this⟩
  obtain ⟨r, h1, h2⟩ := this
  have h3 : floatBits .mul .f64 4611686018427387904 b = some r := h1
  unfold dblM
  rw [h3]
  exact ⟨rfl, h2⟩
theorem dbl_nil {b : Nat} (h : b = 0 ∨ b = 9223372036854775808) : dblM b = b := by
  rcases h with rfl | rfl <;> decide
theorem dbl_tame {b : Nat} (h1 : 4503599627370496 ≤ b) (h2 : b + 4503599627370496 < 9218868437227405312) : dblM b = b + 4503599627370496 := by
  have hm : 4503599627370496 ≤ mant b ∧ mant b < 9007199254740992 := by unfold mant; rw [if_neg (by omega)]; omega
  have hb : b = expo b * 4503599627370496 + mant b := by unfold expo mant; rw [if_neg (by omega), if_neg (by omega)]; omega
  have hml : (mant b).log2 = 52 := log2_52 (by rw [pow52]; omega) (by rw [show 2 ^ 53 = 9007199254740992 from rfl]; omega)
  unfold dblM
  show (double.mul _ _).getD 0 = _
  unfold Format.mul
  rw [show double.read 4611686018427387904 = .number false 4503599627370496 (-51) by decide, read_num (by omega)]
  simp only [Datum.product, Option.map_some, Option.getD_some, Format.write, Bool.xor_false]
  have hl : (4503599627370496 * mant b).log2 = 104 := by
    have := log2_mul_pow (m := mant b) (by omega) 52
    rw [hml, pow52, Nat.mul_comm] at this
    exact this
  unfold Format.nearest
  have h0 : 4503599627370496 * mant b ≠ 0 := by omega
  simp only [h0, if_false, dF, dL, hl]
  have e1 : max (-51 + (-1074 + (expo b : Int)) + ((104 : Nat) : Int) - ((52 : Nat) : Int)) (-1074) = ((expo b + 1 : Nat) : Int) - 1074 := by omega
  rw [e1]
  have e2 : (-51 + (-1074 + (expo b : Int)) - (((expo b + 1 : Nat) : Int) - 1074)).toNat = 0 := by omega
  have e3 : (((expo b + 1 : Nat) : Int) - 1074 - (-51 + (-1074 + (expo b : Int)))).toNat = 52 := by omega
  have e4 : (((expo b + 1 : Nat) : Int) - 1074 - -1074).toNat = expo b + 1 := by omega
  rw [e2, e3, e4, Nat.shiftLeft_zero, cut_even _ _ _ (by omega), Nat.mul_comm 4503599627370496, ← pow52, rhd_exact]
  unfold Format.word
  simp only [Bool.false_eq_true, if_false, dB, dI]
  rw [pow52]
  omega

/-- weights that may be doubled -/
structure Tame (ws : List Nat) (n : Nat) : Prop where
  fair : ∀ j, j < n → fair (ws.getD j 0)
  low : ∀ j, j < n → posF (ws.getD j 0) = true → 553942754166571008 ≤ ws.getD j 0
  high : sumF ws n < 8660422083433463808
theorem Tame.sum {ws : List Nat} {n : Nat} (h : Tame ws n) {k : Nat} (hk : k ≤ n) : sumF ws k = 0 ∨ (553942754166571008 ≤ sumF ws k ∧ sumF ws k < 8660422083433463808) := by
  have hm := sum_mono h.fair (i := k) (j := n) hk (Nat.le_refl _)
  have hh := h.high
  by_cases hz : ∀ j, j < k → posF (ws.getD j 0) = false
  · left; exact sum_none (fun j hj => h.fair j (by omega)) hz
  · right
    refine ⟨?_, by omega⟩
    have : ∃ j, j < k ∧ posF (ws.getD j 0) = true := by
      apply Classical.byContradiction
      intro hn
      apply hz
      intro j hj
      cases hp : posF (ws.getD j 0) with
      | false => rfl
      | true => exact absurd ⟨j, hj, hp⟩ hn
    obtain ⟨j, hj, hp⟩ := this
    have h1 := sum_pos (n := k) (fun j hj => h.fair j (by omega)) hj hp
    have h2 := h.low j (by omega) hp
    omega
theorem Tame.weight {ws : List Nat} {n : Nat} (h : Tame ws n) {j : Nat} (hj : j < n) : (ws.getD j 0 = 0 ∨ ws.getD j 0 = 9223372036854775808) ∨ (553942754166571008 ≤ ws.getD j 0 ∧ ws.getD j 0 < 8660422083433463808) := by
  by_cases hz : ws.getD j 0 = 0 ∨ ws.getD j 0 = 9223372036854775808
  · exact Or.inl hz
  · have hp := (pos_iff (h.fair j hj)).2 hz
    have h1 := sum_pos h.fair hj hp
    have h2 := h.low j hj hp
    have h3 := h.high
    exact Or.inr ⟨h2, by omega⟩
theorem dbl_map (ws : List Nat) {j : Nat} (hj : j < ws.length) : (ws.map dblM).getD j 0 = dblM (ws.getD j 0) := by
  simp [List.getD, List.getElem?_eq_getElem hj]
theorem dbl_val {s : Nat} (h : s = 0 ∨ 4503599627370496 ≤ s) : valF (dblS s) = 2 * valF s := by
  unfold dblS
  rcases h with rfl | h
  · rw [if_pos rfl, val_zero]
  · rw [if_neg (by omega), val_twice h]
theorem dbl_sum {ws : List Nat} (h : Tame ws ws.length) : ∀ k, k ≤ ws.length → sumF (ws.map dblM) k = dblS (sumF ws k) := by
  intro k
  induction k with
  | zero => intro _; rfl
  | succ k ih =>
    intro hk
    have ih := ih (by omega)
    rw [sum_succ, sum_succ, ih, dbl_map ws (by omega)]
    have hs := h.sum (k := k) (by omega)
    have hs2 := h.sum (k := k + 1) hk
    rw [sum_succ] at hs2
    have hsl : sumF ws k < 9218868437227405312 := by omega
    have hdl : dblS (sumF ws k) < 9218868437227405312 := by unfold dblS; split <;> omega
    rcases h.weight (j := k) (by omega) with hz | hw
    · rw [dbl_nil hz, add_nil hdl hz, add_nil hsl hz]
    · generalize ws.getD k 0 = b at *
      rw [dbl_tame (by omega) (by omega), add_num hdl (by omega), dbl_val (by omega), val_twice (by omega), ← Nat.mul_add]
      rw [add_num hsl (by omega)] at hs2 ⊢
      have hv := val_ge (a := b) (by omega)
      rw [rnd_twice (by omega) (by omega)]
      unfold dblS
      rw [if_neg]
      intro e
      have h1 := rnd_mono (V := valF b) (W := valF (sumF ws k) + valF b) (by omega)
      rw [rnd_val (a := b) (by omega)] at h1
      omega
theorem dbl_fair {ws : List Nat} (h : Tame ws ws.length) {j : Nat} (hj : j < ws.length) : fair ((ws.map dblM).getD j 0) ∧ posF ((ws.map dblM).getD j 0) = posF (ws.getD j 0) := by
  rw [dbl_map ws hj]
  rcases h.weight hj with hz | hw
  · rw [dbl_nil hz]; exact ⟨h.fair j hj, rfl⟩
  · rw [dbl_tame (by omega) (by omega)]
    have f1 : fair (ws.getD j 0 + 4503599627370496) := by unfold fair; omega
    refine ⟨f1, ?_⟩
    rw [(pos_iff f1).2 (by omega), (pos_iff (h.fair j hj)).2 (by omega)]
end Go.Proofs.Ytoibkgjnnneagab
