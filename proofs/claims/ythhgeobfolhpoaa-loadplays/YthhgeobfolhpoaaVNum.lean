/- Products by what is at most one; sums that stay within a bound. -/
import Derived.Test.YthhgeobfolhpoaaVFlt
namespace Go.Proofs.Ythhgeobfolhpoaa
open Go Ieee

def rungc (V c : Nat) : Nat := (V.log2 - c - 52) * 4503599627370496 + rhd V (2 ^ (V.log2 - c - 52 + c))
theorem rungc_zero (V : Nat) : rungc V 0 = rung V := by unfold rungc rung; simp
theorem rhd_none {V k : Nat} (h : V.log2 + 2 ≤ k) : rhd V (2 ^ k) = 0 := by
  have hlt := Nat.lt_log2_self (n := V)
  have h1 : 2 ^ (V.log2 + 1) * 2 ≤ 2 ^ k := by rw [← Nat.pow_succ]; exact Nat.pow_le_pow_right (by omega) (by omega)
  have h2 : V < 2 ^ k := by omega
  unfold rhd
  rw [Nat.div_eq_of_lt h2, Nat.mod_eq_of_lt h2, if_neg (by omega)]
theorem cut_far {n k : Nat} (h : n.log2 + 2 < k) : Toward.even.cut false n k = 0 := by
  have e : Toward.even.cut false n k = Toward.even.cut false n (n.log2 + 2) := by
    unfold Toward.cut
    simp only [Nat.min_eq_right (Nat.le_of_lt h), Nat.min_self]
  rw [e, cut_even _ _ _ (Nat.le_refl _), rhd_none (Nat.le_refl _)]
theorem cut_any (n k : Nat) : Toward.even.cut false n k = rhd n (2 ^ k) := by
  by_cases h : k ≤ n.log2 + 2
  · exact cut_even _ _ _ h
  · rw [cut_far (by omega), rhd_none (by omega)]
theorem near_formc {mag : Nat} (h0 : mag ≠ 0) (c : Nat) : double.nearest false mag (-1074 - (c : Int)) = min (rungc mag c) 9218868437227405312 := by
  unfold Format.nearest rungc
  simp only [h0, if_false, dF, dL]
  have e1 : max (-1074 - (c : Int) + (mag.log2 : Int) - ((52 : Nat) : Int)) (-1074) = ((mag.log2 - c - 52 : Nat) : Int) - 1074 := by omega
  rw [e1]
  generalize hD : mag.log2 - c - 52 = D
  have e2 : (-1074 - (c : Int) - ((D : Int) - 1074)).toNat = 0 := by omega
  have e3 : ((D : Int) - 1074 - (-1074 - (c : Int))).toNat = D + c := by omega
  have e4 : ((D : Int) - 1074 - -1074).toNat = D := by omega
  rw [e2, e3, e4, Nat.shiftLeft_zero, cut_any]
  unfold Format.word
  simp only [Bool.false_eq_true, if_false, dB, dI]
theorem rungc_small {V c : Nat} (h : V < 2 ^ (53 + c)) : rungc V c = rhd V (2 ^ c) := by
  unfold rungc
  have : V.log2 - c - 52 = 0 := by
    by_cases h0 : V = 0
    · subst h0; simp
    · have := (Nat.log2_lt (k := 53 + c) h0).2 h; omega
  rw [this, Nat.zero_mul, Nat.zero_add, Nat.zero_add]
theorem rungc_bounds {V c : Nat} (h : 2 ^ (52 + c) ≤ V) : (V.log2 - c - 52) * 4503599627370496 + 4503599627370496 ≤ rungc V c ∧ rungc V c ≤ (V.log2 - c - 52) * 4503599627370496 + 9007199254740992 := by
  have hp := Nat.two_pow_pos (52 + c)
  have h0 : V ≠ 0 := by omega
  have hle := Nat.log2_self_le h0
  have hlt := Nat.lt_log2_self (n := V)
  have hL : 52 + c ≤ V.log2 := (Nat.le_log2 h0).2 h
  obtain ⟨D, hD⟩ : ∃ D, V.log2 = D + c + 52 := ⟨V.log2 - c - 52, by omega⟩
  unfold rungc
  rw [hD, show D + c + 52 - c - 52 = D by omega]
  rw [hD] at hle hlt
  have h1 : 4503599627370496 ≤ V / 2 ^ (D + c) := by
    rw [Nat.le_div_iff_mul_le (Nat.two_pow_pos _), ← pow52, ← Nat.pow_add, Nat.add_comm]; exact hle
  have h2 : V / 2 ^ (D + c) < 9007199254740992 := by
    rw [Nat.div_lt_iff_lt_mul (Nat.two_pow_pos _), show (9007199254740992 : Nat) = 2 ^ 53 from rfl, ← Nat.pow_add, show 53 + (D + c) = D + c + 52 + 1 by omega]; exact hlt
  have h3 := rhd_ge V (2 ^ (D + c))
  have h4 := rhd_le V (2 ^ (D + c))
  omega
theorem rungc_mono {V W : Nat} (c : Nat) (h : V ≤ W) : rungc V c ≤ rungc W c := by
  by_cases h1 : W < 2 ^ (53 + c)
  · rw [rungc_small h1, rungc_small (by omega)]; exact rhd_mono _ h
  · have e53 : 2 ^ (53 + c) = 2 * 2 ^ (52 + c) := by rw [show 53 + c = (52 + c) + 1 by omega, Nat.pow_succ, Nat.mul_comm]
    have hW := rungc_bounds (V := W) (c := c) (by omega)
    have hl : V.log2 ≤ W.log2 := by
      by_cases h0 : V = 0
      · subst h0; exact Nat.zero_le _
      · exact (Nat.le_log2 (by omega)).2 (Nat.le_trans (Nat.log2_self_le h0) h)
    have hWl : 53 + c ≤ W.log2 := (Nat.le_log2 (by have := Nat.two_pow_pos (53 + c); omega)).2 (by omega)
    by_cases h2 : V < 2 ^ (52 + c)
    · rw [rungc_small (by omega)]
      have h3 := rhd_le V (2 ^ c)
      have h4 : V / 2 ^ c < 4503599627370496 := by
        rw [Nat.div_lt_iff_lt_mul (Nat.two_pow_pos _), ← pow52, ← Nat.pow_add]; exact h2
      omega
    · have hV := rungc_bounds (V := V) (c := c) (by omega)
      by_cases e : V.log2 - c - 52 = W.log2 - c - 52
      · unfold rungc; rw [e]; have := rhd_mono (2 ^ (W.log2 - c - 52 + c)) h; omega
      · have : V.log2 - c - 52 + 1 ≤ W.log2 - c - 52 := by omega
        omega
theorem rungc_scale (U c : Nat) : rungc (U * 2 ^ c) c = rung U := by
  by_cases h0 : U = 0
  · subst h0; rw [Nat.zero_mul]; unfold rungc rung rhd; simp
  · unfold rungc rung
    rw [log2_mul_pow h0, Nat.add_sub_cancel, Nat.pow_add, Nat.mul_comm U, Nat.mul_comm (2 ^ (U.log2 - 52)), rhd_scale _ _ _ (Nat.two_pow_pos c)]

theorem mul_num {x y : Nat} (hx : x < 9218868437227405312) (hy : y < 9218868437227405312) : mulF x y = double.nearest false (mant x * mant y) (-1074 + (expo x : Int) + (-1074 + (expo y : Int))) := by
  have : floatBits .mul .f64 x y = some (double.nearest false (mant x * mant y) (-1074 + (expo x : Int) + (-1074 + (expo y : Int)))) := by
    show double.mul x y = _
    unfold Format.mul
    rw [read_num hx, read_num hy]
    simp only [Datum.product, Option.map_some, Format.write, Bool.xor_false]
  unfold mulF; rw [this]; rfl
theorem val_one {E : Nat} (h : E = 1074) : valF 4607182418800017408 = 2 ^ E := by subst h; decide +kernel
/-- a product by what is at most one is no greater -/
theorem mul_leE {x y E : Nat} (hE : E = 1074) (hx : x < 9218868437227405312) (hy : y ≤ 4607182418800017408) : mulF x y ≤ x := by
  have hm0 := mul_num hx (y := y) (by omega)
  have hv := val_le hy
  rw [val_one hE] at hv
  rw [hm0]
  have hr := rnd_val hx
  clear hm0
  unfold valF at hv hr
  by_cases h0 : mant x * mant y = 0
  · rw [h0]; unfold Format.nearest; simp only [if_true, Format.word, Bool.false_eq_true, if_false]; exact Nat.zero_le _
  · have hx0 : mant x ≠ 0 := fun e => h0 (by rw [e, Nat.zero_mul])
    by_cases hj : E ≤ expo x + expo y
    · rw [show (-1074 + (expo x : Int) + (-1074 + (expo y : Int))) = ((expo x + expo y - E : Nat) : Int) - 1074 by omega, near_rnd]
      refine Nat.le_trans (rnd_mono ?_) (Nat.le_of_eq hr)
      have h1 : mant x * mant y * 2 ^ (expo x + expo y - E) * 2 ^ E ≤ mant x * 2 ^ expo x * 2 ^ E := by
        rw [Nat.mul_assoc, ← Nat.pow_add, show expo x + expo y - E + E = expo x + expo y by omega, Nat.pow_add, Nat.mul_assoc, Nat.mul_assoc, Nat.mul_left_comm (mant y)]
        exact Nat.mul_le_mul_left _ (Nat.mul_le_mul_left _ hv)
      exact Nat.le_of_mul_le_mul_right h1 (Nat.two_pow_pos E)
    · rw [show (-1074 + (expo x : Int) + (-1074 + (expo y : Int))) = -1074 - ((E - expo x - expo y : Nat) : Int) by omega, near_formc h0]
      have hv0 : mant x * 2 ^ expo x ≠ 0 := Nat.mul_ne_zero hx0 (by have := Nat.two_pow_pos (expo x); omega)
      rw [rnd_eq hv0, ← rungc_scale _ (E - expo x - expo y)] at hr
      have hm := rungc_mono (V := mant x * mant y) (W := mant x * 2 ^ expo x * 2 ^ (E - expo x - expo y)) (E - expo x - expo y) (by
        rw [Nat.mul_assoc, ← Nat.pow_add, show expo x + (E - expo x - expo y) = E - expo y by omega]
        refine Nat.mul_le_mul_left _ ?_
        have h1 : mant y * 2 ^ expo y ≤ 2 ^ (E - expo y) * 2 ^ expo y := by rw [← Nat.pow_add, show E - expo y + expo y = E by omega]; exact hv
        exact Nat.le_of_mul_le_mul_right h1 (Nat.two_pow_pos _))
      exact Nat.le_trans (Nat.le_min.2 ⟨Nat.le_trans (Nat.min_le_left _ _) hm, Nat.min_le_right _ _⟩) (Nat.le_of_eq hr)

theorem mul_le {x y : Nat} (hx : x < 9218868437227405312) (hy : y ≤ 4607182418800017408) : mulF x y ≤ x := mul_leE rfl hx hy
theorem add_num {a b : Nat} (ha : a < 9218868437227405312) (hb : b < 9218868437227405312) : addF a b = rnd (valF a + valF b) := by
  unfold addF
  show (double.add a b).getD 0 = _
  unfold Format.add
  rw [read_num ha, read_num hb]
  simp only [Datum.sum, Option.map_some, Option.getD_some, Format.write]
  obtain ⟨mn, hmn⟩ : ∃ mn : Nat, min (expo a) (expo b) = mn := ⟨_, rfl⟩
  have e1 : min (-1074 + (expo a : Int)) (-1074 + (expo b : Int)) = (mn : Int) - 1074 := by omega
  have e2 : (-1074 + (expo a : Int) - ((mn : Int) - 1074)).toNat = expo a - mn := by omega
  have e3 : (-1074 + (expo b : Int) - ((mn : Int) - 1074)).toNat = expo b - mn := by omega
  rw [e1, e2, e3]
  unfold signed
  simp only [Bool.false_eq_true, if_false]
  have e4 : (((mant a <<< (expo a - mn) : Nat) : Int) + ((mant b <<< (expo b - mn) : Nat) : Int)) = ((mant a <<< (expo a - mn) + mant b <<< (expo b - mn) : Nat) : Int) := by omega
  rw [e4]
  have e5 : (if ((mant a <<< (expo a - mn) + mant b <<< (expo b - mn) : Nat) : Int) = 0 then (false && false) else decide (((mant a <<< (expo a - mn) + mant b <<< (expo b - mn) : Nat) : Int) < 0)) = false := by
    split
    · rfl
    · exact decide_eq_false (by exact Int.not_lt.2 (Int.natCast_nonneg _))
  rw [e5, Int.natAbs_natCast, near_rnd]
  congr 1
  unfold valF
  rw [Nat.add_mul, Nat.shiftLeft_eq, Nat.shiftLeft_eq, Nat.mul_assoc, Nat.mul_assoc, ← Nat.pow_add, ← Nat.pow_add, show expo a - mn + mn = expo a by omega, show expo b - mn + mn = expo b by omega]
theorem add_nil {a b : Nat} (ha : a < 9218868437227405312) (hb : b = 0 ∨ b = 9223372036854775808) : addF a b = a := by
  rcases hb with rfl | rfl
  · rw [add_num ha (by omega), val_zero, Nat.add_zero, rnd_val ha]
  · unfold addF
    show (double.add a _).getD 0 = _
    unfold Format.add
    rw [read_num ha, read_other]
    simp only [Datum.sum, Option.map_some, Option.getD_some, Format.write]
    have e1 : min (-1074 + (expo a : Int)) (-1074) = ((0 : Nat) : Int) - 1074 := by omega
    have e2 : (-1074 + (expo a : Int) - (((0 : Nat) : Int) - 1074)).toNat = expo a := by omega
    rw [e1, e2]
    unfold signed
    simp only [Bool.false_eq_true, if_false, if_true]
    rw [Nat.zero_shiftLeft]
    have e4 : (((mant a <<< expo a : Nat) : Int) + -((0 : Nat) : Int)) = ((mant a <<< expo a : Nat) : Int) := by omega
    rw [e4]
    have e5 : (if ((mant a <<< expo a : Nat) : Int) = 0 then (false && true) else decide (((mant a <<< expo a : Nat) : Int) < 0)) = false := by
      split
      · rfl
      · exact decide_eq_false (by exact Int.not_lt.2 (Int.natCast_nonneg _))
    rw [e5, Int.natAbs_natCast, near_rnd, Nat.pow_zero, Nat.mul_one, Nat.shiftLeft_eq]
    exact rnd_val ha
/-- sums stay below what they cannot move -/
theorem sat40 : rnd (valF 5057542381537067008 + valF 4787326403894837248) = 5057542381537067008 := by decide +kernel
theorem sat100 : rnd (valF 5327758359179296768 + valF 5057542381537067008) = 5327758359179296768 := by decide +kernel
/-- may a weight be -/
def wok (b : Nat) : Prop := b ≤ 4787326403894837248 ∨ b = 9223372036854775808
instance (b : Nat) : Decidable (wok b) := by unfold wok; infer_instance
theorem wok.fair {b : Nat} (h : wok b) : fair b := by unfold wok at h; unfold Proofs.Ythhgeobfolhpoaa.fair; omega
/-- a load -/
def low (a : Nat) : Prop := a ≤ 5057542381537067008
theorem low.lt {a : Nat} (h : low a) : a < 9218868437227405312 := by unfold low at h; omega
theorem low.good {a : Nat} (h : low a) : good a := by unfold low at h; unfold Proofs.Ythhgeobfolhpoaa.good; omega
theorem low.fair {a : Nat} (h : low a) : fair a := by unfold low at h; unfold Proofs.Ythhgeobfolhpoaa.fair; omega
theorem add_low {a w : Nat} (ha : low a) (hw : wok w) : low (addF a w) := by
  have hl := ha.lt
  unfold low at ha ⊢
  rcases hw with h | h
  · rw [add_num hl (by omega), ← sat40]
    exact rnd_mono (Nat.add_le_add (val_le ha) (val_le h))
  · rw [add_nil hl (Or.inr h)]; exact ha
/-- a sum of loads -/
def mid (a : Nat) : Prop := a ≤ 5327758359179296768
theorem mid.lt {a : Nat} (h : mid a) : a < 9218868437227405312 := by unfold mid at h; omega
theorem mid.good {a : Nat} (h : mid a) : good a := by unfold mid at h; unfold Proofs.Ythhgeobfolhpoaa.good; omega
theorem low.mid {a : Nat} (h : low a) : mid a := by unfold low at h; unfold Proofs.Ythhgeobfolhpoaa.mid; omega
theorem add_mid {a b : Nat} (ha : mid a) (hb : low b) : mid (addF a b) := by
  have h1 := ha.lt
  have h2 := hb.lt
  unfold mid at ha ⊢; unfold low at hb
  rw [add_num h1 h2, ← sat100]
  exact rnd_mono (Nat.add_le_add (val_le ha) (val_le hb))
theorem sum_mid {ws : List Nat} {k : Nat} (h : ∀ j, j < k → low (ws.getD j 0)) : mid (sumF ws k) := by
  induction k with
  | zero => exact Nat.zero_le _
  | succ k ih => exact add_mid (ih fun j hj => h j (by omega)) (h k (by omega))
/-- halved -/
def hlf (x : Nat) : Nat := mulF x 4602678819172646912
def hlfN (x : Nat) : Nat → Nat
  | 0 => x
  | k + 1 => hlfN (hlf x) k
theorem hlf_eq {x : Nat} (h : low x) : floatBits .mul .f64 x 4602678819172646912 = some (hlf x) ∧ low (hlf x) := by
  have h1 := mul_eq h.lt (s := 4602678819172646912) (by omega)
  refine ⟨h1.1, ?_⟩
  have h2 := mul_le h.lt (y := 4602678819172646912) (by omega)
  unfold low at h ⊢; unfold hlf; omega
theorem hlf_zero : hlf 0 = 0 := by decide +kernel
theorem hlfN_zero : ∀ k, hlfN 0 k = 0
  | 0 => rfl
  | k + 1 => by show hlfN (hlf 0) k = 0; rw [hlf_zero]; exact hlfN_zero k
theorem hlfN_low {x : Nat} (k : Nat) (h : low x) : low (hlfN x k) := by
  induction k generalizing x with
  | zero => exact h
  | succ k ih => exact ih (hlf_eq h).2
theorem hlfN_add (x a b : Nat) : hlfN (hlfN x a) b = hlfN x (a + b) := by
  induction a generalizing x with
  | zero => rw [Nat.zero_add]; rfl
  | succ a ih => rw [show a + 1 + b = (a + b) + 1 by omega]; exact ih (hlf x)
theorem pos_low {x : Nat} (h : low x) : (FloatKind.f64.format.order x 0 == some Ordering.gt) = decide (0 < x) := by
  rw [fmt, order_num h.lt (by omega)]
  by_cases h0 : 0 < x
  · rw [Nat.compare_eq_gt.2 h0]; simp [h0]
  · have : x = 0 := by omega
    subst this; decide
end Go.Proofs.Ythhgeobfolhpoaa
