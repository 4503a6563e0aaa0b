/- Bounds, sums and the rhythm's mirror, in plain words. -/
import Derived.Test.YthhgeobfolhpoaaVEq
import Derived.Test.YthhgeobfolhpoaaVSpr
namespace Go.Proofs.Ythhgeobfolhpoaa
open Go Ieee

theorem ge_good {x : Nat} (h : good x) : (FloatKind.f64.format.order x 0 == some Ordering.gt || FloatKind.f64.format.order x 0 == some Ordering.eq) = true := by
  rw [fmt, order_good h (show good 0 from Nat.zero_le _)]
  rcases Nat.eq_zero_or_pos x with rfl | h1
  · decide
  · rw [Nat.compare_eq_gt.2 h1]; rfl
theorem eq_good {x : Nat} (h : good x) : (FloatKind.f64.format.order x 0 == some Ordering.eq) = decide (x = 0) := by
  rw [fmt, order_good h (show good 0 from Nat.zero_le _)]
  rcases Nat.eq_zero_or_pos x with rfl | h1
  · decide
  · rw [Nat.compare_eq_gt.2 h1, decide_eq_false (by omega)]; rfl
theorem add_ge {a b : Nat} (ha : mid a) (hb : low b) : a ≤ addF a b ∧ b ≤ addF a b := by
  rw [add_num ha.lt hb.lt]
  refine ⟨?_, ?_⟩
  · have := rnd_mono (V := valF a) (W := valF a + valF b) (by omega)
    rwa [rnd_val ha.lt] at this
  · have := rnd_mono (V := valF b) (W := valF a + valF b) (by omega)
    rwa [rnd_val hb.lt] at this
theorem sum_nil {l : List Nat} (hl : ∀ j, low (l.getD j 0)) : ∀ k, sumF l k = 0 → ∀ j, j < k → l.getD j 0 = 0
  | 0, _, j, hj => by omega
  | k + 1, h, j, hj => by
    have hm : mid (sumF l k) := sum_mid fun j _ => hl j
    obtain ⟨h1, h2⟩ := add_ge hm (hl k)
    have h3 : addF (sumF l k) (l.getD k 0) = 0 := h
    by_cases e : j = k
    · subst e; omega
    · exact sum_nil hl k (by omega) j (by omega)
theorem div_nil {n : Nat} (h0 : 0 < n) (h1 : n ≤ 64) : divF 0 (floatOfInt .f64 (n : Int)) = 0 := by
  obtain ⟨h2, h3⟩ := nat_word n (by omega) h0
  generalize floatOfInt .f64 (n : Int) = y at *
  have : double.div 0 y = some 0 := by
    unfold Format.div
    rw [read_num h3, read_zero]
    simp only [Datum.quotient, mant_pos h2, if_false, Option.map_some, Format.write, Bool.xor_false, Nat.zero_shiftLeft, Nat.zero_div, Nat.zero_mod, Nat.mul_zero]
    rfl
  have h6 : floatBits .quo .f64 0 y = some 0 := this
  unfold divF; rw [h6]; rfl
theorem spr_nil {l : List Nat} : ∀ k, (∀ j, j < k → l.getD j 0 = 0) → sprS l 0 k = 0
  | 0, _ => rfl
  | k + 1, h => by
    show addF (sprS l 0 k) (mulF (subF (l.getD k 0) 0) (subF (l.getD k 0) 0)) = 0
    rw [spr_nil k (fun j hj => h j (by omega)), h k (by omega)]
    decide +kernel
theorem spread_nil {m : Mt} (h : m.ok) (hs : m.sum = 0) : m.spread = 0 := by
  have hz := sum_nil h.lo m.loads.length hs
  have hm : m.mean = 0 := by unfold Mt.mean; rw [hs]; exact div_nil h.l1 h.l2
  unfold Mt.spread
  rw [hm, spr_nil _ hz, div_nil h.l1 h.l2]
  decide +kernel

theorem sv_zero : sv 0 = 0 := by decide +kernel
theorem val_zero' : valF 0 = 0 := val_zero
theorem mul_zero' {x : Nat} (h : low x) : mulF x 0 = 0 := by
  rw [mul_num h.lt (by omega)]
  have : mant 0 = 0 := rfl
  rw [this, Nat.mul_zero]; rfl
theorem add_zero' : addS 0 0 = 0 := by decide +kernel
theorem wv_nil {f : Nat → Nat} {l : List Nat} (hl : ∀ j, low (l.getD j 0)) {k : Nat} : ∀ t, (∀ j, j < t → f (k * j % 8) = 0) → wv f l k t = 0
  | 0, _ => rfl
  | t + 1, h => by
    show addS (wv f l k t) (mulF (l.getD t 0) (f (k * t % 8))) = 0
    rw [wv_nil hl t (fun j hj => h j (by omega)), h t (by omega), mul_zero' (hl t)]
    exact add_zero'
theorem im_first : ∀ j, j < 8 → imW (0 * j % 8) = 0 := by decide
theorem im_fourth : ∀ j, j < 8 → imW (4 * j % 8) = 0 := by decide
theorem re_mirror : ∀ k, k < 8 → 0 < k → ∀ j, j < 8 → reW ((8 - k) * j % 8) = reW (k * j % 8) := by decide
theorem wv_same {f : Nat → Nat} {l : List Nat} {k k' : Nat} : ∀ t, (∀ j, j < t → f (k' * j % 8) = f (k * j % 8)) → wv f l k' t = wv f l k t
  | 0, _ => rfl
  | t + 1, h => by
    show addS (wv f l k' t) (mulF (l.getD t 0) (f (k' * t % 8))) = addS (wv f l k t) (mulF (l.getD t 0) (f (k * t % 8)))
    rw [wv_same t (fun j hj => h j (by omega)), h t (by omega)]
/-- opposite parts -/
def opp (y y' : Nat) : Prop := (y = 0 ∧ y' = 0) ∨ (y ≤ 4607182418800017408 ∧ y' = 9223372036854775808 + y) ∨ (y' ≤ 4607182418800017408 ∧ y = 9223372036854775808 + y')
instance (y y' : Nat) : Decidable (opp y y') := by unfold opp; infer_instance
theorem im_mirror : ∀ k, k < 8 → 0 < k → ∀ j, j < 8 → opp (imW (k * j % 8)) (imW ((8 - k) * j % 8)) := by decide
theorem sv_neg {z : Nat} (h : z < 9218868437227405312) : sv (9223372036854775808 + z) = - (valF z : Int) := by
  unfold sv ng mg
  rw [decide_eq_true (by omega), show (9223372036854775808 + z) % 9223372036854775808 = z by omega]; rfl
theorem mul_opp {x y y' : Nat} (hx : low x) (h : opp y y') : sv (mulF x y') = - sv (mulF x y) := by
  have key : ∀ z, z ≤ 4607182418800017408 → sv (mulF x (9223372036854775808 + z)) = - sv (mulF x z) := by
    intro z hz
    have h1 := mul_neg hx.lt (y := z) (by omega)
    have h2 := mul_le hx.lt hz
    have h3 := hx.lt
    have e : mulF x (9223372036854775808 + z) = 9223372036854775808 + mulF x z := by
      show (floatBits .mul .f64 x (9223372036854775808 + z)).getD 0 = _
      rw [h1]; rfl
    rw [e, sv_neg (by omega), sv_low (by omega)]
  rcases h with ⟨rfl, rfl⟩ | ⟨h1, rfl⟩ | ⟨h1, rfl⟩
  · rw [mul_zero' hx, sv_zero]; rfl
  · exact key y h1
  · rw [key y' h1, Int.neg_neg]
theorem wv_opp {f : Nat → Nat} (hf : ∀ n, part (f n)) {l : List Nat} (hl : ∀ j, low (l.getD j 0)) {k k' : Nat} : ∀ t, (∀ j, j < t → opp (f (k * j % 8)) (f (k' * j % 8))) → sv (wv f l k' t) = - sv (wv f l k t)
  | 0, _ => by show sv 0 = - sv 0; rw [sv_zero]; rfl
  | t + 1, h => by
    have ih := wv_opp hf hl t (fun j hj => h j (by omega))
    have hm := mul_opp (hl t) (h t (by omega))
    have a1 := (add_fin (wv_fin hf hl k t) (mul_part (hl t) (hf (k * t % 8))).2).2.2
    have a2 := (add_fin (wv_fin hf hl k' t) (mul_part (hl t) (hf (k' * t % 8))).2).2.2
    show sv (addS (wv f l k' t) (mulF (l.getD t 0) (f (k' * t % 8)))) = - sv (addS (wv f l k t) (mulF (l.getD t 0) (f (k * t % 8))))
    rw [a1, a2, ih, hm]
    generalize sv (wv f l k t) = A
    generalize sv (mulF (l.getD t 0) (f (k * t % 8))) = B
    have e : -A + -B = -(A + B) := by omega
    rw [e, Int.natAbs_neg]
    generalize A + B = T
    rcases Int.lt_trichotomy T 0 with c | c | c
    · rw [if_neg (by omega), if_pos c]; omega
    · subst c; simp [rnd_zero, val_zero]
    · rw [if_pos (by omega), if_neg (by omega)]
theorem wv_pos {l : List Nat} (hl : ∀ j, low (l.getD j 0)) : ∀ t, 0 ≤ sv (wv reW l 0 t)
  | 0 => by show 0 ≤ sv 0; rw [sv_zero]; exact Int.le_refl _
  | t + 1 => by
    have ih := wv_pos hl t
    have a1 := (add_fin (wv_fin re_part hl 0 t) (mul_part (hl t) (re_part (0 * t % 8))).2).2.2
    have hp : 0 ≤ sv (mulF (l.getD t 0) (reW (0 * t % 8))) := by
      have e : reW (0 * t % 8) = 4607182418800017408 := by rw [Nat.zero_mul]; rfl
      rw [e]
      have h2 := mul_le (hl t).lt (y := 4607182418800017408) (by omega)
      have h3 := (hl t).lt
      rw [sv_low (by omega)]; omega
    show 0 ≤ sv (addS (wv reW l 0 t) (mulF (l.getD t 0) (reW (0 * t % 8))))
    rw [a1, if_neg (by omega)]; omega
theorem ge_fin {a : Nat} (h : fin a) (h0 : 0 ≤ sv a) : (FloatKind.f64.format.order a 0 == some Ordering.gt || FloatKind.f64.format.order a 0 == some Ordering.eq) = true := by
  rw [fmt, order_fin h fin_zero, sv_zero]
  rcases Int.lt_or_le 0 (sv a) with c | c
  · rw [Int.compare_eq_gt.2 c]; rfl
  · have : sv a = 0 := by omega
    rw [this]; rfl
theorem ne_fin {a b : Nat} (ha : fin a) (hb : fin b) (h : sv a = sv b) : (FloatKind.f64.format.order a b != some Ordering.eq) = false := by
  rw [fmt, order_fin ha hb, h]; simp
theorem pow_or {z i : Nat} (h : z < 2 ^ i) : 2 ^ i + z = 2 ^ i ||| z := by
  have := Nat.two_pow_add_eq_or_of_lt h 1
  simpa using this
theorem neg_word {b : Nat} (h : fin b) : fin (Op.negFloat .f64 b) ∧ sv (Op.negFloat .f64 b) = - sv b := by
  have h1 := h.lt
  have h2 := h.low
  have e : Op.negFloat .f64 b = if 9223372036854775808 ≤ b then b - 9223372036854775808 else b + 9223372036854775808 := by
    show b ^^^ 9223372036854775808 = _
    split
    · next c =>
      obtain ⟨z, rfl⟩ : ∃ z, b = 9223372036854775808 + z := ⟨b - 9223372036854775808, by omega⟩
      have hz : z < 2 ^ 63 := by omega
      rw [Nat.add_sub_cancel_left, show (9223372036854775808 : Nat) = 2 ^ 63 from rfl, pow_or hz]
      apply Nat.eq_of_testBit_eq
      intro i
      rw [Nat.testBit_xor, Nat.testBit_or, Nat.testBit_two_pow]
      by_cases hi : 63 = i
      · subst hi; simp [Nat.testBit_lt_two_pow hz]
      · simp [hi]
    · next c =>
      have hz : b < 2 ^ 63 := by omega
      rw [Nat.add_comm, show (9223372036854775808 : Nat) = 2 ^ 63 from rfl, pow_or hz]
      apply Nat.eq_of_testBit_eq
      intro i
      rw [Nat.testBit_xor, Nat.testBit_or, Nat.testBit_two_pow]
      by_cases hi : 63 = i
      · subst hi; simp [Nat.testBit_lt_two_pow hz]
      · simp [hi]
  rw [e]
  unfold sv ng mg at *
  by_cases c : 9223372036854775808 ≤ b
  · rw [if_pos c]
    have hm : (b - 9223372036854775808) % 9223372036854775808 = b % 9223372036854775808 := by omega
    refine ⟨⟨by omega, by unfold mg; rw [hm]; exact h2⟩, ?_⟩
    rw [hm, decide_eq_false (by omega), decide_eq_true c]
    simp
  · rw [if_neg c]
    have hm : (b + 9223372036854775808) % 9223372036854775808 = b % 9223372036854775808 := by omega
    refine ⟨⟨by omega, by unfold mg; rw [hm]; exact h2⟩, ?_⟩
    rw [hm, decide_eq_true (by omega), decide_eq_false c]
    simp
end Go.Proofs.Ythhgeobfolhpoaa
