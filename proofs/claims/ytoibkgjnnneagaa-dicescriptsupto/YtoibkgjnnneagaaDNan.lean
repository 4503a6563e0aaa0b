/- NaNs, and the tests of weights. -/
import Derived.Test.YtoibkgjnnneagaaDPick
namespace Go.Proofs.Ytoibkgjnnneagaa
open Go.RowKit

theorem nan_order {r : Nat} (h : ∃ n f, Ieee.double.read r = .nan n f) (b : Nat) : Ieee.double.order r b = none := by
  obtain ⟨n, f, h⟩ := h
  unfold Ieee.Format.order
  rw [h]; rfl
theorem nan_read (t : Nat) : ∃ n f, Ieee.double.read ((t % 2) * 2 ^ 63 + 0x7ff0000000000000 + 1 + (t / 2) % (2 ^ 52 - 1)) = .nan n f := by
  obtain ⟨u, hu⟩ : ∃ u, (t / 2) % (2 ^ 52 - 1) = u := ⟨_, rfl⟩
  have hu2 : u < 2 ^ 52 - 1 := by rw [← hu]; exact Nat.mod_lt _ (by decide)
  rw [hu]
  have e : (t % 2) * 2 ^ 63 + 0x7ff0000000000000 + 1 + u = (t % 2) * 9223372036854775808 + (9218868437227405312 + 1 + u) := by
    rw [show (2 : Nat) ^ 63 = 9223372036854775808 from rfl]; omega
  rw [e]
  have hm : ((t % 2) * 9223372036854775808 + (9218868437227405312 + 1 + u)) % 9223372036854775808 = 9218868437227405312 + 1 + u := by
    rw [show (2 : Nat) ^ 52 - 1 = 4503599627370495 from rfl] at hu2; omega
  unfold Ieee.Format.read
  have c1 : ¬ (9218868437227405312 + 1 + u < 4503599627370496) := by omega
  have c2 : ¬ (9218868437227405312 + 1 + u < 9218868437227405312) := by omega
  have c3 : ¬ (9218868437227405312 + 1 + u = 9218868437227405312) := by omega
  simp only [dS, dB, dI, dL, hm, c1, c2, c3, if_false]
  exact ⟨_, _, rfl⟩
theorem run_nan {P : Program} (t : TypeId) (w : World) : ∃ r, (binOp .sub t (.float .f64 9218868437227405312) (.float .f64 9218868437227405312)).run P w = .ok (.float .f64 r) w.drew ∧ ∃ n f, Ieee.double.read r = .nan n f := by
  refine ⟨_, ?_, nan_read (w.tape w.drawn (.nanBits .f64 9218868437227405312 9218868437227405312))⟩
  have hn : FloatKind.f64.format.sub 9218868437227405312 9218868437227405312 = none := by decide
  simp [binOp, Op.floatArith, hn, choose, Sem.run, Question.forced, Question.cut]

theorem sub_self {b : Nat} (h : b < 9218868437227405312 ∨ b = 9223372036854775808) : floatBits .sub .f64 b b = some 0 := by
  show Ieee.double.sub b b = some 0
  obtain ⟨n, m, e, hr, _, _⟩ := read_fair h
  unfold Ieee.Format.sub
  rw [hr]
  have ht : Ieee.signed n m (e - min e e).toNat + Ieee.signed (!n) m (e - min e e).toNat = 0 := by
    unfold Ieee.signed; cases n <;> simp <;> omega
  simp only [Ieee.Datum.sum, Ieee.Datum.opposite, Option.map_some, Ieee.Format.write, ht]
  cases n <;> simp [Ieee.Format.nearest, Ieee.Format.word]
theorem ge_fair {b : Nat} (h : fair b) : (FloatKind.f64.format.order b 0 == some .gt || FloatKind.f64.format.order b 0 == some .eq) = true := by
  show (Ieee.double.order b 0 == some .gt || Ieee.double.order b 0 == some .eq) = true
  rcases h with h | h
  · rw [order_num h (by omega)]
    by_cases h0 : b = 0
    · subst h0; decide
    · rw [Nat.compare_eq_gt.2 (by omega)]; rfl
  · subst h; decide
theorem neg_order {m : Nat} {e : Int} (hm : m ≠ 0) (he : -1074 ≤ e) : (Ieee.Datum.number true m e).order (.number false 0 (-1074)) = some .lt := by
  unfold Ieee.Datum.order
  simp only []
  congr 1
  rw [show min e (-1074) = -1074 by omega, Int.compare_eq_lt]
  unfold Ieee.signed
  simp only [Bool.false_eq_true, if_false, if_true]
  rw [Nat.zero_shiftLeft, Nat.shiftLeft_eq]
  have := Nat.mul_pos (Nat.pos_of_ne_zero hm) (Nat.two_pow_pos (e - -1074).toNat)
  generalize m * 2 ^ (e - -1074).toNat = A at *
  omega
theorem unfair_order {b : Nat} (h : ¬ fair b) (hb : b < 18446744073709551616) (hi : b ≠ 9218868437227405312) : Ieee.double.order b 0 = some .lt ∨ Ieee.double.order b 0 = none := by
  unfold fair at h
  by_cases h2 : b % 9223372036854775808 ≤ 9218868437227405312
  · left
    have h3 : b / 9223372036854775808 % 2 = 1 := by omega
    obtain ⟨r, hr⟩ : ∃ r, b % 9223372036854775808 = r := ⟨_, rfl⟩
    have hr0 : r ≠ 0 := by omega
    unfold Ieee.Format.order
    rw [read_zero]
    unfold Ieee.Format.read
    simp only [dS, dB, dI, dL, h3, hr]
    by_cases c1 : r < 4503599627370496
    · simp only [c1, if_true]; exact neg_order hr0 (by omega)
    · by_cases c2 : r < 9218868437227405312
      · simp only [c1, c2, if_false, if_true]; exact neg_order (by omega) (by omega)
      · have c3 : r = 9218868437227405312 := by omega
        simp only [c3, if_true]
        rfl
  · right
    have c1 : ¬ (b % 9223372036854775808 < 4503599627370496) := by omega
    have c2 : ¬ (b % 9223372036854775808 < 9218868437227405312) := by omega
    have c3 : ¬ (b % 9223372036854775808 = 9218868437227405312) := by omega
    refine nan_order ⟨b / 9223372036854775808 % 2 == 1, b % 9223372036854775808 - 9218868437227405312, ?_⟩ 0
    unfold Ieee.Format.read
    simp only [dS, dB, dI, dL, c1, c2, c3, if_false]
theorem ge_unfair {b : Nat} (h : ¬ fair b) (hb : b < 18446744073709551616) (hi : b ≠ 9218868437227405312) : (FloatKind.f64.format.order b 0 == some .gt || FloatKind.f64.format.order b 0 == some .eq) = false := by
  show (Ieee.double.order b 0 == some .gt || Ieee.double.order b 0 == some .eq) = false
  rcases unfair_order h hb hi with e | e <;> rw [e] <;> rfl
theorem ge_inf : (FloatKind.f64.format.order 9218868437227405312 0 == some .gt || FloatKind.f64.format.order 9218868437227405312 0 == some .eq) = true := by decide

theorem zero_ne : (FloatKind.f64.format.order 0 0 != some .eq) = false := by decide
theorem zero_eq : (FloatKind.f64.format.order 0 0 == some .eq) = true := by decide
theorem nan_ne {r : Nat} (h : ∃ n f, Ieee.double.read r = .nan n f) : (FloatKind.f64.format.order r 0 != some .eq) = true ∧ (FloatKind.f64.format.order r 0 == some .eq) = false := by
  have e : FloatKind.f64.format.order r 0 = none := nan_order h 0
  rw [e]; exact ⟨rfl, rfl⟩
theorem run_nans {P : Program} (t : TypeId) : ∃ R : World → Nat, (∀ w, (binOp .sub t (.float .f64 9218868437227405312) (.float .f64 9218868437227405312)).run P w = .ok (.float .f64 (R w)) w.drew) ∧ (∀ w, (FloatKind.f64.format.order (R w) 0 != some .eq) = true) ∧ ∀ w, (FloatKind.f64.format.order (R w) 0 == some .eq) = false :=
  ⟨fun w => Classical.choose (run_nan (P := P) t w), fun w => (Classical.choose_spec (run_nan (P := P) t w)).1, fun w => (nan_ne (Classical.choose_spec (run_nan (P := P) t w)).2).1, fun w => (nan_ne (Classical.choose_spec (run_nan (P := P) t w)).2).2⟩
theorem gt_fine {s : Nat} (hs : good s) : (FloatKind.f64.format.order s 0 == some .gt) = decide (0 < s) := by
  show (Ieee.double.order s 0 == some .gt) = _
  rw [order_good hs (by unfold good; omega)]
  by_cases h : 0 < s
  · rw [Nat.compare_eq_gt.2 h]; simp [h]
  · have : s = 0 := by omega
    subst this; decide
end Go.Proofs.Ytoibkgjnnneagaa
