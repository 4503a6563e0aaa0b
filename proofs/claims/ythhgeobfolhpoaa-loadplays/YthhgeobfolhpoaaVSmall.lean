/- The meter's short calls: weighs, age, all, halved. -/
import Derived.Test.YthhgeobfolhpoaaVMem
import Derived.BigRegion
namespace Go.Proofs.Ythhgeobfolhpoaa
open Go.RowKit

theorem ge_wok {b : Nat} (h : wok b) : (FloatKind.f64.format.order b 0 == some Ordering.gt || FloatKind.f64.format.order b 0 == some Ordering.eq) = true ∧ (FloatKind.f64.format.order b 4787326403894837248 == some Ordering.lt || FloatKind.f64.format.order b 4787326403894837248 == some Ordering.eq) = true := by
  rw [fmt]
  rcases h with h | h
  · rw [order_num (by omega) (by omega), order_num (by omega) (by omega)]
    constructor
    · rcases Nat.eq_zero_or_pos b with rfl | h1
      · decide
      · rw [Nat.compare_eq_gt.2 h1]; rfl
    · rcases Nat.lt_or_eq_of_le h with h1 | rfl
      · rw [Nat.compare_eq_lt.2 h1]; rfl
      · decide
  · subst h; decide
theorem order_odd {b : Nat} (h1 : 9218868437227405312 < b) (h2 : b ≠ 9223372036854775808) (hb : b < 18446744073709551616) : Ieee.double.order b 0 = some .lt ∨ Ieee.double.order b 0 = none := by
  by_cases h : b % 9223372036854775808 ≤ 9218868437227405312
  · left
    have h3 : b / 9223372036854775808 % 2 = 1 := by omega
    obtain ⟨r, hr⟩ : ∃ r, b % 9223372036854775808 = r := ⟨_, rfl⟩
    have hr0 : r ≠ 0 := by omega
    have hz : ∀ (m : Nat) (e : Int), m ≠ 0 → -1074 ≤ e → (Ieee.Datum.number true m e).order (.number false 0 (-1074)) = some .lt := by
      intro m e hm he
      unfold Ieee.Datum.order
      simp only []
      congr 1
      rw [show min e (-1074) = -1074 by omega, Int.compare_eq_lt]
      unfold Ieee.signed
      simp only [Bool.false_eq_true, if_false, if_true]
      rw [Nat.zero_shiftLeft, Nat.shiftLeft_eq]
      have := Nat.mul_pos (Nat.pos_of_ne_zero hm) (Nat.two_pow_pos (e - -1074).toNat)
      generalize m * 2 ^ (e - -1074).toNat = A at *
      omega
    unfold Ieee.Format.order
    rw [read_zero]
    unfold Ieee.Format.read
    simp only [dS, dB, dI, dL, h3, hr]
    by_cases c1 : r < 4503599627370496
    · simp only [c1, if_true]; exact hz _ _ hr0 (by omega)
    · by_cases c2 : r < 9218868437227405312
      · simp only [c1, c2, if_false, if_true]; exact hz _ _ (by omega) (by omega)
      · have c3 : r = 9218868437227405312 := by omega
        simp only [c3, if_true]
        rfl
  · right
    have c1 : ¬ (b % 9223372036854775808 < 4503599627370496) := by omega
    have c2 : ¬ (b % 9223372036854775808 < 9218868437227405312) := by omega
    have c3 : ¬ (b % 9223372036854775808 = 9218868437227405312) := by omega
    have : Ieee.double.read b = .nan (b / 9223372036854775808 % 2 == 1) (b % 9223372036854775808 - 9218868437227405312) := by
      unfold Ieee.Format.read
      simp only [dS, dB, dI, dL, c1, c2, c3, if_false]
    unfold Ieee.Format.order
    rw [this]
    rfl
theorem ge_unwok {b : Nat} (h : ¬ wok b) (hb : b < 18446744073709551616) : (FloatKind.f64.format.order b 0 == some Ordering.gt || FloatKind.f64.format.order b 0 == some Ordering.eq) = false ∨ ((FloatKind.f64.format.order b 0 == some Ordering.gt || FloatKind.f64.format.order b 0 == some Ordering.eq) = true ∧ (FloatKind.f64.format.order b 4787326403894837248 == some Ordering.lt || FloatKind.f64.format.order b 4787326403894837248 == some Ordering.eq) = false ∧ (FloatKind.f64.format.order b 4787326403894837248 == some Ordering.gt) = true) := by
  rw [fmt]
  unfold wok at h
  by_cases h1 : b ≤ 9218868437227405312
  · right
    have hg : good b := h1
    rw [order_good hg (by unfold good; omega), order_good hg (by unfold good; omega), Nat.compare_eq_gt.2 (by omega), Nat.compare_eq_gt.2 (by omega)]
    exact ⟨rfl, rfl, rfl⟩
  · left
    rcases order_odd (by omega) (by omega) hb with h2 | h2 <;> (rw [h2]; rfl)

set_option maxRecDepth 100000 in
theorem weighs_any (w : World) {b : Nat} (hb : b < 18446744073709551616) : Calls Try.prog 48 #[.float .f64 b] w fun e w' => e = .returned (.bool (decide (wok b))) ∧ w' = w := by
  by_cases h : wok b
  · obtain ⟨t1, t2⟩ := ge_wok h
    rw [decide_eq_true h]
    clear h
    go_enter Try.func48, Try.ntmps48
    go_wp2
    go_ret
    exact ⟨rfl, rfl⟩
  · rw [decide_eq_false h]
    rcases ge_unwok h hb with t1 | ⟨t1, t2, -⟩
    · clear h
      go_enter Try.func48, Try.ntmps48
      go_wp2
      go_ret
      exact ⟨rfl, rfl⟩
    · clear h
      go_enter Try.func48, Try.ntmps48
      go_wp2
      go_ret
      exact ⟨rfl, rfl⟩

set_option maxRecDepth 100000 in
theorem age_any {w : World} {b g : Nat} {m : Mt} (h : Mp w b g m) (t : Nat) (ht : t ≤ 1099511627776) : Calls Try.prog 42 #[.pointer (some ⟨b, 0, none⟩), .int .i64 (t : Int)] w fun e w' => e = .returned (.int .i64 ((t / m.half : Nat) : Int)) ∧ w' = w := by
  obtain ⟨c0, -, -⟩ := h.cells
  have h1 := h.ok.h1
  have h2 := h.ok.h2
  clear h
  generalize m.half = hf at *
  have hx : max (hf : Int) 1 = (hf : Int) := by omega
  have h0 : ((hf : Int) = 0) = False := by simp; omega
  have hle : t / hf ≤ t := Nat.div_le_self _ _
  have HW : Hid (wrap64 ((t : Int) / (hf : Int)) = ((t / hf : Nat) : Int)) := by
    unfold Hid
    rw [← Int.natCast_ediv]
    generalize t / hf = q at *
    unfold wrap64
    omega
  clear hle
  go_enter Try.func42, Try.ntmps42
  go_wp2
  go_ret
  exact ⟨by rw [← unhide HW]; rfl, rfl⟩

set_option maxRecDepth 100000 in
theorem all_any {w : World} {b g : Nat} {m : Mt} (h : Mp w b g m) : Calls Try.prog 40 #[.pointer (some ⟨b, 0, none⟩)] w fun e w' => e = .returned (.slice (some ⟨g, 0, none⟩) m.loads.length m.loads.length) ∧ w' = w := by
  obtain ⟨-, -, c2⟩ := h.cells
  clear h
  go_enter Try.func40, Try.ntmps40
  go_wp2
  go_ret
  exact ⟨rfl, rfl⟩
set_option maxRecDepth 100000 in
theorem nall (w : World) : Calls Try.prog 40 #[.pointer none] w fun e w' => e = .returned (.slice none 0 0) ∧ w' = w := by
  go_enter Try.func40, Try.ntmps40
  go_wp2
  go_ret
  exact ⟨rfl, rfl⟩

theorem hlfN_stop {x k : Nat} (h : ¬ 0 < x) : hlfN x k = x := by
  have : x = 0 := by omega
  subst this; exact hlfN_zero k
set_option maxRecDepth 100000 in
theorem halved_any (w : World) {x : Nat} (hx : low x) (k : Nat) (hk : k ≤ 1099511627776) : Calls Try.prog 52 #[.float .f64 x, .int .i64 (k : Int)] w fun e w' => e = .returned (.float .f64 (hlfN x k)) ∧ w' = w := by
  go_enter Try.func52, Try.ntmps52
  go_wp2_with fail
  go_loop [0, 1] (fun v i => ∃ y j : Nat, j ≤ k ∧ v = .float .f64 y ∧ i = .int .i64 (j : Int) ∧ low y ∧ hlfN y j = hlfN x k) (fun _ i => (intOf i).toNat)
  case atStart => exact ⟨x, k, by omega, rfl, rfl, hx, rfl⟩
  case round =>
    obtain ⟨y, j, hj, rfl, rfl, hy, he⟩ := hrel
    have hp := pos_low hy
    by_cases hj0 : 0 < j
    · have t1 : ((0 : Int) < (j : Int)) = True := by simp; exact hj0
      by_cases hy0 : 0 < y
      · rw [decide_eq_true hy0] at hp
        obtain ⟨hm, hlow⟩ := hlf_eq hy
        obtain ⟨j', rfl⟩ : ∃ j', j = j' + 1 := ⟨j - 1, by omega⟩
        have HE := hide (show hlfN (hlf y) j' = hlfN x k from he)
        have HL := hide hlow
        generalize hlf y = z at *
        have hrun : ∀ t w, (binOp .mul t (.float .f64 y) (.float .f64 4602678819172646912)).run Try.prog w = .ok (.float .f64 z) w := fun t w => run_float_arith w .mul t .f64 _ _ _ hm
        clear hm he hlow hy hx
        go_wp2_with fail
        exact ⟨⟨z, j', by omega, rfl, by simp, unhide HL, unhide HE⟩, by simp [intOf]⟩
      · rw [decide_eq_false hy0] at hp
        rw [hlfN_stop hy0] at he
        have HE := hide he
        clear hx hy hy0 he
        go_wp2_with fail
        go_ret
        exact ⟨by rw [← unhide HE]; rfl, rfl⟩
    · obtain rfl : j = 0 := by omega
      have HE := hide he
      clear hp hx hy he
      go_wp2_with fail
      go_ret
      exact ⟨by rw [← unhide HE]; rfl, rfl⟩
end Go.Proofs.Ythhgeobfolhpoaa
