/- A load divided by two is a load halved; the document's halved. -/
import Derived.Test.YthhgeobfolhpoaaVSpr
namespace Go.Proofs.Ythhgeobfolhpoaa
open Go Ieee Go.RowKit

theorem rungc_more (m c a : Nat) : rungc (m * 2 ^ a) (c + a) = rungc m c := by
  by_cases h0 : m = 0
  · subst h0; rw [Nat.zero_mul]; unfold rungc rhd; simp
  · unfold rungc
    rw [log2_mul_pow h0, show m.log2 + a - (c + a) - 52 = m.log2 - c - 52 by omega, show m.log2 - c - 52 + (c + a) = (m.log2 - c - 52 + c) + a by omega, Nat.pow_add, Nat.mul_comm m, Nat.mul_comm (2 ^ (m.log2 - c - 52 + c)), rhd_scale _ _ _ (Nat.two_pow_pos a)]
theorem near_scale (m a : Nat) (p : Int) : double.nearest false (m * 2 ^ a) (p - a) = double.nearest false m p := by
  by_cases h0 : m = 0
  · subst h0; rw [Nat.zero_mul]; unfold Format.nearest; simp
  · have h1 : m * 2 ^ a ≠ 0 := Nat.mul_ne_zero h0 (by have := Nat.two_pow_pos a; omega)
    by_cases hp : -1074 ≤ p
    · obtain ⟨j, rfl⟩ : ∃ j : Nat, p = (j : Int) - 1074 := ⟨(p + 1074).toNat, by omega⟩
      rw [near_rnd]
      by_cases hq : a ≤ j
      · rw [show (j : Int) - 1074 - (a : Int) = ((j - a : Nat) : Int) - 1074 by omega, near_rnd, Nat.mul_assoc, ← Nat.pow_add, show a + (j - a) = j by omega]
      · have h2 : m * 2 ^ j ≠ 0 := Nat.mul_ne_zero h0 (by have := Nat.two_pow_pos j; omega)
        rw [show (j : Int) - 1074 - (a : Int) = -1074 - ((a - j : Nat) : Int) by omega, near_formc h1, rnd_eq h2, ← rungc_scale _ (a - j), Nat.mul_assoc, ← Nat.pow_add, show j + (a - j) = a by omega]
    · obtain ⟨c, rfl⟩ : ∃ c : Nat, p = -1074 - (c : Int) := ⟨(-1074 - p).toNat, by omega⟩
      rw [show -1074 - (c : Int) - (a : Int) = -1074 - ((c + a : Nat) : Int) by omega, near_formc h1, near_formc h0, rungc_more]
theorem half_eq {x : Nat} (h : low x) : floatBits .quo .f64 x 4611686018427387904 = some (hlf x) := by
  show double.div x 4611686018427387904 = _
  have hr : double.read 4611686018427387904 = .number false 4503599627370496 (-51) := by decide
  unfold Format.div hlf
  rw [read_num h.lt, hr, mul_num h.lt (by omega)]
  have hm : mant 4602678819172646912 = 2 ^ 52 := by decide
  have he : expo 4602678819172646912 = 1021 := by decide
  rw [hm, he, dF]
  have h0 : ¬ (4503599627370496 = 0) := by omega
  simp only [Datum.quotient, h0, if_false, Option.map_some, Format.write, Bool.xor_false]
  congr 1
  have hl52 : (4503599627370496 : Nat).log2 = 52 := by decide +kernel
  rw [hl52]
  have hlt : mant x < 2 ^ 53 := by unfold mant; split <;> omega
  generalize mant x = m at *
  generalize (-1074 + (expo x : Int)) = i at *
  by_cases hm0 : m = 0
  · subst hm0
    unfold Format.nearest
    simp
  · have hlg : m.log2 < 53 := (Nat.log2_lt hm0).2 hlt
    obtain ⟨d, hd⟩ : ∃ d, 52 + 2 + 52 - m.log2 = d + 52 := ⟨54 - m.log2, by omega⟩
    rw [hd]
    have e1 : m <<< (d + 52) = (m * 2 ^ d) * 4503599627370496 := by rw [Nat.shiftLeft_eq, Nat.pow_add, ← Nat.mul_assoc]
    rw [e1, Nat.mul_div_cancel _ (by omega), Nat.mul_mod_left]
    have e2 : 2 * (m * 2 ^ d) + ((0 : Nat) != 0).toNat = m * 2 ^ (d + 1) := by
      have e3 : ((0 : Nat) != 0).toNat = 0 := rfl
      rw [e3, Nat.add_zero, Nat.pow_succ, Nat.mul_comm 2, Nat.mul_assoc]
    rw [e2, show i - -51 - ((d + 52 : Nat) : Int) - 1 = (i - 1) - ((d + 1 : Nat) : Int) by omega, near_scale, show i + (-1074 + ((1021 : Nat) : Int)) = (i - 1) - ((52 : Nat) : Int) by omega, near_scale]
set_option maxRecDepth 100000 in
theorem rhalved_any (w : World) {x : Nat} (hx : low x) (k : Nat) (hk : k ≤ 1099511627776) : Calls Try.prog 49 #[.float .f64 x, .int .i64 (k : Int)] w fun e w' => e = .returned (.float .f64 (hlfN x k)) ∧ w' = w := by
  go_enter Try.func49, Try.ntmps49
  go_wp2_with fail
  go_loop [0, 1] (fun v i => ∃ y j : Nat, j ≤ k ∧ v = .float .f64 y ∧ i = .int .i64 (j : Int) ∧ low y ∧ hlfN y j = hlfN x k) (fun _ i => (intOf i).toNat)
  case atStart => exact ⟨x, k, by omega, rfl, rfl, hx, rfl⟩
  case round =>
    obtain ⟨y, j, hj, rfl, rfl, hy, he⟩ := hrel
    have hp := pos_low hy
    by_cases hj0 : 0 < j
    · have t1 : ((0 : Int) < (j : Int)) = True := by simp; exact hj0
      by_cases hy0 : 0 < y
      · rw [decide_eq_true hy0] at hp
        have hm := half_eq hy
        have hlow := (hlf_eq hy).2
        obtain ⟨j', rfl⟩ : ∃ j', j = j' + 1 := ⟨j - 1, by omega⟩
        have HE := hide (show hlfN (hlf y) j' = hlfN x k from he)
        have HL := hide hlow
        generalize hlf y = z at *
        have hrun : ∀ t w, (binOp .quo t (.float .f64 y) (.float .f64 4611686018427387904)).run Try.prog w = .ok (.float .f64 z) w := fun t w => run_float_arith w .quo t .f64 _ _ _ hm
        clear hm he hlow hy hx
        go_wp2_with fail
        exact ⟨⟨z, j', by omega, rfl, by simp, unhide HL, unhide HE⟩, by simp [intOf]⟩
      · rw [decide_eq_false hy0] at hp
        rw [hlfN_stop hy0] at he
        have HE := hide he
        clear hx hy hy0 he
        go_wp2_with fail
        go_ret
        exact ⟨by rw [← unhide HE]; rfl, rfl⟩
    · obtain rfl : j = 0 := by omega
      have HE := hide he
      clear hp hx hy he
      go_wp2_with fail
      go_ret
      exact ⟨by rw [← unhide HE]; rfl, rfl⟩
end Go.Proofs.Ythhgeobfolhpoaa
