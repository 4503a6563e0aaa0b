/- The document's Mix, Unmix, Steps. -/
import Derived.Test.YtoibkgjnnneagaaDMix
namespace Go.Proofs.Ytoibkgjnnneagaa
open Go.RowKit

set_option maxRecDepth 100000 in
set_option maxHeartbeats 1000000 in
theorem rmix_walk (w : World) (x x1 y y1 z r : Nat)
    (a1 : bits .xor .u64 (x : Int) ((x : Int) / 1073741824) = (x1 : Int)) (a2 : IntKind.u64.wrap ((x1 : Int) * 13787848793156543929) = (y : Int))
    (a3 : bits .xor .u64 (y : Int) ((y : Int) / 134217728) = (y1 : Int)) (a4 : IntKind.u64.wrap ((y1 : Int) * 10723151780598845931) = (z : Int))
    (a5 : bits .xor .u64 (z : Int) ((z : Int) / 2147483648) = (r : Int)) :
    Calls Try.prog 14 #[.int .u64 x] w fun e w' => e = .returned (.int .u64 (r : Nat)) ∧ w' = w := by
  go_enter Try.func14, Try.ntmps14
  go_wp2_with (simp only [a1, a2, a3, a4, a5])
  go_ret
  exact ⟨rfl, rfl⟩

theorem rmix_any (w : World) (x : Nat) (hx : x < 18446744073709551616) :
    Calls Try.prog 14 #[.int .u64 x] w fun e w' => e = .returned (.int .u64 (mixN x : Nat)) ∧ w' = w :=
  rmix_walk w x (sh 30 x) _ (sh 27 _) _ _ (sh_bits 30 1073741824 (by decide) hx) (wrap_mul (sh 30 x) 13787848793156543929)
    (sh_bits 27 134217728 (by decide) (mod_lt' _)) (wrap_mul (sh 27 _) 10723151780598845931) (sh_bits 31 2147483648 (by decide) (mod_lt' _))

/-- the bits of u from j on -/
def top (u j : Nat) : Nat := u / 2 ^ j * 2 ^ j
theorem top_zero (u : Nat) : top u 0 = u := by simp [top]
theorem top_all {u : Nat} (hu : u < 18446744073709551616) : top u 64 = 0 := by
  unfold top; rw [Nat.div_eq_of_lt (show u < 2 ^ 64 from hu), Nat.zero_mul]
theorem top_lt {u : Nat} (hu : u < 18446744073709551616) (j : Nat) : top u j < 18446744073709551616 := Nat.lt_of_le_of_lt (Nat.div_mul_le_self _ _) hu
theorem top_succ (u m : Nat) : top u (m + 1) ||| (u / 2 ^ m % 2) * 2 ^ m = top u m := by
  unfold top
  have hb : (u / 2 ^ m % 2) * 2 ^ m < 2 ^ (m + 1) := by
    rw [Nat.pow_succ, Nat.mul_comm]
    exact Nat.mul_lt_mul_of_pos_left (Nat.mod_lt _ (by omega)) (Nat.two_pow_pos m)
  rw [Nat.mul_comm (u / 2 ^ (m + 1)), ← Nat.two_pow_add_eq_or_of_lt hb, Nat.pow_succ, ← Nat.div_div_eq_div_mul, Nat.mul_assoc, ← Nat.mul_comm (2 ^ m), ← Nat.mul_add, Nat.mul_comm (2 ^ m)]
  congr 1
  omega
theorem div_top {u m k : Nat} (hk : 1 ≤ k) : top u (m + 1) / 2 ^ (m + k) = u / 2 ^ (m + k) := by
  unfold top
  obtain ⟨c, rfl⟩ : ∃ c, k = c + 1 := ⟨k - 1, by omega⟩
  rw [show m + (c + 1) = m + 1 + c by omega, Nat.pow_add 2 (m + 1) c, ← Nat.div_div_eq_div_mul, Nat.mul_div_cancel _ (Nat.two_pow_pos _), Nat.div_div_eq_div_mul]
theorem xor_mod_two (a b : Nat) : (a ^^^ b) % 2 = (a + b) % 2 := by
  have h := Nat.xor_mod_two_pow (a := a) (b := b) (n := 1)
  rw [Nat.pow_one] at h
  rw [h]
  rcases Nat.mod_two_eq_zero_or_one a with hp | hp <;> rcases Nat.mod_two_eq_zero_or_one b with hq | hq <;> rw [Nat.add_mod, hp, hq] <;> rfl
theorem sh_bit (u m k : Nat) : sh k u / 2 ^ m % 2 = (u / 2 ^ m + u / 2 ^ (m + k)) % 2 := by
  unfold sh
  rw [← Nat.shiftRight_eq_div_pow, Nat.shiftRight_xor_distrib, xor_mod_two, Nat.shiftRight_eq_div_pow, Nat.shiftRight_eq_div_pow, Nat.div_div_eq_div_mul, ← Nat.pow_add, Nat.add_comm k m]
theorem and_bit {a : Nat} (ha : a < 18446744073709551616) (m : Nat) : bits .and .u64 ((a : Int) / 2 ^ m) 1 = ((a / 2 ^ m % 2 : Nat) : Int) := by
  have := u64_and_nat (a / 2 ^ m) 1 (div_lt' m ha) (by omega)
  rw [Nat.and_one_is_mod] at this
  rw [← this]
  simp
theorem one_shl {b m : Nat} (hb : b ≤ 1) (hm : m < 64) : IntKind.u64.wrap ((b : Int) * 2 ^ m) = ((b * 2 ^ m : Nat) : Int) := by
  rw [IntKind.wrap_u64]
  have h1 : 2 ^ m ≤ 2 ^ 63 := Nat.pow_le_pow_right (by omega) (by omega)
  have h2 : b * 2 ^ m ≤ 1 * 2 ^ m := Nat.mul_le_mul_right _ hb
  have e : ((b : Int) * 2 ^ m) = ((b * 2 ^ m : Nat) : Int) := by simp
  rw [e]
  generalize b * 2 ^ m = c at *
  omega
theorem shl_lt {b m : Nat} (hb : b ≤ 1) (hm : m < 64) : b * 2 ^ m < 18446744073709551616 := by
  have h1 : 2 ^ m ≤ 2 ^ 63 := Nat.pow_le_pow_right (by omega) (by omega)
  have h2 : b * 2 ^ m ≤ 1 * 2 ^ m := Nat.mul_le_mul_right _ hb
  omega

theorem round_far {u y k m : Nat} (hu : u < 18446744073709551616) (hy : y < 18446744073709551616) (e : sh k u = y) (hk : 1 ≤ k) (hm : m < 64) :
    bits .or .u64 ((top u (m + 1) : Nat) : Int) (IntKind.u64.wrap (bits .xor .u64 (bits .and .u64 ((y : Int) / 2 ^ m) 1) (bits .and .u64 (((top u (m + 1) : Nat) : Int) / 2 ^ (m + k)) 1) * 2 ^ m)) = ((top u m : Nat) : Int) := by
  have h1 := sh_bit u m k
  rw [e] at h1
  rw [and_bit hy, and_bit (top_lt hu _), div_top hk, h1, u64_xor_nat _ _ (by omega) (by omega)]
  have e2 : (u / 2 ^ m + u / 2 ^ (m + k)) % 2 ^^^ u / 2 ^ (m + k) % 2 = u / 2 ^ m % 2 := by
    generalize u / 2 ^ m = p
    generalize u / 2 ^ (m + k) = q
    rcases Nat.mod_two_eq_zero_or_one p with hp | hp <;> rcases Nat.mod_two_eq_zero_or_one q with hq | hq <;> rw [Nat.add_mod, hp, hq] <;> rfl
  rw [e2, one_shl (by omega) hm, u64_or_nat _ _ (top_lt hu _) (shl_lt (by omega) hm), top_succ]

theorem round_near {u y k m : Nat} (hu : u < 18446744073709551616) (hy : y < 18446744073709551616) (e : sh k u = y) (hm : m < 64) (hk : 64 ≤ m + k) :
    bits .or .u64 ((top u (m + 1) : Nat) : Int) (IntKind.u64.wrap (bits .and .u64 ((y : Int) / 2 ^ m) 1 * 2 ^ m)) = ((top u m : Nat) : Int) := by
  have h1 := sh_bit u m k
  rw [e] at h1
  have h2 : u / 2 ^ (m + k) = 0 := Nat.div_eq_of_lt (Nat.lt_of_lt_of_le (show u < 2 ^ 64 from hu) (Nat.pow_le_pow_right (by omega) hk))
  rw [h2, Nat.add_zero] at h1
  rw [and_bit hy, h1, one_shl (by omega) hm, u64_or_nat _ _ (top_lt hu _) (shl_lt (by omega) hm), top_succ]

set_option maxRecDepth 100000 in
set_option maxHeartbeats 1000000 in
theorem unshift_any (w : World) (y k : Nat) (hy : y < 18446744073709551616) (hk : 22 ≤ k) (hk2 : k ≤ 31) :
    Calls Try.prog 43 #[.int .u64 y, .int .i64 k] w fun e w' => e = .returned (.int .u64 (unsh k y : Nat)) ∧ w' = w := by
  have hu := unsh_lt k hy
  have he := sh_unsh (k := k) hy (by omega)
  generalize unsh k y = u at *
  go_enter Try.func43, Try.ntmps43
  go_wp2_with fail
  go_loop [5, 6] (fun x i => ∃ j : Nat, j ≤ 64 ∧ i = .int .i64 ((j : Int) - 1) ∧ x = .int .u64 (top u j : Nat)) (fun _ i => (intOf i + 1).toNat)
  case atStart => exact ⟨64, by omega, rfl, by rw [top_all hu]; rfl⟩
  case round =>
    obtain ⟨j, hj, rfl, rfl⟩ := hrel
    cases j with
    | zero =>
      rw [top_zero]
      go_wp2
      go_ret
      exact ⟨rfl, rfl⟩
    | succ m =>
      have em : ((m + 1 : Nat) : Int) - 1 = (m : Int) := by omega
      rw [em]
      have R1 := fun h => hide (round_far (m := m) hu hy he (by omega) h)
      have R2 := fun h => hide (round_near (m := m) hu hy he (by omega) h)
      generalize hx : top u (m + 1) = x at *
      clear hu hy he hx
      go_wp2
      · exact ⟨⟨m, by omega, rfl, by rw [unhide (R1 (by omega))]⟩, by simp [intOf]⟩
      · exact ⟨⟨m, by omega, rfl, by rw [unhide (R2 (by omega))]⟩, by simp [intOf]⟩

/-- one bit more of what turns a factor about -/
def one0 (j : Nat) : Nat := if j = 0 then 1 else 0
def invS (a j x : Nat) : Nat := if a * x % 18446744073709551616 / 2 ^ j % 2 = one0 j then x else x ||| 2 ^ j
def invK (a : Nat) : Nat → Nat
  | 0 => 0
  | j + 1 => invS a j (invK a j)
theorem pow_lt' {j : Nat} (hj : j < 64) : 2 ^ j < 18446744073709551616 := Nat.pow_lt_pow_right (a := 2) (m := j) (n := 64) (by omega) hj
theorem invK_lt (a : Nat) : ∀ j, j ≤ 64 → invK a j < 18446744073709551616 := by
  intro j
  induction j with
  | zero => intro _; show 0 < _; omega
  | succ j ih =>
    intro hj
    show invS a j (invK a j) < _
    unfold invS
    split
    · exact ih (by omega)
    · exact Nat.or_lt_two_pow (n := 64) (ih (by omega)) (pow_lt' (by omega))
theorem pow_shl {j : Nat} (hj : j < 64) : IntKind.u64.wrap (1 * 2 ^ j) = ((2 ^ j : Nat) : Int) := by
  have := one_shl (b := 1) (m := j) (by omega) hj
  rw [Nat.one_mul] at this
  exact this
theorem inv_test {a x j : Nat} (one : Nat) : (bits .and .u64 (((a * x % 18446744073709551616 : Nat) : Int) / 2 ^ j) 1 == (one : Int)) = decide (a * x % 18446744073709551616 / 2 ^ j % 2 = one) := by
  rw [and_bit (mod_lt' _), bit_iff]

set_option maxRecDepth 100000 in
set_option maxHeartbeats 1000000 in
theorem inverse_any (w : World) (a : Nat) :
    Calls Try.prog 44 #[.int .u64 a] w fun e w' => e = .returned (.int .u64 (invK a 64 : Nat)) ∧ w' = w := by
  go_enter Try.func44, Try.ntmps44
  go_wp2_with fail
  go_loop [3, 4] (fun x i => ∃ j : Nat, j ≤ 64 ∧ i = .int .i64 (j : Int) ∧ x = .int .u64 (invK a j : Nat)) (fun _ i => (64 - intOf i).toNat)
  case atStart => exact ⟨0, by omega, rfl, rfl⟩
  case round =>
    obtain ⟨j, hj, rfl, rfl⟩ := hrel
    by_cases hlt : j < 64
    · have hs : invK a (j + 1) = invS a j (invK a j) := rfl
      have hl := invK_lt a j hj
      generalize invK a j = x at *
      have hw := wrap_mul a x
      unfold invS at hs
      have ht := inv_test (a := a) (x := x) (j := j)
      have hm := mod_lt' (a * x)
      generalize a * x % 18446744073709551616 = y at *
      have hp := pow_shl hlt
      have ho := u64_or_nat x (2 ^ j) hl (pow_lt' hlt)
      by_cases h0 : j = 0
      · subst h0
        have ht1 := hide (ht 1)
        have ho' := hide ho
        clear ht ho hp
        go_wp2_with (simp only [hw])
        · rename_i hb
          refine ⟨⟨1, by omega, rfl, ?_⟩, by simp [intOf]⟩
          have ht1 := unhide ht1
          have ho' := unhide ho'
          simp at ht1 hb ho'
          have hn : ¬ (y / 2 ^ 0 % 2 = one0 0) := by
            intro h
            have h' : y % 2 = 1 := by simpa [one0] using h
            rw [h'] at ht1; simp at ht1; exact hb ht1
          rw [show invK a 1 = _ from hs, if_neg hn, ho', Nat.pow_zero]
        · rename_i hb
          refine ⟨⟨1, by omega, rfl, ?_⟩, by simp [intOf]⟩
          have ht1 := unhide ht1
          simp at ht1 hb
          have hn : y / 2 ^ 0 % 2 = one0 0 := by
            rw [hb] at ht1; simp at ht1; simpa [one0] using ht1
          rw [show invK a 1 = _ from hs, if_pos hn]
      · have ht1 := hide (ht 0)
        have ho' := hide ho
        have e0 : one0 j = 0 := if_neg h0
        rw [e0] at hs
        clear ht ho e0
        have t0 : ((j : Int) == 0) = false := by simp; omega
        go_wp2_with (simp only [hw, hp])
        · rename_i hb
          refine ⟨⟨j + 1, by omega, by simp, ?_⟩, by simp [intOf]; omega⟩
          have ht1 := unhide ht1
          have ho' := unhide ho'
          simp at ht1 hb
          have hn : ¬ (y / 2 ^ j % 2 = 0) := by
            intro h
            rw [h] at ht1; simp at ht1; exact hb ht1
          rw [hs, if_neg hn]
          rw [Int.one_mul] at hp
          rw [hp, ho']
        · rename_i hb
          refine ⟨⟨j + 1, by omega, by simp, ?_⟩, by simp [intOf]; omega⟩
          have ht1 := unhide ht1
          simp at ht1 hb
          have hn : y / 2 ^ j % 2 = 0 := by
            rw [hb] at ht1; simp at ht1; exact ht1
          rw [hs, if_pos hn]
    · obtain rfl : j = 64 := by omega
      go_wp2
      go_ret
      exact ⟨rfl, rfl⟩

set_option maxRecDepth 100000 in
set_option maxHeartbeats 1000000 in
theorem runmix_walk (w : World) (x x1 y y1 z r : Nat) (i1 i2 : Nat)
    (H1 : ∀ w, Calls Try.prog 43 #[.int .u64 x, .int .i64 31] w fun e w' => e = .returned (.int .u64 (x1 : Nat)) ∧ w' = w)
    (H2 : ∀ w, Calls Try.prog 44 #[.int .u64 10723151780598845931] w fun e w' => e = .returned (.int .u64 (i1 : Nat)) ∧ w' = w)
    (a2 : IntKind.u64.wrap ((x1 : Int) * (i1 : Int)) = (y : Int))
    (H3 : ∀ w, Calls Try.prog 43 #[.int .u64 y, .int .i64 27] w fun e w' => e = .returned (.int .u64 (y1 : Nat)) ∧ w' = w)
    (H4 : ∀ w, Calls Try.prog 44 #[.int .u64 13787848793156543929] w fun e w' => e = .returned (.int .u64 (i2 : Nat)) ∧ w' = w)
    (a4 : IntKind.u64.wrap ((y1 : Int) * (i2 : Int)) = (z : Int))
    (H5 : ∀ w, Calls Try.prog 43 #[.int .u64 z, .int .i64 30] w fun e w' => e = .returned (.int .u64 (r : Nat)) ∧ w' = w) :
    Calls Try.prog 15 #[.int .u64 x] w fun e w' => e = .returned (.int .u64 (r : Nat)) ∧ w' = w := by
  replace H1 := hide H1
  replace H2 := hide H2
  replace H3 := hide H3
  replace H4 := hide H4
  replace H5 := hide H5
  go_enter Try.func15, Try.ntmps15
  go_wp2_with (first
    | (go_at_call 43; refine (unhide H1 _).mono ?_; rintro e w1 ⟨rfl, hq⟩; subst hq; clear H1)
    | (go_at_call 44; refine (unhide H2 _).mono ?_; rintro e w1 ⟨rfl, hq⟩; subst hq; clear H2)
    | (go_at_call 43; refine (unhide H3 _).mono ?_; rintro e w1 ⟨rfl, hq⟩; subst hq; clear H3)
    | (go_at_call 44; refine (unhide H4 _).mono ?_; rintro e w1 ⟨rfl, hq⟩; subst hq; clear H4)
    | (go_at_call 43; refine (unhide H5 _).mono ?_; rintro e w1 ⟨rfl, hq⟩; subst hq; clear H5)
    | (rw [a2]) | (rw [a4]))
  go_ret
  exact ⟨rfl, rfl⟩

theorem inv_second : invK 10723151780598845931 64 = 3573116690164977347 := by kernel_rfl
theorem inv_first : invK 13787848793156543929 64 = 10871156337175269513 := by kernel_rfl
theorem inv_stride : invK 11400714819323198485 64 = 17428512612931826493 := by kernel_rfl

theorem runmix_any (w : World) (x : Nat) (hx : x < 18446744073709551616) :
    Calls Try.prog 15 #[.int .u64 x] w fun e w' => e = .returned (.int .u64 (unmixN x : Nat)) ∧ w' = w :=
  runmix_walk w x (unsh 31 x) _ (unsh 27 _) _ _ 3573116690164977347 10871156337175269513 (fun w => unshift_any w x 31 hx (by omega) (by omega))
    (fun w => by have := inverse_any w 10723151780598845931; rw [inv_second] at this; exact this) (wrap_mul (unsh 31 x) 3573116690164977347)
    (fun w => unshift_any w _ 27 (mod_lt' _) (by omega) (by omega)) (fun w => by have := inverse_any w 13787848793156543929; rw [inv_first] at this; exact this)
    (wrap_mul (unsh 27 _) 10871156337175269513) (fun w => unshift_any w _ 30 (mod_lt' _) (by omega) (by omega))

set_option maxRecDepth 100000 in
theorem rsteps_walk (w : World) (a b y r i : Nat) (h1 : IntKind.u64.wrap ((b : Int) - (a : Int)) = (y : Int)) (h2 : IntKind.u64.wrap ((y : Int) * (i : Int)) = (r : Int))
    (H2 : ∀ w, Calls Try.prog 44 #[.int .u64 11400714819323198485] w fun e w' => e = .returned (.int .u64 (i : Nat)) ∧ w' = w) :
    Calls Try.prog 16 #[.int .u64 a, .int .u64 b] w fun e w' => e = .returned (.int .u64 (r : Nat)) ∧ w' = w := by
  replace H2 := hide H2
  go_enter Try.func16, Try.ntmps16
  go_wp2_with (first
    | (go_at_call 44; refine (unhide H2 _).mono ?_; rintro e w1 ⟨rfl, hq⟩; subst hq; clear H2)
    | (rw [h1]) | (rw [h2]))
  go_ret
  exact ⟨rfl, rfl⟩
theorem rsteps_any (w : World) (a b : Nat) (ha : a < 18446744073709551616) (hb : b < 18446744073709551616) :
    Calls Try.prog 16 #[.int .u64 a, .int .u64 b] w fun e w' => e = .returned (.int .u64 (stepsN a b : Nat)) ∧ w' = w :=
  rsteps_walk w a b _ _ 17428512612931826493 (wrap_sub ha hb) (wrap_mul _ 17428512612931826493) (fun w => by have := inverse_any w 11400714819323198485; rw [inv_stride] at this; exact this)

set_option maxRecDepth 100000 in
set_option maxHeartbeats 1000000 in
theorem mixes_walk (w : World) (x y : Nat) (hx : x < 18446744073709551616) (hy : y < 18446744073709551616) :
    Calls Try.prog 4 #[.int .u64 x, .int .u64 y] w fun e w' => e = .returned (.bool true) ∧ w' = w := by
  have H1 := hide (fun w => rmix_any w x hx)
  have H2 := hide (fun w => runmix_any w x hx)
  have H3 := hide (fun w => rsteps_any w x y hx hy)
  have H4 := hide (fun w => mixAt_any w x hx)
  have H5 := hide (fun w => unmixAt_any w x hx)
  have H6 := hide (fun w => stepsAt_any w x y hx hy)
  generalize mixN x = a at *
  generalize unmixN x = b at *
  generalize stepsN x y = c at *
  go_enter Try.func4, Try.ntmps4
  go_wp2_with (first
    | (go_at_call 14; refine (unhide H1 _).mono ?_; rintro e w1 ⟨rfl, hq⟩; subst hq; clear H1)
    | (go_at_call 15; refine (unhide H2 _).mono ?_; rintro e w1 ⟨rfl, hq⟩; subst hq; clear H2)
    | (go_at_call 16; refine (unhide H3 _).mono ?_; rintro e w1 ⟨rfl, hq⟩; subst hq; clear H3)
    | (go_at_call 17; refine (unhide H4 _).mono ?_; rintro e w1 ⟨rfl, hq⟩; subst hq; clear H4)
    | (go_at_call 18; refine (unhide H5 _).mono ?_; rintro e w1 ⟨rfl, hq⟩; subst hq; clear H5)
    | (go_at_call 19; refine (unhide H6 _).mono ?_; rintro e w1 ⟨rfl, hq⟩; subst hq; clear H6))
  all_goals first | (go_ret; exact ⟨rfl, rfl⟩) | skip
end Go.Proofs.Ytoibkgjnnneagaa
