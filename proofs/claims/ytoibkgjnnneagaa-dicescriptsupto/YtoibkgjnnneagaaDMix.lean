/- Mix, Unmix, Steps, as the program makes them. -/
import Derived.Test.YtoibkgjnnneagaaDKit
namespace Go.Proofs.Ytoibkgjnnneagaa
open Go.RowKit

theorem sh_bits {x : Nat} (k D : Nat) (hD : 2 ^ k = D) (hx : x < 18446744073709551616) : bits .xor .u64 (x : Int) ((x : Int) / (D : Int)) = ((sh k x : Nat) : Int) := by
  subst hD
  have := u64_xor_nat x (x / 2 ^ k) hx (div_lt' k hx)
  unfold sh
  rw [← this]
  simp

theorem unsh_bits {x : Nat} (k D E : Nat) (hD : 2 ^ k = D) (hE : 2 ^ (2 * k) = E) (hx : x < 18446744073709551616) :
    bits .xor .u64 (x : Int) (bits .xor .u64 ((x : Int) / (D : Int)) ((x : Int) / (E : Int))) = ((unsh k x : Nat) : Int) := by
  subst hD; subst hE
  have h1 := u64_xor_nat (x / 2 ^ k) (x / 2 ^ (2 * k)) (div_lt' k hx) (div_lt' _ hx)
  have h2 := u64_xor_nat x (x / 2 ^ k ^^^ x / 2 ^ (2 * k)) hx (xor_lt (div_lt' _ hx) (div_lt' _ hx))
  unfold unsh
  rw [← h2, ← h1]
  simp

set_option maxRecDepth 100000 in
set_option maxHeartbeats 1000000 in
theorem mix_walk (w : World) (x x1 y y1 z r : Nat)
    (a1 : bits .xor .u64 (x : Int) ((x : Int) / 1073741824) = (x1 : Int)) (a2 : IntKind.u64.wrap ((x1 : Int) * 13787848793156543929) = (y : Int))
    (a3 : bits .xor .u64 (y : Int) ((y : Int) / 134217728) = (y1 : Int)) (a4 : IntKind.u64.wrap ((y1 : Int) * 10723151780598845931) = (z : Int))
    (a5 : bits .xor .u64 (z : Int) ((z : Int) / 2147483648) = (r : Int)) :
    Calls Try.prog 17 #[.int .u64 x] w fun e w' => e = .returned (.int .u64 (r : Nat)) ∧ w' = w := by
  go_enter Try.func17, Try.ntmps17
  go_wp2_with (simp only [a1, a2, a3, a4, a5])
  go_ret
  exact ⟨rfl, rfl⟩

theorem mixAt_any (w : World) (x : Nat) (hx : x < 18446744073709551616) :
    Calls Try.prog 17 #[.int .u64 x] w fun e w' => e = .returned (.int .u64 (mixN x : Nat)) ∧ w' = w :=
  mix_walk w x (sh 30 x) _ (sh 27 _) _ _ (sh_bits 30 1073741824 (by decide) hx) (wrap_mul (sh 30 x) 13787848793156543929)
    (sh_bits 27 134217728 (by decide) (mod_lt' _)) (wrap_mul (sh 27 _) 10723151780598845931) (sh_bits 31 2147483648 (by decide) (mod_lt' _))

set_option maxRecDepth 100000 in
set_option maxHeartbeats 1000000 in
theorem unmix_walk (w : World) (x x1 y y1 z r : Nat)
    (a1 : bits .xor .u64 (x : Int) (bits .xor .u64 ((x : Int) / 2147483648) ((x : Int) / 4611686018427387904)) = (x1 : Int)) (a2 : IntKind.u64.wrap ((x1 : Int) * 3573116690164977347) = (y : Int))
    (a3 : bits .xor .u64 (y : Int) (bits .xor .u64 ((y : Int) / 134217728) ((y : Int) / 18014398509481984)) = (y1 : Int)) (a4 : IntKind.u64.wrap ((y1 : Int) * 10871156337175269513) = (z : Int))
    (a5 : bits .xor .u64 (z : Int) (bits .xor .u64 ((z : Int) / 1073741824) ((z : Int) / 1152921504606846976)) = (r : Int)) :
    Calls Try.prog 18 #[.int .u64 x] w fun e w' => e = .returned (.int .u64 (r : Nat)) ∧ w' = w := by
  go_enter Try.func18, Try.ntmps18
  go_wp2_with (simp only [a1, a2, a3, a4, a5])
  go_ret
  exact ⟨rfl, rfl⟩

theorem unmixAt_any (w : World) (x : Nat) (hx : x < 18446744073709551616) :
    Calls Try.prog 18 #[.int .u64 x] w fun e w' => e = .returned (.int .u64 (unmixN x : Nat)) ∧ w' = w :=
  unmix_walk w x (unsh 31 x) _ (unsh 27 _) _ _ (unsh_bits 31 2147483648 4611686018427387904 (by decide) (by decide) hx) (wrap_mul (unsh 31 x) 3573116690164977347)
    (unsh_bits 27 134217728 18014398509481984 (by decide) (by decide) (mod_lt' _)) (wrap_mul (unsh 27 _) 10871156337175269513) (unsh_bits 30 1073741824 1152921504606846976 (by decide) (by decide) (mod_lt' _))

theorem wrap_sub {a b : Nat} (ha : a < 18446744073709551616) (hb : b < 18446744073709551616) : IntKind.u64.wrap ((b : Int) - (a : Int)) = (((b + 18446744073709551616 - a) % 18446744073709551616 : Nat) : Int) := by
  rw [IntKind.wrap_u64]; omega

set_option maxRecDepth 100000 in
theorem stepsAt_any (w : World) (a b : Nat) (ha : a < 18446744073709551616) (hb : b < 18446744073709551616) :
    Calls Try.prog 19 #[.int .u64 a, .int .u64 b] w fun e w' => e = .returned (.int .u64 (stepsN a b : Nat)) ∧ w' = w := by
  have h1 := wrap_sub ha hb
  unfold stepsN
  generalize (b + 18446744073709551616 - a) % 18446744073709551616 = y at *
  have h2 : IntKind.u64.wrap ((y : Int) * 17428512612931826493) = _ := wrap_mul y 17428512612931826493
  go_enter Try.func19, Try.ntmps19
  go_wp2_with (simp only [h1, h2])
  go_ret
  first | exact ⟨rfl, rfl⟩ | (refine ⟨?_, rfl⟩; rw [h1, h2]) | (refine ⟨?_, rfl⟩; simp only [h1, h2])
end Go.Proofs.Ytoibkgjnnneagaa
