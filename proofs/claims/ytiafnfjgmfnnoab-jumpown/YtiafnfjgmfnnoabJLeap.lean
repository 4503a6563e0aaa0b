/- A jump, as the program makes it. -/
import Derived.Test.YtiafnfjgmfnnoabJKit
namespace Go.Proofs.Ytiafnfjgmfnnoab
open Go.RowKit

theorem nx_wrap (x : Nat) : IntKind.u64.wrap (((x * 2862933555777941757 % 18446744073709551616 : Nat) : Int) + 1) = ((nx x : Nat) : Int) := by
  rw [IntKind.wrap_u64]
  unfold nx
  omega

set_option maxRecDepth 100000 in
theorem next_any (w : World) (x : Nat) :
    Calls Try.prog 15 #[.int .u64 x] w fun e w' => e = .returned (.int .u64 (nx x : Nat)) ∧ w' = w := by
  have e1 := wrap_mul x 2862933555777941757
  have e2 := nx_wrap x
  generalize x * 2862933555777941757 % 18446744073709551616 = y at e1 e2
  have e3 : IntKind.u64.wrap ((x : Int) * 2862933555777941757) = (y : Int) := e1
  clear e1
  go_enter Try.func15, Try.ntmps15
  go_wp2
  go_ret
  refine ⟨?_, rfl⟩
  first | rfl | (rw [e3, e2]) | (simp only [e3, e2])

theorem of_int (n : Nat) : floatOfInt .f64 (n : Int) = Ieee.double.nearest false n 0 := by
  have h : decide ((n : Int) < 0) = false := by simp
  show Ieee.double.nearest (decide ((n : Int) < 0)) (n : Int).natAbs 0 = _
  rw [h]; rfl

theorem fmt64 : FloatKind.f64.format = Ieee.double := rfl
theorem lit31 : 4746794007248502784 = wd (2 ^ 52) (-21) := by decide
theorem quo_bits {d : Nat} (d1 : 1 ≤ d) (d2 : d ≤ 2 ^ 31) : floatBits .quo .f64 4746794007248502784 (floatOfInt .f64 (d : Int)) = some (wd (qm d) (-(pl d : Int))) := by
  unfold floatBits
  rw [of_int, lit31]
  simp only [fmt64]
  exact div_word d1 d2
theorem mul_bits {n m p : Nat} (h1 : 1 ≤ n) (h2 : n ≤ 2 ^ 20) (m1 : 2 ^ 52 ≤ m) (m2 : m < 2 ^ 53) (p1 : 21 ≤ p) (p2 : p ≤ 52) :
    floatBits .mul .f64 (floatOfInt .f64 (n : Int)) (wd m (-(p : Int))) = some (wd (rhd (n * m) (2 ^ ct n m)) ((ct n m : Int) - p)) := by
  unfold floatBits
  rw [of_int]
  simp only [fmt64]
  exact mul_word h1 h2 m1 m2 p1 p2
theorem dec64 (b : Nat) : FloatKind.f64.decode b = Ieee.double.read b := rfl
theorem int_bits {b r : Nat} (h : (Ieee.double.read b).toInt .zero = some (r : Int)) (hr : r ≤ 2 ^ 53) : floatToIntVal .f64 b .i64 = some (r : Int) := by
  unfold floatToIntVal
  rw [dec64, h]
  have m1 : IntKind.i64.min = -9223372036854775808 := rfl
  have m2 : IntKind.i64.max = 9223372036854775807 := rfl
  simp only [m1, m2]
  rw [if_pos]; omega

/-- the three numbers of a jump -/
theorem leap_bits (b x : Nat) (hb : b < 2 ^ 20) (hx : x < 2 ^ 64) : ∃ p2 p3, floatBits .quo .f64 4746794007248502784 (floatOfInt .f64 ((x / 2 ^ 33 + 1 : Nat) : Int)) = some p2 ∧ floatBits .mul .f64 (floatOfInt .f64 ((b + 1 : Nat) : Int)) p2 = some p3 ∧ floatToIntVal .f64 p3 .i64 = some (leapN b x : Int) := by
  have hle := leapN_le hb hx
  unfold leapN at hle ⊢
  obtain ⟨d1, d2⟩ := d_bounds hx
  generalize x / 2 ^ 33 + 1 = d at *
  exact ⟨_, _, quo_bits d1 d2, mul_bits (by omega) (by omega) (qm_bounds d1 d2).1 (qm_bounds d1 d2).2 (pl_bounds d1 d2).1 (pl_bounds d1 d2).2, int_bits (lp_int (by omega) (by omega) d1 d2) hle⟩

set_option maxRecDepth 100000 in
set_option maxHeartbeats 400000 in
theorem leap_walk (w : World) (b x D R p2 p3 : Nat) (hb : b < 1048576) (hx : x < 18446744073709551616) (hD : x / 8589934592 + 1 = D)
    (q1 : floatBits .quo .f64 4746794007248502784 (floatOfInt .f64 (D : Int)) = some p2) (q2 : floatBits .mul .f64 (floatOfInt .f64 ((b : Int) + 1)) p2 = some p3) (q3 : floatToIntVal .f64 p3 .i64 = some (R : Int)) :
    Calls Try.prog 16 #[.int .i64 b, .int .u64 x] w fun e w' => e = .returned (.int .i64 (R : Nat)) ∧ w' = w := by
  have eD : (x : Int) / 8589934592 + 1 = (D : Int) := by omega
  have h1 : ∀ t w, (binOp .quo t (.float .f64 4746794007248502784) (.float .f64 (floatOfInt .f64 (D : Int)))).run Try.prog w = .ok (.float .f64 p2) w := fun t w => run_float_arith w .quo t .f64 _ _ _ q1
  have h2 : ∀ t w, (binOp .mul t (.float .f64 (floatOfInt .f64 ((b : Int) + 1))) (.float .f64 p2)).run Try.prog w = .ok (.float .f64 p3) w := fun t w => run_float_arith w .mul t .f64 _ _ _ q2
  have h3 : ∀ w, (convert 49 3 (.float .f64 p3)).run Try.prog w = .ok (.int .i64 (R : Int)) w := fun w => run_convert_float_int w 49 3 .f64 .i64 p3 R (by rw [Try.underlying49]; rfl) Try.underlying3 q3
  have hw1 : IntKind.u64.wrap ((x : Int) / 8589934592 + 1) = (D : Int) := by rw [IntKind.wrap_u64, eD]; omega
  clear q1 q2 q3 hD
  go_enter Try.func16, Try.ntmps16
  go_wp2_with (simp only [h1, h2, h3, hw1, eD])
  go_ret
  exact ⟨rfl, rfl⟩

theorem leap_any (w : World) (b x : Nat) (hb : b < 1048576) (hx : x < 18446744073709551616) :
    Calls Try.prog 16 #[.int .i64 b, .int .u64 x] w fun e w' => e = .returned (.int .i64 (leapN b x : Nat)) ∧ w' = w := by
  obtain ⟨p2, p3, q1, q2, q3⟩ := leap_bits b x hb hx
  have e : ((b + 1 : Nat) : Int) = (b : Int) + 1 := by omega
  rw [e] at q2
  exact leap_walk w b x (x / 2 ^ 33 + 1) (leapN b x) p2 p3 hb hx rfl q1 q2 q3

set_option maxRecDepth 100000 in
theorem onward_any (w : World) (b x : Nat) (hb : b < 1048576) :
    Calls Try.prog 10 #[.int .u64 x, .int .i64 b] w fun e w' => e = .returned (.tuple #[.int .u64 (nx x : Nat), .int .i64 (leapN b (nx x) : Nat)]) ∧ w' = w := by
  have H1 := hide (next_any w x)
  have H2 := hide (leap_any w b (nx x) hb (nx_lt x))
  generalize leapN b (nx x) = R at *
  generalize nx x = y at *
  go_enter Try.func10, Try.ntmps10
  go_wp2_with (first
    | (go_at_call 15; refine (unhide H1).mono ?_; rintro e w1 ⟨rfl, hq⟩; have hq' := hq.symm; subst hq')
    | (go_at_call 16; refine (unhide H2).mono ?_; rintro e w1 ⟨rfl, hq⟩; have hq' := hq.symm; subst hq'))
  refine bodyPost_ret (v := .tuple #[.int .u64 (y : Int), .int .i64 (R : Int)]) (by simp [results, Try.results10]) rfl ?_
  exact ⟨rfl, rfl⟩
end Go.Proofs.Ytiafnfjgmfnnoab
