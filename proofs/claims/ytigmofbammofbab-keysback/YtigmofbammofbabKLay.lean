/- The places of numbers; bytes that are laid behind others. -/
import Derived.Test.YtigmofbammofbabKFault
import Derived.Laws.BitsAllLaws
namespace Go.Proofs.Ytigmofbammofbab
open Go.RowKit

theorem xor_top {m : Nat} (h : m < 9223372036854775808) : m ^^^ 9223372036854775808 = m + 9223372036854775808 := by
  have e : (9223372036854775808 : Nat) = 2 ^ 63 := by decide
  rw [e] at *
  apply Nat.eq_of_testBit_eq
  intro i
  rw [Nat.testBit_xor, Nat.testBit_two_pow, Nat.add_comm]
  by_cases h1 : i = 63
  · subst h1
    rw [Nat.testBit_two_pow_add_eq]; simp
  · by_cases h2 : i < 63
    · rw [Nat.testBit_two_pow_add_gt h2]; simp [Ne.symm h1]
    · have h3 : 2 ^ 63 + m < 2 ^ i := by
        have : 2 ^ 64 ≤ 2 ^ i := Nat.pow_le_pow_right (by omega) (by omega)
        omega
      have h4 : m < 2 ^ i := by omega
      rw [Nat.testBit_lt_two_pow h3, Nat.testBit_lt_two_pow h4]; simp; omega
theorem xor_top2 {m : Nat} (h : 9223372036854775808 ≤ m) (h2 : m < 18446744073709551616) : m ^^^ 9223372036854775808 = m - 9223372036854775808 := by
  obtain ⟨x, rfl⟩ : ∃ x, m = x + 9223372036854775808 := ⟨m - 9223372036854775808, by omega⟩
  rw [← xor_top (show x < 9223372036854775808 by omega), Nat.xor_assoc, Nat.xor_self, Nat.xor_zero, xor_top (by omega)]; omega
theorem and_top {m : Nat} (h : m < 9223372036854775808) : m &&& 9223372036854775808 = 0 := by
  have e : (9223372036854775808 : Nat) = 2 ^ 63 := by decide
  rw [e] at *
  apply Nat.eq_of_testBit_eq
  intro i
  rw [Nat.testBit_and, Nat.testBit_two_pow, Nat.zero_testBit]
  by_cases h1 : 63 = i
  · subst h1; rw [Nat.testBit_lt_two_pow h]; rfl
  · simp [h1]
theorem and_top2 {m : Nat} (h : 9223372036854775808 ≤ m) (h2 : m < 18446744073709551616) : m &&& 9223372036854775808 = 9223372036854775808 := by
  obtain ⟨x, rfl⟩ : ∃ x, m = x + 9223372036854775808 := ⟨m - 9223372036854775808, by omega⟩
  have e : (9223372036854775808 : Nat) = 2 ^ 63 := by decide
  have hx : x < 2 ^ 63 := by omega
  rw [e] at *
  apply Nat.eq_of_testBit_eq
  intro i
  rw [Nat.testBit_and, Nat.testBit_two_pow, Nat.add_comm]
  by_cases h1 : 63 = i
  · subst h1; rw [Nat.testBit_two_pow_add_eq, Nat.testBit_lt_two_pow hx]; simp
  · simp [h1]
theorem xor_all {n : Nat} (h : n < 18446744073709551616) : 18446744073709551615 ^^^ n = 18446744073709551615 - n := by
  have e : (18446744073709551615 : Nat) = 2 ^ 64 - 1 := by decide
  have h' : n < 2 ^ 64 := by omega
  have e2 : 2 ^ 64 - 1 - n = 2 ^ 64 - (n + 1) := by omega
  rw [e, e2]
  apply Nat.eq_of_testBit_eq
  intro i
  rw [Nat.testBit_xor, Nat.testBit_two_pow_sub_one, Nat.testBit_two_pow_sub_succ h']
  by_cases h1 : i < 64
  · simp [h1]
  · have h3 : n < 2 ^ i := Nat.lt_of_lt_of_le h' (Nat.pow_le_pow_right (by omega) (by omega))
    rw [Nat.testBit_lt_two_pow h3]; simp [h1]
theorem ret_int {k : IntKind} {x y : Int} (h : x = y) : Ending.returned (.int k x) = .returned (.int k y) := by rw [h]

set_option maxRecDepth 100000 in
set_option maxHeartbeats 400000 in
theorem pbool_any (b : Bool) (w : World) : Calls Try.prog 39 #[.bool b] w fun e w' => e = .returned (.int .u8 (bitOf b : Nat)) ∧ w' = w := by
  cases b
  · go_enter Try.func39, Try.ntmps39
    go_wp2
    go_ret
    exact ⟨rfl, rfl⟩
  · go_enter Try.func39, Try.ntmps39
    go_wp2
    go_ret
    exact ⟨rfl, rfl⟩

set_option maxRecDepth 100000 in
set_option maxHeartbeats 400000 in
theorem pint_any (n : Int) (h1 : -9223372036854775808 ≤ n) (h2 : n ≤ 9223372036854775807) (w : World) : Calls Try.prog 41 #[.int .i64 n] w fun e w' => e = .returned (.int .u64 (placeI n : Nat)) ∧ w' = w := by
  have e1 : IntKind.u64.wrap n = (((n % 18446744073709551616).toNat : Nat) : Int) := by rw [IntKind.wrap_u64]; omega
  have e2 : bits .xor .u64 (((n % 18446744073709551616).toNat : Nat) : Int) 9223372036854775808 = (((n % 18446744073709551616).toNat ^^^ 9223372036854775808 : Nat) : Int) := u64_xor_nat (n % 18446744073709551616).toNat 9223372036854775808 (by omega) (by omega)
  have e3 : (n % 18446744073709551616).toNat ^^^ 9223372036854775808 = placeI n := by
    unfold placeI
    by_cases h : 0 ≤ n
    · rw [xor_top (by omega)]; omega
    · rw [xor_top2 (by omega) (by omega)]; omega
  rw [e3] at e2
  generalize (n % 18446744073709551616).toNat = m at *
  generalize placeI n = q at *
  go_enter Try.func41, Try.ntmps41
  go_wp2
  go_ret
  exact ⟨ret_int (by first | rfl | exact e2 | omega), rfl⟩

set_option maxRecDepth 100000 in
set_option maxHeartbeats 400000 in
theorem isnan_any (n : Nat) (c : Bool) (hc : nanB n = c) (w : World) :
    Calls Try.prog 56 #[.float .f64 n] w fun e w' => e = .returned (.bool c) ∧ w = w' := by
  unfold nanB at hc
  go_enter Try.func56, Try.ntmps56
  go_wp2
  go_ret
  exact ⟨rfl, rfl⟩

set_option maxRecDepth 100000 in
set_option maxHeartbeats 400000 in
theorem preal_any (n : Nat) (hn : n < 18446744073709551616) (w : World) : Calls Try.prog 42 #[.float .f64 n] w fun e w' => e = .returned (.int .u64 (placeR n : Nat)) ∧ w' = w := by
  have hkb := kb
  by_cases hc : nanB n = true
  · have HP : Hid (placeR n = 18444492273895866368) := by unfold Hid placeR canon; rw [if_pos hc]; decide
    have HN := hide (isnan_any n true hc)
    go_enter Try.func42, Try.ntmps42
    go_wp2_with (first | (go_at_call 56; refine (unhide HN _).mono ?_; rintro e w' ⟨rfl, hq⟩; subst hq))
    go_ret
    exact ⟨by rw [unhide HP]; rfl, rfl⟩
  · have hc' : nanB n = false := by simpa using hc
    have HN := hide (isnan_any n false hc')
    have HP : Hid (placeR n = turnN n) := by unfold Hid placeR canon; rw [if_neg hc]
    by_cases ht : n < 9223372036854775808
    · have e1 : bits .and .u64 (n : Int) 9223372036854775808 = 0 := by
        have h := u64_and_nat n 9223372036854775808 hn (by omega)
        rw [and_top ht] at h; exact h
      have e2 : bits .xor .u64 (n : Int) 9223372036854775808 = ((n + 9223372036854775808 : Nat) : Int) := by
        have h := u64_xor_nat n 9223372036854775808 hn (by omega)
        rw [xor_top ht] at h; exact h
      have HT : Hid (turnN n = n + 9223372036854775808) := by unfold Hid turnN top; rw [if_pos ht]
      clear hc hc'
      go_enter Try.func42, Try.ntmps42
      go_wp2_with (first | (go_at_call 56; refine (unhide HN _).mono ?_; rintro e w' ⟨rfl, hq⟩; subst hq))
      go_ret
      exact ⟨by rw [unhide HP, unhide HT]; exact ret_int rfl, rfl⟩
    · have e1 : bits .and .u64 (n : Int) 9223372036854775808 = 9223372036854775808 := by
        have h := u64_and_nat n 9223372036854775808 hn (by omega)
        rw [and_top2 (by omega) hn] at h; exact h
      have e2 : bits .xor .u64 IntKind.u64.max (n : Int) = ((18446744073709551615 - n : Nat) : Int) := by
        have h := u64_xor_nat 18446744073709551615 n (by omega) hn
        rw [xor_all hn] at h; exact h
      have HT : Hid (turnN n = 18446744073709551615 - n) := by unfold Hid turnN top; rw [if_neg (by omega)]
      clear hc hc'
      go_enter Try.func42, Try.ntmps42
      go_wp2_with (first | (go_at_call 56; refine (unhide HN _).mono ?_; rintro e w' ⟨rfl, hq⟩; subst hq))
      go_ret
      exact ⟨by rw [unhide HP, unhide HT]; exact ret_int rfl, rfl⟩
end Go.Proofs.Ytigmofbammofbab
