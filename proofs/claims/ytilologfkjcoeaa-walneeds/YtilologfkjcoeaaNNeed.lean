/- Need, on both sides. -/
import Derived.Test.YtilologfkjcoeaaDKit
namespace Go.Proofs.Ytilologfkjcoeaa
open Go.RowKit
set_option maxRecDepth 100000 in
theorem need_any (w : World) (n : Int) (h1 : -9223372036854775808 ≤ n) (h2 : n ≤ 9223372036854775807) :
    Calls Try.prog 4 #[.int .i64 n] w fun e w' => e = .returned (.int .i64 (if n ≤ 57 then 1 else 1 + (n - 1) / 57)) ∧ w' = w := by
  by_cases h : n ≤ 57
  · have t1 : (n ≤ 57) = True := by simp [h]
    rw [if_pos h]
    go_enter Try.func4, Try.ntmps4
    go_wp2
    go_ret
    exact ⟨rfl, rfl⟩
  · have t1 : (n ≤ 57) = False := by simp [h]
    rw [if_neg h]
    go_enter Try.func4, Try.ntmps4
    go_wp2
    go_ret
    exact ⟨rfl, rfl⟩
set_option maxRecDepth 100000 in
theorem rneed_any (w : World) (n : Int) (h1 : -9223372036854775808 ≤ n) (h2 : n ≤ 9223372036854775807) :
    Calls Try.prog 5 #[.int .i64 n] w fun e w' => e = .returned (.int .i64 (if n ≤ 57 then 1 else 1 + (n - 1) / 57)) ∧ w' = w := by
  by_cases h : n ≤ 57
  · have t1 : (n ≤ 57) = True := by simp [h]
    rw [if_pos h]
    go_enter Try.func5, Try.ntmps5
    go_wp2
    go_ret
    exact ⟨rfl, rfl⟩
  · have t1 : (n ≤ 57) = False := by simp [h]
    rw [if_neg h]
    by_cases h3 : 0 < n % 57
    · have t2 : (0 < n % 57) = True := by simp [h3]
      have t3 : 1 + (n - 1) / 57 = n / 57 + 1 := by omega
      rw [t3]
      go_enter Try.func5, Try.ntmps5
      go_wp2
      go_ret
      exact ⟨rfl, rfl⟩
    · have t2 : (0 < n % 57) = False := by simp [h3]
      have t3 : 1 + (n - 1) / 57 = n / 57 := by omega
      rw [t3]
      go_enter Try.func5, Try.ntmps5
      go_wp2
      go_ret
      exact ⟨rfl, rfl⟩
set_option maxRecDepth 100000 in
theorem needs_walk (w : World) (n : Int) (h1 : -9223372036854775808 ≤ n) (h2 : n ≤ 9223372036854775807) :
    Calls Try.prog 3 #[.int .i64 n] w fun e w' => e = .returned (.bool true) ∧ w' = w := by
  have HA := fun w => hide (need_any w n h1 h2)
  have HB := fun w => hide (rneed_any w n h1 h2)
  generalize (if n ≤ 57 then 1 else 1 + (n - 1) / 57 : Int) = r at *
  go_enter Try.func3, Try.ntmps3
  go_wp2_with (first
    | (go_at_call 4; refine (unhide (HA _)).mono ?_; rintro e wq ⟨rfl, hq⟩; have hq' := hq.symm; subst hq'; clear hq)
    | (go_at_call 5; refine (unhide (HB _)).mono ?_; rintro e wq ⟨rfl, hq⟩; have hq' := hq.symm; subst hq'; clear hq))
  go_ret
  refine ⟨?_, rfl⟩
  first | rfl | simp
end Go.Proofs.Ytilologfkjcoeaa
