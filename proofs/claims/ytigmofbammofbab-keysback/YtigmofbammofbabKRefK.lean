/- The document's clean. -/
import Derived.Test.YtigmofbammofbabKCount
import Derived.Test.YtigmofbammofbabKFlt
namespace Go.Proofs.Ytigmofbammofbab
open Go.RowKit

theorem rcanon {x : Nat} (hx : x < 18446744073709551616) : canon x = if 9218868437227405312 < x % 9223372036854775808 then oneNaN else x := by
  unfold canon
  have h := nanB_iff hx
  unfold isNum at h
  by_cases h1 : 9218868437227405312 < x % 9223372036854775808
  · rw [if_pos (h.2 (by omega)), if_pos h1]
  · rw [if_neg (fun hh => (h.1 hh) (by omega)), if_neg h1]

set_option maxRecDepth 100000 in
set_option maxHeartbeats 400000 in
theorem rclean_any (x : Nat) (hx : x < 18446744073709551616) (w : World) : Calls Try.prog 32 #[.int .u64 (x : Int)] w fun e w' => e = .returned (.int .u64 (canon x : Nat)) ∧ w' = w := by
  have hc := rcanon hx
  by_cases h1 : 9218868437227405312 < x % 9223372036854775808
  · rw [if_pos h1] at hc
    have HC := hide hc
    have t1 : ((x : Int) % 9223372036854775808 > 9218868437227405312) = True := by simp; omega
    clear hc h1
    go_enter Try.func32, Try.ntmps32
    go_wp2
    go_ret
    exact ⟨by rw [unhide HC]; rfl, rfl⟩
  · rw [if_neg h1] at hc
    have HC := hide hc
    have t1 : ((x : Int) % 9223372036854775808 > 9218868437227405312) = False := by simp; omega
    clear hc h1
    go_enter Try.func32, Try.ntmps32
    go_wp2
    go_ret
    exact ⟨by rw [unhide HC]; rfl, rfl⟩
end Go.Proofs.Ytigmofbammofbab
