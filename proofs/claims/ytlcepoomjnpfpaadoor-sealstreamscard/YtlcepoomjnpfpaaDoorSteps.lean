/- seal.steps and seal.stepsBack. -/
import Derived.Test.YtlcepoomjnpfpaaDoorKit
namespace Go.Proofs.YtlcepoomjnpfpaaDoor
open Go.RowKit

theorem and_one (v : Nat) (hv : v < 4294967296) : bits .and .u32 (v : Int) 1 = ((v % 2 : Nat) : Int) := by
  have := u32_and_nat v 1 hv (by omega)
  rw [nat_mask1] at this
  simpa using this

theorem stp_of_one {x : Nat} (hx : x < 4294967296) (h : ((x : Int) % 2 == 1) = true) : bits .xor .u32 ((x : Int) / 2) 2197175160 = (stp x : Nat) := by
  have h2 : x % 2 = 1 := by rw [beq_iff_eq] at h; omega
  have := u32_xor_nat (x / 2) 2197175160 (by omega) (by omega)
  unfold stp
  rw [if_pos h2, ← this]
  simp
theorem stp_of_zero {x : Nat} (h : ((x : Int) % 2 == 1) = false) : (x : Int) / 2 = (stp x : Nat) := by
  have h2 : ¬ x % 2 = 1 := by rw [beq_eq_false_iff_ne] at h; omega
  unfold stp
  rw [if_neg h2]; omega

set_option maxRecDepth 100000 in
set_option maxHeartbeats 400000 in
theorem steps_any (v n : Nat) (hv : v < 4294967296) (hn : n ≤ 9223372036854775807) (w : World) :
    Calls Tryd.prog 29 #[.int .u32 v, .int .i64 n] w fun e w' => e = .returned (.int .u32 (stps n v : Nat)) ∧ w' = w := by
  go_enter Tryd.func29, Tryd.ntmps29
  go_wp2_with fail
  go_loop [0, 7] (fun r i => ∃ k : Nat, k ≤ n ∧ i = .int .i64 k ∧ r = .int .u32 (stps k v : Nat)) (fun _ i => n - (intOf i).toNat)
  case atStart => exact ⟨0, by omega, rfl, rfl⟩
  case round =>
    obtain ⟨k, hk, rfl, rfl⟩ := hrel
    have h1 := stps_lt k hv
    have h2 := stps_succ' k v
    by_cases hlt : k < n
    · generalize stps k v = x at h1 h2
      have ha := and_one x h1
      go_wp2
      · rename_i hb
        exact ⟨⟨k + 1, by omega, by simp, by rw [h2, stp_of_one h1 hb]⟩, by simp [intOf]; omega⟩
      · rename_i hb
        exact ⟨⟨k + 1, by omega, by simp, by rw [h2, stp_of_zero hb]⟩, by simp [intOf]; omega⟩
    · obtain rfl : k = n := by omega
      go_wp2
      go_ret
      exact ⟨rfl, rfl⟩

theorem unsts_lt (n : Nat) : ∀ {v : Nat}, v < 4294967296 → unsts n v < 4294967296 := by
  induction n with
  | zero => intro v h; exact h
  | succ n ih => intro v _; exact ih (unst_lt v)
theorem unsts_succ' (n : Nat) : ∀ v : Nat, unsts (n + 1) v = unst (unsts n v) := by
  induction n with
  | zero => intro v; rfl
  | succ n ih => intro v; rw [unsts, ih, unsts]
theorem unst_of_one {x : Nat} (hx : x < 4294967296) (h : ((x : Int) / 2147483648 == 1) = true) :
    bits .or .u32 (bits .xor .u32 (x : Int) 2197175160 * 2 % 4294967296) ((x : Int) / 2147483648) = (unst x : Nat) := by
  have h2 : x / 2147483648 = 1 := by rw [beq_iff_eq] at h; omega
  have h3 := u32_xor_nat x 2197175160 hx (by omega)
  have h4 := u32_or_nat ((x ^^^ 2197175160) * 2 % 4294967296) 1 (by omega) (by omega)
  have h5 : (x : Int) / 2147483648 = 1 := by omega
  rw [h5]
  unfold unst
  rw [if_pos h2, ← h4]
  simp only [Int.natCast_emod, Int.natCast_mul]
  rw [← h3]
  rfl
theorem unst_of_zero {x : Nat} (hx : x < 4294967296) (h : ((x : Int) / 2147483648 == 1) = false) :
    bits .or .u32 ((x : Int) * 2 % 4294967296) ((x : Int) / 2147483648) = (unst x : Nat) := by
  have h2 : ¬ x / 2147483648 = 1 := by rw [beq_eq_false_iff_ne] at h; omega
  have h4 := u32_or_nat (x * 2 % 4294967296) 0 (by omega) (by omega)
  have h5 : (x : Int) / 2147483648 = 0 := by omega
  rw [h5]
  unfold unst
  rw [if_neg h2]
  simpa using h4

set_option maxRecDepth 100000 in
set_option maxHeartbeats 400000 in
theorem back_any (v n : Nat) (hv : v < 4294967296) (hn : n ≤ 9223372036854775807) (w : World) :
    Calls Tryd.prog 30 #[.int .u32 v, .int .i64 n] w fun e w' => e = .returned (.int .u32 (unsts n v : Nat)) ∧ w' = w := by
  go_enter Tryd.func30, Tryd.ntmps30
  go_wp2_with fail
  go_loop [0, 7] (fun r i => ∃ k : Nat, k ≤ n ∧ i = .int .i64 k ∧ r = .int .u32 (unsts k v : Nat)) (fun _ i => n - (intOf i).toNat)
  case atStart => exact ⟨0, by omega, rfl, rfl⟩
  case round =>
    obtain ⟨k, hk, rfl, rfl⟩ := hrel
    have h1 := unsts_lt k hv
    have h2 := unsts_succ' k v
    by_cases hlt : k < n
    · generalize unsts k v = x at h1 h2
      go_wp2
      · rename_i hb
        exact ⟨⟨k + 1, by omega, by simp, by rw [h2, unst_of_one h1 hb]⟩, by simp [intOf]; omega⟩
      · rename_i hb
        exact ⟨⟨k + 1, by omega, by simp, by rw [h2, unst_of_zero h1 hb]⟩, by simp [intOf]; omega⟩
    · obtain rfl : k = n := by omega
      go_wp2
      go_ret
      exact ⟨rfl, rfl⟩
end Go.Proofs.YtlcepoomjnpfpaaDoor
