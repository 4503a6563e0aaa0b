/- The law SealJoins, walked. -/
import Derived.Test.YtlcepoomjnpfpaaRef
namespace Go.Proofs.Ytlcepoomjnpfpaa
open Go.RowKit

set_option maxRecDepth 100000 in
set_option maxHeartbeats 400000 in
theorem rjoin_any (a b : Nat) (ha : a < 4294967296) (hb : b < 4294967296) (n : Int) (hn : n ≤ 9223372036854775807) (hn0 : -9223372036854775808 ≤ n) (w : World) :
    Calls Try.prog 5 #[.int .u32 a, .int .u32 b, .int .i64 n] w fun e w' => e = .returned (.int .u32 ((stps (8 * n.toNat) a ^^^ b : Nat) : Int)) ∧ w' = w := by
  have hx := u32_xor_nat _ b (stps_lt (8 * n.toNat) ha) hb
  have HP := hide (rsteps_any a ha n hn hn0)
  generalize stps (8 * n.toNat) a = y at hx HP
  go_enter Try.func5, Try.ntmps5
  go_wp2_with (first | (go_at_call 16; refine (unhide HP _).mono ?_; rintro e w1 ⟨rfl, rfl⟩))
  go_ret
  exact ⟨rfl, rfl⟩

set_option maxRecDepth 100000 in
set_option maxHeartbeats 400000 in
theorem rturn_any (a b : Nat) (ha : a < 4294967296) (hb : b < 256) (n : Int) (hn : n ≤ 9223372036854775807) (hn0 : -9223372036854775808 ≤ n) (w : World) :
    Calls Try.prog 6 #[.int .u32 a, .int .i64 n, .int .u8 b] w fun e w' => e = .returned (.int .u32 ((stps (8 * n.toNat) (stps 8 b) ^^^ a : Nat) : Int)) ∧ w' = w := by
  have h8 := stps_lt 8 (show b < 4294967296 by omega)
  have hx := u32_xor_nat _ a (stps_lt (8 * n.toNat) h8) ha
  have HS : Hid (∀ wx, Calls Try.prog 16 #[.int .u32 b, .int .i64 1] wx fun e w' => e = .returned (.int .u32 (stps 8 b : Nat)) ∧ w' = wx) := fun wx => rsteps_any b (by omega) 1 (by omega) (by omega) wx
  have HP := hide (rsteps_any _ h8 n hn hn0)
  generalize stps (8 * n.toNat) (stps 8 b) = y at hx HP
  generalize stps 8 b = z at h8 HP HS
  go_enter Try.func6, Try.ntmps6
  go_wp2_with fail
  refine (unhide HS _).mono ?_
  rintro e w1 ⟨rfl, rfl⟩
  go_wp2_with fail
  refine (unhide HP _).mono ?_
  rintro e w1 ⟨rfl, rfl⟩
  go_wp2
  go_ret
  exact ⟨rfl, rfl⟩

set_option maxRecDepth 100000 in
set_option maxHeartbeats 400000 in
theorem rtail_any (a b : Nat) (ha : a < 4294967296) (hb : b < 4294967296) (w : World) :
    Calls Try.prog 7 #[.int .u32 a, .int .u32 b] w fun e w' => e = .returned (.agg (bytes4 (tailWord a b))) ∧ Kept [] w w' := by
  have hxb : bits .xor .u32 (b : Int) 4294967295 = (cpl b : Nat) := u32_xor_nat b 4294967295 hb (by omega)
  have hcb := cpl_lt hb
  have HT : Hid (tailWord a b = cpl a ^^^ unsts 32 (cpl b)) := rfl
  generalize cpl b = cb at hxb hcb HT
  go_enter Try.func7, Try.ntmps7
  go_wp2_with fail
  go_loop [5, 6] (fun v i => ∃ k : Nat, k ≤ 32 ∧ i = .int .i64 k ∧ v = .int .u32 (unsts k cb : Nat)) (fun _ i => 32 - (intOf i).toNat)
  case atStart => exact ⟨0, by omega, rfl, rfl⟩
  case round =>
    obtain ⟨k, hk, rfl, rfl⟩ := hrel
    have h1 := unsts_lt k hcb
    by_cases hlt : k < 32
    · have h2 := unsts_succ' k cb
      have HST := hide (runstep_any _ h1)
      rw [← h2] at HST
      clear h2
      generalize hg : unsts (k + 1) cb = z at HST
      have HG := hide hg
      clear hg
      generalize unsts k cb = y at h1 HST
      go_wp2_with (first | (go_at_call 17; refine (unhide HST _).mono ?_; rintro e w' ⟨rfl, rfl⟩))
      exact ⟨⟨k + 1, by omega, by simp, by rw [unhide HG]⟩, by simp [intOf]; omega⟩
    · obtain rfl : k = 32 := by omega
      generalize unsts 32 cb = z at h1 HT
      have e1 := u32_xor_nat z a h1 ha
      have h3 : z ^^^ a < 4294967296 := Nat.xor_lt_two_pow (n := 32) h1 ha
      have e2 := u32_xor_nat (z ^^^ a) 4294967295 h3 (by omega)
      have e3 : z ^^^ a ^^^ 4294967295 = cpl a ^^^ z := by unfold cpl; rw [Nat.xor_assoc, Nat.xor_comm]
      have h4 : z ^^^ a ^^^ 4294967295 < 4294967296 := Nat.xor_lt_two_pow (n := 32) h3 (by omega)
      rw [← e3] at HT
      clear e3
      generalize z ^^^ a ^^^ 4294967295 = y at HT e2 h4
      generalize z ^^^ a = x at e1 e2 h3
      have e4 : bits .xor .u32 (x : Int) 4294967295 = (y : Int) := e2
      clear e2
      go_wp2
      refine ret_arr (b := w.heap.size) (e := 5) (n := 4) rfl rfl (Blk.new _ _ _) Try.underlying25 info25 rfl ⟨?_, (Kept.refl _ _).alloc _⟩
      rw [unhide HT]
      simp [bytes4]

theorem guard25 : Try.prog.eqGuardType Try.prog.depth 25 = false := by kernel_rfl
end Go.Proofs.Ytlcepoomjnpfpaa
