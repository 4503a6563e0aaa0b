/- Join, Turn, Tail. -/
import Derived.Test.YtlcepoomjnpfpaaDoorPass
namespace Go.Proofs.YtlcepoomjnpfpaaDoor
open Go.RowKit

set_option maxRecDepth 100000 in
set_option maxHeartbeats 400000 in
theorem join_any (a b : Nat) (ha : a < 4294967296) (hb : b < 4294967296) (n : Int) (hn : n ≤ 9223372036854775807) (hn0 : -9223372036854775808 ≤ n) (w : World) :
    Calls Tryd.prog 16 #[.int .u32 a, .int .u32 b, .int .i64 n] w fun e w' => e = .returned (.int .u32 ((stps (8 * n.toNat) a ^^^ b : Nat) : Int)) ∧ Kept [] w w' := by
  have hx := u32_xor_nat _ b (stps_lt (8 * n.toNat) ha) hb
  have HP := hide (pass_any a ha n hn hn0)
  generalize stps (8 * n.toNat) a = y at hx HP
  go_enter Tryd.func16, Tryd.ntmps16
  go_wp2_with (first | (go_at_call 28; refine (unhide HP _).mono ?_; rintro e w1 ⟨rfl, hk1⟩))
  go_ret
  exact ⟨rfl, hk1⟩

set_option maxRecDepth 100000 in
set_option maxHeartbeats 400000 in
theorem turn_any (a b : Nat) (ha : a < 4294967296) (hb : b < 256) (n : Int) (hn : n ≤ 9223372036854775807) (hn0 : -9223372036854775808 ≤ n) (w : World) :
    Calls Tryd.prog 17 #[.int .u32 a, .int .i64 n, .int .u8 b] w fun e w' => e = .returned (.int .u32 ((stps (8 * n.toNat) (stps 8 b) ^^^ a : Nat) : Int)) ∧ Kept [] w w' := by
  have h8 := stps_lt 8 (show b < 4294967296 by omega)
  have hx := u32_xor_nat _ a (stps_lt (8 * n.toNat) h8) ha
  have HS : Hid (∀ wx, Calls Tryd.prog 29 #[.int .u32 b, .int .i64 8] wx fun e w' => e = .returned (.int .u32 (stps 8 b : Nat)) ∧ w' = wx) := fun wx => steps_any b 8 (by omega) (by omega) wx
  have HP := hide (pass_any _ h8 n hn hn0)
  generalize stps (8 * n.toNat) (stps 8 b) = y at hx HP
  generalize stps 8 b = z at h8 HP HS
  go_enter Tryd.func17, Tryd.ntmps17
  go_wp2_with (first | (go_at_call 29; refine (unhide HS _).mono ?_; rintro e w1 ⟨rfl, rfl⟩) | (go_at_call 28; refine (unhide HP _).mono ?_; rintro e w1 ⟨rfl, hk1⟩))
  go_ret
  exact ⟨rfl, hk1⟩

theorem info25 : (Tryd.prog.info? 44).map (·.size) = some 4 := by kernel_rfl
/-- all bits turned -/
def cpl (a : Nat) : Nat := a ^^^ 4294967295
theorem cpl_lt {a : Nat} (ha : a < 4294967296) : cpl a < 4294967296 := Nat.xor_lt_two_pow (n := 32) (by omega) (by omega)
theorem cpl_bits {a : Nat} (ha : a < 4294967296) : bits .xor .u32 IntKind.u32.max (a : Int) = (cpl a : Nat) := by
  have := u32_xor_nat 4294967295 a (by omega) ha
  rw [Nat.xor_comm] at this
  exact this
/-- the word of the tail, and its bytes -/
def tailWord (a b : Nat) : Nat := cpl a ^^^ unsts 32 (cpl b)
def bytes4 (x : Nat) : Array Value := #[.int .u8 ((x % 256 : Nat) : Int), .int .u8 ((x / 256 % 256 : Nat) : Int), .int .u8 ((x / 65536 % 256 : Nat) : Int), .int .u8 ((x / 16777216 : Nat) : Int)]

set_option maxRecDepth 100000 in
set_option maxHeartbeats 400000 in
theorem tail_any (a b : Nat) (ha : a < 4294967296) (hb : b < 4294967296) (w : World) :
    Calls Tryd.prog 18 #[.int .u32 a, .int .u32 b] w fun e w' => e = .returned (.agg (bytes4 (tailWord a b))) ∧ Kept [] w w' := by
  have hxa := cpl_bits ha
  have hxb := cpl_bits hb
  have hsg : IntKind.u32.signed = false := rfl
  have hu := unsts_lt 32 (cpl_lt hb)
  have hx := u32_xor_nat _ _ (cpl_lt ha) hu
  have HB : Hid (∀ wx, Calls Tryd.prog 30 #[.int .u32 (cpl b : Nat), .int .i64 32] wx fun e w' => e = .returned (.int .u32 (unsts 32 (cpl b) : Nat)) ∧ w' = wx) := fun wx => back_any (cpl b) 32 (cpl_lt hb) (by omega) wx
  have HT : Hid (tailWord a b = cpl a ^^^ unsts 32 (cpl b)) := rfl
  have hl : cpl a ^^^ unsts 32 (cpl b) < 4294967296 := Nat.xor_lt_two_pow (n := 32) (cpl_lt ha) hu
  generalize cpl a ^^^ unsts 32 (cpl b) = y at hx HT hl
  generalize unsts 32 (cpl b) = z at hx HB hu
  generalize cpl b = cb at hxb HB
  generalize cpl a = ca at hxa hx
  go_enter Tryd.func18, Tryd.ntmps18
  go_wp2_with (first | (go_at_call 30; refine (unhide HB _).mono ?_; rintro e w1 ⟨rfl, rfl⟩))
  refine ret_arr (b := w.heap.size) (e := 5) (n := 4) rfl rfl (Blk.new _ _ _) Tryd.underlying44 info25 rfl ⟨?_, (Kept.refl _ _).alloc _⟩
  rw [unhide HT]
  simp [bytes4]
end Go.Proofs.YtlcepoomjnpfpaaDoor
