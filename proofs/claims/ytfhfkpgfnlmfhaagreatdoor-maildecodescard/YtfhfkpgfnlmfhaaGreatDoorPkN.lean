/- Texts laid one behind the other: Le Fixed. -/
import Derived.Test.YtfhfkpgfnlmfhaaGreatDoorPkM
import Derived.Test.YtfhfkpgfnlmfhaaGreatDoorPkI
/- Numbers of one, two, four and eight bytes, the lowest first; the writer's Byte and Fixed. -/
namespace Go.Proofs.YtfhfkpgfnlmfhaaGreatDoor
open Go.RowKit

/-- The lowest k bytes of n, the lowest first. -/
def le (n : Nat) : Nat → List Nat
  | 0 => []
  | k + 1 => le n k ++ [n / 256 ^ k % 256]
theorem le_len (n k : Nat) : (le n k).length = k := by
  induction k with
  | zero => rfl
  | succ k ih => simp [le, ih]
theorem le_lt (n k : Nat) : ∀ x ∈ le n k, x < 256 := by
  induction k with
  | zero => intro x hx; cases hx
  | succ k ih => intro x hx; simp [le] at hx; rcases hx with h | h; exact ih x h; omega
theorem pow256 (k : Nat) : (2 : Nat) ^ (8 * k) = 256 ^ k := by rw [Nat.pow_mul]
theorem pow256i (k : Nat) : (2 : Int) ^ (8 * k) = ((256 ^ k : Nat) : Int) := by rw [← pow256]; simp

set_option maxRecDepth 100000 in
set_option maxHeartbeats 400000 in
theorem len64_16 (x : Int) (h0 : 256 ≤ x) (h1 : x ≤ 65535) (w : World) : Calls Tryz.prog 87 #[.int .u64 x] w fun e w' => e = .returned (.int .i64 (wrap64 (8 + wrap64 (Lib.len8 (x / 256))))) ∧ w = w' := by
  have g1 : 0 ≤ x / 256 := by omega
  have g2 : x / 256 ≤ 255 := by omega
  go_enter Tryz.func87, Tryz.ntmps87
  go_wp2
  go_ret
  exact ⟨rfl, rfl⟩

set_option maxRecDepth 100000 in
set_option maxHeartbeats 400000 in
theorem len64_32 (x : Int) (h0 : 16777216 ≤ x) (h1 : x ≤ 4294967295) (w : World) : Calls Tryz.prog 87 #[.int .u64 x] w fun e w' => e = .returned (.int .i64 (wrap64 (24 + wrap64 (Lib.len8 (x / 65536 / 256))))) ∧ w = w' := by
  have h2 : 256 ≤ x / 65536 := by omega
  have g1 : 0 ≤ x / 65536 / 256 := by omega
  have g2 : x / 65536 / 256 ≤ 255 := by omega
  go_enter Tryz.func87, Tryz.ntmps87
  go_wp2
  go_ret
  exact ⟨rfl, rfl⟩

set_option maxRecDepth 100000 in
set_option maxHeartbeats 400000 in
theorem len64_64 (x : Int) (h0 : 72057594037927936 ≤ x) (h1 : x ≤ 18446744073709551615) (w : World) : Calls Tryz.prog 87 #[.int .u64 x] w fun e w' => e = .returned (.int .i64 (wrap64 (56 + wrap64 (Lib.len8 (x / 4294967296 / 65536 / 256))))) ∧ w = w' := by
  have h2 : 65536 ≤ x / 4294967296 := by omega
  have h3 : 256 ≤ x / 4294967296 / 65536 := by omega
  have g1 : 0 ≤ x / 4294967296 / 65536 / 256 := by omega
  have g2 : x / 4294967296 / 65536 / 256 ≤ 255 := by omega
  go_enter Tryz.func87, Tryz.ntmps87
  go_wp2
  go_ret
  exact ⟨rfl, rfl⟩

set_option maxRecDepth 100000 in
set_option maxHeartbeats 400000 in
theorem widthu16 (w : World) : Calls Tryz.prog 81 #[] w fun e w' => e = .returned (.int .i64 2) ∧ w = w' := by
  have e2 : wrap64 (8 + wrap64 (Lib.len8 (65535 / 256))) = 16 := by decide +kernel
  go_enter Tryz.func81, Tryz.ntmps81
  go_wp2_with fail
  have e1 : IntKind.u64.wrap (bits BinOp.xor IntKind.u16 IntKind.u16.max 0) = 65535 := by decide +kernel
  first | rw [e1] | rw [show bits BinOp.xor IntKind.u64 IntKind.u64.max 0 = 65535 by decide +kernel]
  refine (len64_16 65535 (by omega) (by omega) _).mono ?_
  rintro e w' ⟨rfl, rfl⟩
  rw [e2]
  go_wp2
  go_ret
  exact ⟨rfl, rfl⟩

set_option maxRecDepth 100000 in
set_option maxHeartbeats 400000 in
theorem widthu32 (w : World) : Calls Tryz.prog 80 #[] w fun e w' => e = .returned (.int .i64 4) ∧ w = w' := by
  have e2 : wrap64 (24 + wrap64 (Lib.len8 (4294967295 / 65536 / 256))) = 32 := by decide +kernel
  go_enter Tryz.func80, Tryz.ntmps80
  go_wp2_with fail
  have e1 : IntKind.u64.wrap (bits BinOp.xor IntKind.u32 IntKind.u32.max 0) = 4294967295 := by decide +kernel
  first | rw [e1] | rw [show bits BinOp.xor IntKind.u64 IntKind.u64.max 0 = 4294967295 by decide +kernel]
  refine (len64_32 4294967295 (by omega) (by omega) _).mono ?_
  rintro e w' ⟨rfl, rfl⟩
  rw [e2]
  go_wp2
  go_ret
  exact ⟨rfl, rfl⟩

set_option maxRecDepth 100000 in
set_option maxHeartbeats 400000 in
theorem widthu64 (w : World) : Calls Tryz.prog 78 #[] w fun e w' => e = .returned (.int .i64 8) ∧ w = w' := by
  have e2 : wrap64 (56 + wrap64 (Lib.len8 (18446744073709551615 / 4294967296 / 65536 / 256))) = 64 := by decide +kernel
  go_enter Tryz.func78, Tryz.ntmps78
  go_wp2_with fail
  have e1 : IntKind.u64.wrap (bits BinOp.xor IntKind.u64 IntKind.u64.max 0) = 18446744073709551615 := by decide +kernel
  first | rw [e1] | rw [show bits BinOp.xor IntKind.u64 IntKind.u64.max 0 = 18446744073709551615 by decide +kernel]
  refine (len64_64 18446744073709551615 (by omega) (by omega) _).mono ?_
  rintro e w' ⟨rfl, rfl⟩
  rw [e2]
  go_wp2
  go_ret
  exact ⟨rfl, rfl⟩

end Go.Proofs.YtfhfkpgfnlmfhaaGreatDoor

/- layFixed; the writer's Byte and Fixed. -/
namespace Go.Proofs.YtfhfkpgfnlmfhaaGreatDoor
open Go.RowKit

theorem le_add (n a b : Nat) : le n (a + b) = le n a ++ le (n / 256 ^ a) b := by
  induction b with
  | zero => simp [le]
  | succ b ih => rw [← Nat.add_assoc, le, ih, le, Nat.div_div_eq_div_mul, Nat.pow_add, List.append_assoc]

theorem le_mod (n k j : Nat) (h : k ≤ j) : le (n % 256 ^ j) k = le n k := by
  induction k with
  | zero => rfl
  | succ k ih =>
    rw [le, le, ih (by omega)]
    congr 2
    have e : 256 ^ j = 256 ^ k * 256 ^ (j - k) := by rw [← Nat.pow_add]; congr 1; omega
    rw [e, Nat.mod_mul_right_div_self]
    have e2 : 256 ^ (j - k) = 256 * 256 ^ (j - k - 1) := by rw [Nat.mul_comm, ← Nat.pow_succ]; congr 1; omega
    rw [e2, Nat.mod_mul_right_mod]

/-- What layFixed answers. -/
def Fixed (w : World) (n size : Nat) (e : Ending) (w' : World) : Prop :=
  ∃ a cap, e = .returned (.slice a size cap) ∧ w'.ownsRow w.heap.size 5 1 (.slice a size cap) (le n size).length (u8s (le n size)) ∧ Kept [] w w'

end Go.Proofs.YtfhfkpgfnlmfhaaGreatDoor
