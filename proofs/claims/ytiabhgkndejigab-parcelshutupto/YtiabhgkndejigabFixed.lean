/- layFixed; the writer's Byte and Fixed. -/
import Derived.Test.YtiabhgkndejigabLe
namespace Go.Proofs.Ytiabhgkndejigab
open Go.RowKit

theorem le_add (n a b : Nat) : le n (a + b) = le n a ++ le (n / 256 ^ a) b := by
  induction b with
  | zero => simp [le]
  | succ b ih => rw [← Nat.add_assoc, le, ih, le, Nat.div_div_eq_div_mul, Nat.pow_add, List.append_assoc]

theorem le_mod (n k j : Nat) (h : k ≤ j) : le (n % 256 ^ j) k = le n k := by
  induction k with
  | zero => rfl
  | succ k ih =>
    rw [le, le, ih (by omega)]
    congr 2
    have e : 256 ^ j = 256 ^ k * 256 ^ (j - k) := by rw [← Nat.pow_add]; congr 1; omega
    rw [e, Nat.mod_mul_right_div_self]
    have e2 : 256 ^ (j - k) = 256 * 256 ^ (j - k - 1) := by rw [Nat.mul_comm, ← Nat.pow_succ]; congr 1; omega
    rw [e2, Nat.mod_mul_right_mod]

/-- What layFixed answers. -/
def Fixed (w : World) (n size : Nat) (e : Ending) (w' : World) : Prop :=
  ∃ a cap, e = .returned (.slice a size cap) ∧ w'.ownsRow w.heap.size 5 1 (.slice a size cap) (le n size).length (u8s (le n size)) ∧ Kept [] w w'

set_option maxRecDepth 100000 in
set_option maxHeartbeats 400000 in
theorem layFixed1 (n : Nat) (_hn : n < 18446744073709551616) (w : World) : Calls Try.prog 63 #[.int .u64 n, .int .i64 1] w (Fixed w n 1) := by
  have m4 : bits .and .i64 1 4 = 0 := by decide
  have m2 : bits .and .i64 1 2 = 0 := by decide
  have m1 : bits .and .i64 1 1 = 1 := by decide
  go_enter Try.func63, Try.ntmps63
  go_wp2_with fail
  have q0 : (n : Int) % 256 = (((n / 256 ^ 0 % 256) : Nat) : Int) := by
    rw [show (256 : Nat) ^ 0 = 1 from rfl]; omega
  rw [q0]
  refine (layu8 (bs := []) (World.ownsRow_nil _ w.heap.size _ _) (Nat.le_refl _) (by simp) (n / 256 ^ 0 % 256) (by omega)).mono ?_
  rintro e w0 ⟨a0, c0, rfl, h0, k0⟩
  have e0 : [] ++ le (n / 256 ^ 0 % 256) 1 = le n 1 := by
    rw [List.nil_append, show (256 : Nat) ^ 0 = 1 from rfl, Nat.div_one, show 256 = 256 ^ 1 from rfl, le_mod n 1 1 (Nat.le_refl _)]
  rw [e0] at h0
  simp only [e0, le_len] at h0 ⊢
  have h0' : w0.ownsRow w.heap.size 5 1 (.slice a0 1 c0) (le n 1).length (u8s (le n 1)) := by rw [le_len]; exact h0
  have H0 := hide h0'
  have K0 : Kept [] w w0 := k0.mono (by simp [Value.ownBlock])
  clear h0 h0' e0 q0 k0
  go_wp2
  go_ret
  exact ⟨a0, c0, rfl, unhide H0, K0⟩

set_option maxRecDepth 100000 in
set_option maxHeartbeats 400000 in
theorem layFixed2 (n : Nat) (_hn : n < 18446744073709551616) (w : World) : Calls Try.prog 63 #[.int .u64 n, .int .i64 2] w (Fixed w n 2) := by
  have m4 : bits .and .i64 2 4 = 0 := by decide
  have m2 : bits .and .i64 2 2 = 2 := by decide
  have m1 : bits .and .i64 2 1 = 0 := by decide
  go_enter Try.func63, Try.ntmps63
  go_wp2_with fail
  have q0 : IntKind.u16.wrap (n : Int) = (((n / 256 ^ 0 % 65536) : Nat) : Int) := by
    rw [IntKind.wrap_u16, show (256 : Nat) ^ 0 = 1 from rfl]; omega
  rw [q0]
  refine (layu16 (bs := []) (World.ownsRow_nil _ w.heap.size _ _) (Nat.le_refl _) (by simp) (n / 256 ^ 0 % 65536) (by omega)).mono ?_
  rintro e w0 ⟨a0, c0, rfl, h0, k0⟩
  have e0 : [] ++ le (n / 256 ^ 0 % 65536) 2 = le n 2 := by
    rw [List.nil_append, show (256 : Nat) ^ 0 = 1 from rfl, Nat.div_one, show 65536 = 256 ^ 2 from rfl, le_mod n 2 2 (Nat.le_refl _)]
  rw [e0] at h0
  simp only [e0, le_len] at h0 ⊢
  have h0' : w0.ownsRow w.heap.size 5 1 (.slice a0 2 c0) (le n 2).length (u8s (le n 2)) := by rw [le_len]; exact h0
  have H0 := hide h0'
  have K0 : Kept [] w w0 := k0.mono (by simp [Value.ownBlock])
  clear h0 h0' e0 q0 k0
  go_wp2
  go_ret
  exact ⟨a0, c0, rfl, unhide H0, K0⟩

set_option maxRecDepth 100000 in
set_option maxHeartbeats 400000 in
theorem layFixed3 (n : Nat) (_hn : n < 18446744073709551616) (w : World) : Calls Try.prog 63 #[.int .u64 n, .int .i64 3] w (Fixed w n 3) := by
  have m4 : bits .and .i64 3 4 = 0 := by decide
  have m2 : bits .and .i64 3 2 = 2 := by decide
  have m1 : bits .and .i64 3 1 = 1 := by decide
  go_enter Try.func63, Try.ntmps63
  go_wp2_with fail
  have q0 : IntKind.u16.wrap (n : Int) = (((n / 256 ^ 0 % 65536) : Nat) : Int) := by
    rw [IntKind.wrap_u16, show (256 : Nat) ^ 0 = 1 from rfl]; omega
  rw [q0]
  refine (layu16 (bs := []) (World.ownsRow_nil _ w.heap.size _ _) (Nat.le_refl _) (by simp) (n / 256 ^ 0 % 65536) (by omega)).mono ?_
  rintro e w0 ⟨a0, c0, rfl, h0, k0⟩
  have e0 : [] ++ le (n / 256 ^ 0 % 65536) 2 = le n 2 := by
    rw [List.nil_append, show (256 : Nat) ^ 0 = 1 from rfl, Nat.div_one, show 65536 = 256 ^ 2 from rfl, le_mod n 2 2 (Nat.le_refl _)]
  rw [e0] at h0
  simp only [e0, le_len] at h0 ⊢
  have h0' : w0.ownsRow w.heap.size 5 1 (.slice a0 2 c0) (le n 2).length (u8s (le n 2)) := by rw [le_len]; exact h0
  have H0 := hide h0'
  have K0 : Kept [] w w0 := k0.mono (by simp [Value.ownBlock])
  clear h0 h0' e0 q0 k0
  go_wp2_with fail
  have q1 : ((n : Int) / 65536) % 256 = (((n / 256 ^ 2 % 256) : Nat) : Int) := by
    rw [show (256 : Nat) ^ 2 = 65536 from rfl]; omega
  rw [q1]
  refine (layu8 (bs := le n 2) (unhide H0) (by have := K0.size; omega) (by simp [le_len]) (n / 256 ^ 2 % 256) (by omega)).mono ?_
  rintro e w1 ⟨a1, c1, rfl, h1, k1⟩
  have e1 : le n 2 ++ le (n / 256 ^ 2 % 256) 1 = le n 3 := by
    rw [show 256 = 256 ^ 1 from rfl, le_mod _ 1 1 (Nat.le_refl _), ← le_add]
  rw [e1] at h1
  simp only [e1, le_len] at h1 ⊢
  have h1' : w1.ownsRow w.heap.size 5 1 (.slice a1 3 c1) (le n 3).length (u8s (le n 3)) := by rw [le_len]; exact h1
  have H1 := hide h1'
  have K1 : Kept [] w w1 := K0.trans k1 (fun x hx => by simp at hx; exact Or.inr ((unhide H0).lt x hx).1)
  clear h1 h1' e1 q1 k1
  go_wp2
  go_ret
  exact ⟨a1, c1, rfl, unhide H1, K1⟩

set_option maxRecDepth 100000 in
set_option maxHeartbeats 400000 in
theorem layFixed4 (n : Nat) (_hn : n < 18446744073709551616) (w : World) : Calls Try.prog 63 #[.int .u64 n, .int .i64 4] w (Fixed w n 4) := by
  have m4 : bits .and .i64 4 4 = 4 := by decide
  have m2 : bits .and .i64 4 2 = 0 := by decide
  have m1 : bits .and .i64 4 1 = 0 := by decide
  go_enter Try.func63, Try.ntmps63
  go_wp2_with fail
  have q0 : (n : Int) % 4294967296 = (((n / 256 ^ 0 % 4294967296) : Nat) : Int) := by
    rw [show (256 : Nat) ^ 0 = 1 from rfl]; omega
  rw [q0]
  refine (layu32 (bs := []) (World.ownsRow_nil _ w.heap.size _ _) (Nat.le_refl _) (by simp) (n / 256 ^ 0 % 4294967296) (by omega)).mono ?_
  rintro e w0 ⟨a0, c0, rfl, h0, k0⟩
  have e0 : [] ++ le (n / 256 ^ 0 % 4294967296) 4 = le n 4 := by
    rw [List.nil_append, show (256 : Nat) ^ 0 = 1 from rfl, Nat.div_one, show 4294967296 = 256 ^ 4 from rfl, le_mod n 4 4 (Nat.le_refl _)]
  rw [e0] at h0
  simp only [e0, le_len] at h0 ⊢
  have h0' : w0.ownsRow w.heap.size 5 1 (.slice a0 4 c0) (le n 4).length (u8s (le n 4)) := by rw [le_len]; exact h0
  have H0 := hide h0'
  have K0 : Kept [] w w0 := k0.mono (by simp [Value.ownBlock])
  clear h0 h0' e0 q0 k0
  go_wp2
  go_ret
  exact ⟨a0, c0, rfl, unhide H0, K0⟩

set_option maxRecDepth 100000 in
set_option maxHeartbeats 400000 in
theorem layFixed5 (n : Nat) (_hn : n < 18446744073709551616) (w : World) : Calls Try.prog 63 #[.int .u64 n, .int .i64 5] w (Fixed w n 5) := by
  have m4 : bits .and .i64 5 4 = 4 := by decide
  have m2 : bits .and .i64 5 2 = 0 := by decide
  have m1 : bits .and .i64 5 1 = 1 := by decide
  go_enter Try.func63, Try.ntmps63
  go_wp2_with fail
  have q0 : (n : Int) % 4294967296 = (((n / 256 ^ 0 % 4294967296) : Nat) : Int) := by
    rw [show (256 : Nat) ^ 0 = 1 from rfl]; omega
  rw [q0]
  refine (layu32 (bs := []) (World.ownsRow_nil _ w.heap.size _ _) (Nat.le_refl _) (by simp) (n / 256 ^ 0 % 4294967296) (by omega)).mono ?_
  rintro e w0 ⟨a0, c0, rfl, h0, k0⟩
  have e0 : [] ++ le (n / 256 ^ 0 % 4294967296) 4 = le n 4 := by
    rw [List.nil_append, show (256 : Nat) ^ 0 = 1 from rfl, Nat.div_one, show 4294967296 = 256 ^ 4 from rfl, le_mod n 4 4 (Nat.le_refl _)]
  rw [e0] at h0
  simp only [e0, le_len] at h0 ⊢
  have h0' : w0.ownsRow w.heap.size 5 1 (.slice a0 4 c0) (le n 4).length (u8s (le n 4)) := by rw [le_len]; exact h0
  have H0 := hide h0'
  have K0 : Kept [] w w0 := k0.mono (by simp [Value.ownBlock])
  clear h0 h0' e0 q0 k0
  go_wp2_with fail
  have q1 : ((n : Int) / 4294967296) % 256 = (((n / 256 ^ 4 % 256) : Nat) : Int) := by
    rw [show (256 : Nat) ^ 4 = 4294967296 from rfl]; omega
  rw [q1]
  refine (layu8 (bs := le n 4) (unhide H0) (by have := K0.size; omega) (by simp [le_len]) (n / 256 ^ 4 % 256) (by omega)).mono ?_
  rintro e w1 ⟨a1, c1, rfl, h1, k1⟩
  have e1 : le n 4 ++ le (n / 256 ^ 4 % 256) 1 = le n 5 := by
    rw [show 256 = 256 ^ 1 from rfl, le_mod _ 1 1 (Nat.le_refl _), ← le_add]
  rw [e1] at h1
  simp only [e1, le_len] at h1 ⊢
  have h1' : w1.ownsRow w.heap.size 5 1 (.slice a1 5 c1) (le n 5).length (u8s (le n 5)) := by rw [le_len]; exact h1
  have H1 := hide h1'
  have K1 : Kept [] w w1 := K0.trans k1 (fun x hx => by simp at hx; exact Or.inr ((unhide H0).lt x hx).1)
  clear h1 h1' e1 q1 k1
  go_wp2
  go_ret
  exact ⟨a1, c1, rfl, unhide H1, K1⟩

set_option maxRecDepth 100000 in
set_option maxHeartbeats 400000 in
theorem layFixed6 (n : Nat) (_hn : n < 18446744073709551616) (w : World) : Calls Try.prog 63 #[.int .u64 n, .int .i64 6] w (Fixed w n 6) := by
  have m4 : bits .and .i64 6 4 = 4 := by decide
  have m2 : bits .and .i64 6 2 = 2 := by decide
  have m1 : bits .and .i64 6 1 = 0 := by decide
  go_enter Try.func63, Try.ntmps63
  go_wp2_with fail
  have q0 : (n : Int) % 4294967296 = (((n / 256 ^ 0 % 4294967296) : Nat) : Int) := by
    rw [show (256 : Nat) ^ 0 = 1 from rfl]; omega
  rw [q0]
  refine (layu32 (bs := []) (World.ownsRow_nil _ w.heap.size _ _) (Nat.le_refl _) (by simp) (n / 256 ^ 0 % 4294967296) (by omega)).mono ?_
  rintro e w0 ⟨a0, c0, rfl, h0, k0⟩
  have e0 : [] ++ le (n / 256 ^ 0 % 4294967296) 4 = le n 4 := by
    rw [List.nil_append, show (256 : Nat) ^ 0 = 1 from rfl, Nat.div_one, show 4294967296 = 256 ^ 4 from rfl, le_mod n 4 4 (Nat.le_refl _)]
  rw [e0] at h0
  simp only [e0, le_len] at h0 ⊢
  have h0' : w0.ownsRow w.heap.size 5 1 (.slice a0 4 c0) (le n 4).length (u8s (le n 4)) := by rw [le_len]; exact h0
  have H0 := hide h0'
  have K0 : Kept [] w w0 := k0.mono (by simp [Value.ownBlock])
  clear h0 h0' e0 q0 k0
  go_wp2_with fail
  have q1 : IntKind.u16.wrap ((n : Int) / 4294967296) = (((n / 256 ^ 4 % 65536) : Nat) : Int) := by
    rw [IntKind.wrap_u16, show (256 : Nat) ^ 4 = 4294967296 from rfl]; omega
  rw [q1]
  refine (layu16 (bs := le n 4) (unhide H0) (by have := K0.size; omega) (by simp [le_len]) (n / 256 ^ 4 % 65536) (by omega)).mono ?_
  rintro e w1 ⟨a1, c1, rfl, h1, k1⟩
  have e1 : le n 4 ++ le (n / 256 ^ 4 % 65536) 2 = le n 6 := by
    rw [show 65536 = 256 ^ 2 from rfl, le_mod _ 2 2 (Nat.le_refl _), ← le_add]
  rw [e1] at h1
  simp only [e1, le_len] at h1 ⊢
  have h1' : w1.ownsRow w.heap.size 5 1 (.slice a1 6 c1) (le n 6).length (u8s (le n 6)) := by rw [le_len]; exact h1
  have H1 := hide h1'
  have K1 : Kept [] w w1 := K0.trans k1 (fun x hx => by simp at hx; exact Or.inr ((unhide H0).lt x hx).1)
  clear h1 h1' e1 q1 k1
  go_wp2
  go_ret
  exact ⟨a1, c1, rfl, unhide H1, K1⟩

set_option maxRecDepth 100000 in
set_option maxHeartbeats 400000 in
theorem layFixed7 (n : Nat) (_hn : n < 18446744073709551616) (w : World) : Calls Try.prog 63 #[.int .u64 n, .int .i64 7] w (Fixed w n 7) := by
  have m4 : bits .and .i64 7 4 = 4 := by decide
  have m2 : bits .and .i64 7 2 = 2 := by decide
  have m1 : bits .and .i64 7 1 = 1 := by decide
  go_enter Try.func63, Try.ntmps63
  go_wp2_with fail
  have q0 : (n : Int) % 4294967296 = (((n / 256 ^ 0 % 4294967296) : Nat) : Int) := by
    rw [show (256 : Nat) ^ 0 = 1 from rfl]; omega
  rw [q0]
  refine (layu32 (bs := []) (World.ownsRow_nil _ w.heap.size _ _) (Nat.le_refl _) (by simp) (n / 256 ^ 0 % 4294967296) (by omega)).mono ?_
  rintro e w0 ⟨a0, c0, rfl, h0, k0⟩
  have e0 : [] ++ le (n / 256 ^ 0 % 4294967296) 4 = le n 4 := by
    rw [List.nil_append, show (256 : Nat) ^ 0 = 1 from rfl, Nat.div_one, show 4294967296 = 256 ^ 4 from rfl, le_mod n 4 4 (Nat.le_refl _)]
  rw [e0] at h0
  simp only [e0, le_len] at h0 ⊢
  have h0' : w0.ownsRow w.heap.size 5 1 (.slice a0 4 c0) (le n 4).length (u8s (le n 4)) := by rw [le_len]; exact h0
  have H0 := hide h0'
  have K0 : Kept [] w w0 := k0.mono (by simp [Value.ownBlock])
  clear h0 h0' e0 q0 k0
  go_wp2_with fail
  have q1 : IntKind.u16.wrap ((n : Int) / 4294967296) = (((n / 256 ^ 4 % 65536) : Nat) : Int) := by
    rw [IntKind.wrap_u16, show (256 : Nat) ^ 4 = 4294967296 from rfl]; omega
  rw [q1]
  refine (layu16 (bs := le n 4) (unhide H0) (by have := K0.size; omega) (by simp [le_len]) (n / 256 ^ 4 % 65536) (by omega)).mono ?_
  rintro e w1 ⟨a1, c1, rfl, h1, k1⟩
  have e1 : le n 4 ++ le (n / 256 ^ 4 % 65536) 2 = le n 6 := by
    rw [show 65536 = 256 ^ 2 from rfl, le_mod _ 2 2 (Nat.le_refl _), ← le_add]
  rw [e1] at h1
  simp only [e1, le_len] at h1 ⊢
  have h1' : w1.ownsRow w.heap.size 5 1 (.slice a1 6 c1) (le n 6).length (u8s (le n 6)) := by rw [le_len]; exact h1
  have H1 := hide h1'
  have K1 : Kept [] w w1 := K0.trans k1 (fun x hx => by simp at hx; exact Or.inr ((unhide H0).lt x hx).1)
  clear h1 h1' e1 q1 k1
  go_wp2_with fail
  have q2 : ((n : Int) / 4294967296 / 65536) % 256 = (((n / 256 ^ 6 % 256) : Nat) : Int) := by
    rw [show (256 : Nat) ^ 6 = 281474976710656 from rfl]; omega
  rw [q2]
  refine (layu8 (bs := le n 6) (unhide H1) (by have := K1.size; omega) (by simp [le_len]) (n / 256 ^ 6 % 256) (by omega)).mono ?_
  rintro e w2 ⟨a2, c2, rfl, h2, k2⟩
  have e2 : le n 6 ++ le (n / 256 ^ 6 % 256) 1 = le n 7 := by
    rw [show 256 = 256 ^ 1 from rfl, le_mod _ 1 1 (Nat.le_refl _), ← le_add]
  rw [e2] at h2
  simp only [e2, le_len] at h2 ⊢
  have h2' : w2.ownsRow w.heap.size 5 1 (.slice a2 7 c2) (le n 7).length (u8s (le n 7)) := by rw [le_len]; exact h2
  have H2 := hide h2'
  have K2 : Kept [] w w2 := K1.trans k2 (fun x hx => by simp at hx; exact Or.inr ((unhide H1).lt x hx).1)
  clear h2 h2' e2 q2 k2
  go_wp2
  go_ret
  exact ⟨a2, c2, rfl, unhide H2, K2⟩

set_option maxRecDepth 100000 in
set_option maxHeartbeats 400000 in
theorem layFixed8 (n : Nat) (hn : n < 18446744073709551616) (w : World) : Calls Try.prog 63 #[.int .u64 n, .int .i64 8] w (Fixed w n 8) := by
  go_enter Try.func63, Try.ntmps63
  go_wp2_with fail
  refine (layu64 (bs := []) (World.ownsRow_nil _ w.heap.size _ _) (Nat.le_refl _) (by simp) n hn).mono ?_
  rintro e w1 ⟨a1, c1, rfl, h1, k1⟩
  have H1 := hide h1
  clear h1
  go_wp2
  go_ret
  exact ⟨a1, c1, rfl, by simpa [le_len] using unhide H1, k1.mono (by simp [Value.ownBlock])⟩

theorem layFixed_any (n size : Nat) (hn : n < 18446744073709551616) (h1 : 1 ≤ size) (h8 : size ≤ 8) (w : World) : Calls Try.prog 63 #[.int .u64 n, .int .i64 size] w (Fixed w n size) := by
  match size, h1, h8 with
  | 1, _, _ => exact layFixed1 n hn w
  | 2, _, _ => exact layFixed2 n hn w
  | 3, _, _ => exact layFixed3 n hn w
  | 4, _, _ => exact layFixed4 n hn w
  | 5, _, _ => exact layFixed5 n hn w
  | 6, _, _ => exact layFixed6 n hn w
  | 7, _, _ => exact layFixed7 n hn w
  | 8, _, _ => exact layFixed8 n hn w
end Go.Proofs.Ytiabhgkndejigab
