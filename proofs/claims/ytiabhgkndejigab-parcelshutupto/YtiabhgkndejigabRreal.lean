/- The reader's Real. -/
import Derived.Test.YtiabhgkndejigabCut
import Derived.Test.YtiabhgkndejigabReal
namespace Go.Proofs.Ytiabhgkndejigab
open Go.RowKit

/-- The number that eight bytes are, the highest first. -/
def of8 : List Nat → Nat := fun l => l.foldl (fun n b => n * 256 + b) 0

theorem be8_of8 (m : Nat) (h : m < 18446744073709551616) : of8 (be8 m) = m := by
  unfold of8 be8; simp only [List.foldl]; omega
theorem be8_lt (m : Nat) (h : m < 18446744073709551616) : ∀ x ∈ be8 m, x < 256 := by
  unfold be8; intro x hx; simp at hx; omega

theorem or_low (n x : Nat) (hx : x < 256) (hn : n < 72057594037927936) : bits .or .u64 (IntKind.u64.wrap ((n : Int) * 256)) (x : Int) = ((n * 256 + x : Nat) : Int) := by
  have e : IntKind.u64.wrap ((n : Int) * 256) = ((n * 256 : Nat) : Int) := by rw [IntKind.wrap_u64]; omega
  rw [e, u64_or_nat _ _ (by omega) (by omega)]
  have := Nat.two_pow_add_eq_or_of_lt (i := 8) (b := x) (by omega) n
  rw [Nat.mul_comm n 256, show (256 : Nat) = 2 ^ 8 from rfl, ← this]

set_option maxRecDepth 100000 in
set_option maxHeartbeats 1000000 in
theorem bitsOf_any (x0 x1 x2 x3 x4 x5 x6 x7 : Nat) (h : ∀ x ∈ [x0, x1, x2, x3, x4, x5, x6, x7], x < 256) (w : World) :
    Calls Try.prog 73 #[.agg #[.int .u8 x0, .int .u8 x1, .int .u8 x2, .int .u8 x3, .int .u8 x4, .int .u8 x5, .int .u8 x6, .int .u8 x7]] w fun e w' => e = .returned (.int .u64 (of8 [x0, x1, x2, x3, x4, x5, x6, x7] : Nat)) ∧ Kept [] w w' := by
  simp only [List.forall_mem_cons, List.not_mem_nil, false_implies, implies_true, and_true] at h
  obtain ⟨h0, h1, h2, h3, h4, h5, h6, h7⟩ := h
  have i0 : ∀ w, (Instr.index 84 (.agg #[.int .u8 x0, .int .u8 x1, .int .u8 x2, .int .u8 x3, .int .u8 x4, .int .u8 x5, .int .u8 x6, .int .u8 x7]) (.int .i64 0)).run Try.prog w = .ok (.int .u8 x0) w := fun _ => by kernel_rfl
  have i1 : ∀ w, (Instr.index 84 (.agg #[.int .u8 x0, .int .u8 x1, .int .u8 x2, .int .u8 x3, .int .u8 x4, .int .u8 x5, .int .u8 x6, .int .u8 x7]) (.int .i64 1)).run Try.prog w = .ok (.int .u8 x1) w := fun _ => by kernel_rfl
  have i2 : ∀ w, (Instr.index 84 (.agg #[.int .u8 x0, .int .u8 x1, .int .u8 x2, .int .u8 x3, .int .u8 x4, .int .u8 x5, .int .u8 x6, .int .u8 x7]) (.int .i64 2)).run Try.prog w = .ok (.int .u8 x2) w := fun _ => by kernel_rfl
  have i3 : ∀ w, (Instr.index 84 (.agg #[.int .u8 x0, .int .u8 x1, .int .u8 x2, .int .u8 x3, .int .u8 x4, .int .u8 x5, .int .u8 x6, .int .u8 x7]) (.int .i64 3)).run Try.prog w = .ok (.int .u8 x3) w := fun _ => by kernel_rfl
  have i4 : ∀ w, (Instr.index 84 (.agg #[.int .u8 x0, .int .u8 x1, .int .u8 x2, .int .u8 x3, .int .u8 x4, .int .u8 x5, .int .u8 x6, .int .u8 x7]) (.int .i64 4)).run Try.prog w = .ok (.int .u8 x4) w := fun _ => by kernel_rfl
  have i5 : ∀ w, (Instr.index 84 (.agg #[.int .u8 x0, .int .u8 x1, .int .u8 x2, .int .u8 x3, .int .u8 x4, .int .u8 x5, .int .u8 x6, .int .u8 x7]) (.int .i64 5)).run Try.prog w = .ok (.int .u8 x5) w := fun _ => by kernel_rfl
  have i6 : ∀ w, (Instr.index 84 (.agg #[.int .u8 x0, .int .u8 x1, .int .u8 x2, .int .u8 x3, .int .u8 x4, .int .u8 x5, .int .u8 x6, .int .u8 x7]) (.int .i64 6)).run Try.prog w = .ok (.int .u8 x6) w := fun _ => by kernel_rfl
  have i7 : ∀ w, (Instr.index 84 (.agg #[.int .u8 x0, .int .u8 x1, .int .u8 x2, .int .u8 x3, .int .u8 x4, .int .u8 x5, .int .u8 x6, .int .u8 x7]) (.int .i64 7)).run Try.prog w = .ok (.int .u8 x7) w := fun _ => by kernel_rfl
  obtain ⟨n1, d1⟩ : ∃ n1 : Nat, n1 = x0 := ⟨_, rfl⟩
  obtain ⟨n2, d2⟩ : ∃ n2 : Nat, n2 = n1 * 256 + x1 := ⟨_, rfl⟩
  obtain ⟨n3, d3⟩ : ∃ n3 : Nat, n3 = n2 * 256 + x2 := ⟨_, rfl⟩
  obtain ⟨n4, d4⟩ : ∃ n4 : Nat, n4 = n3 * 256 + x3 := ⟨_, rfl⟩
  obtain ⟨n5, d5⟩ : ∃ n5 : Nat, n5 = n4 * 256 + x4 := ⟨_, rfl⟩
  obtain ⟨n6, d6⟩ : ∃ n6 : Nat, n6 = n5 * 256 + x5 := ⟨_, rfl⟩
  obtain ⟨n7, d7⟩ : ∃ n7 : Nat, n7 = n6 * 256 + x6 := ⟨_, rfl⟩
  obtain ⟨n8, d8⟩ : ∃ n8 : Nat, n8 = n7 * 256 + x7 := ⟨_, rfl⟩
  have q1 : n1 < 256 := by omega
  have q2 : n2 < 65536 := by omega
  have q3 : n3 < 16777216 := by omega
  have q4 : n4 < 4294967296 := by omega
  have q5 : n5 < 1099511627776 := by omega
  have q6 : n6 < 281474976710656 := by omega
  have q7 : n7 < 72057594037927936 := by omega
  have q8 : n8 < 18446744073709551616 := by omega
  have e1 : bits .or .u64 0 (x0 : Int) = (n1 : Int) := by rw [d1]; have := u64_or_nat 0 x0 (by omega) (by omega); simpa using this
  have e2 : bits .or .u64 ((n1 : Int) * 256) (x1 : Int) = (n2 : Int) := by
    have := or_low n1 x1 h1 (by omega)
    rw [IntKind.wrap_u64, show (n1 : Int) * 256 % 18446744073709551616 = (n1 : Int) * 256 by omega] at this
    rw [this, d2]
  have e3 : bits .or .u64 ((n2 : Int) * 256) (x2 : Int) = (n3 : Int) := by
    have := or_low n2 x2 h2 (by omega)
    rw [IntKind.wrap_u64, show (n2 : Int) * 256 % 18446744073709551616 = (n2 : Int) * 256 by omega] at this
    rw [this, d3]
  have e4 : bits .or .u64 ((n3 : Int) * 256) (x3 : Int) = (n4 : Int) := by
    have := or_low n3 x3 h3 (by omega)
    rw [IntKind.wrap_u64, show (n3 : Int) * 256 % 18446744073709551616 = (n3 : Int) * 256 by omega] at this
    rw [this, d4]
  have e5 : bits .or .u64 ((n4 : Int) * 256) (x4 : Int) = (n5 : Int) := by
    have := or_low n4 x4 h4 (by omega)
    rw [IntKind.wrap_u64, show (n4 : Int) * 256 % 18446744073709551616 = (n4 : Int) * 256 by omega] at this
    rw [this, d5]
  have e6 : bits .or .u64 ((n5 : Int) * 256) (x5 : Int) = (n6 : Int) := by
    have := or_low n5 x5 h5 (by omega)
    rw [IntKind.wrap_u64, show (n5 : Int) * 256 % 18446744073709551616 = (n5 : Int) * 256 by omega] at this
    rw [this, d6]
  have e7 : bits .or .u64 ((n6 : Int) * 256) (x6 : Int) = (n7 : Int) := by
    have := or_low n6 x6 h6 (by omega)
    rw [IntKind.wrap_u64, show (n6 : Int) * 256 % 18446744073709551616 = (n6 : Int) * 256 by omega] at this
    rw [this, d7]
  have e8 : bits .or .u64 ((n7 : Int) * 256) (x7 : Int) = (n8 : Int) := by
    have := or_low n7 x7 h7 (by omega)
    rw [IntKind.wrap_u64, show (n7 : Int) * 256 % 18446744073709551616 = (n7 : Int) * 256 by omega] at this
    rw [this, d8]
  have HF : Hid (of8 [x0, x1, x2, x3, x4, x5, x6, x7] = n8) := by
    show of8 [x0, x1, x2, x3, x4, x5, x6, x7] = n8
    unfold of8; simp only [List.foldl]; omega
  rw [unhide HF]
  clear d1 d2 d3 d4 d5 d6 d7 d8 HF
  go_enter Try.func73, Try.ntmps73
  go_wp2
  refine wp_loop_rounds 9 ?_
  iterate 8 (rw [rounds_succ]; go_wp2)
  rw [rounds_succ]
  go_wp2
  go_ret
  exact ⟨rfl, (Kept.refl _ _).alloc _⟩
end Go.Proofs.Ytiabhgkndejigab
