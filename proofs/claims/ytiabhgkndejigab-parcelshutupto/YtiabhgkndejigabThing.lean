/- A Thing: its kind, its size; what lays it down. -/
import Derived.Test.YtiabhgkndejigabRfixC
namespace Go.Proofs.Ytiabhgkndejigab
open Go.RowKit

/-- A thing: the value, and what its P reads as. -/
structure Th where
  kind : Int
  n : Nat
  i : Int
  pa : Option Addr
  pc : Nat
  p : List Nat

def Th.val (t : Th) : Value := .agg #[.int .i64 t.kind, .int .u64 (t.n : Int), .int .i64 t.i, .slice t.pa t.p.length t.pc]
def Th.pv (t : Th) : Value := .slice t.pa t.p.length t.pc
/-- It is a value of its type. -/
structure Th.ok (t : Th) : Prop where
  k1 : -9223372036854775808 ≤ t.kind
  k2 : t.kind ≤ 9223372036854775807
  n : t.n < 18446744073709551616
  i1 : -9223372036854775808 ≤ t.i
  i2 : t.i ≤ 9223372036854775807
  p : ∀ x ∈ t.p, x < 256

def rnd (x : Int) (n : Nat) : Nat := (x % n).toNat
theorem rnd_lt (x : Int) (n : Nat) (h : 0 < n) : rnd x n < n := by
  unfold rnd
  have h1 := Int.emod_nonneg x (b := (n : Int)) (by omega)
  have h2 := Int.emod_lt_of_pos x (b := (n : Int)) (by omega)
  omega
theorem rnd_of (x : Int) (n : Nat) (h : 0 < n) : (x.tmod n < 0 → x.tmod n + n = (rnd x n : Int)) ∧ (0 ≤ x.tmod n → x.tmod n = (rnd x n : Int)) := by
  have h1 := Int.emod_nonneg x (b := (n : Int)) (by omega)
  have h2 := Int.emod_lt_of_pos x (b := (n : Int)) (by omega)
  have h3 := Int.tmod_eq_emod (a := x) (b := (n : Int))
  unfold rnd
  split at h3 <;> constructor <;> intro h4 <;> (try simp at h3) <;> omega

set_option maxRecDepth 100000 in
set_option maxHeartbeats 400000 in
theorem round_any (x : Int) (n : Nat) (w : World) (hn : 0 < n) (hn2 : n ≤ 1000) :
    Calls Try.prog 11 #[.int .i64 x, .int .i64 n] w fun e w' => e = .returned (.int .i64 (rnd x n : Nat)) ∧ w = w' := by
  obtain ⟨r1, r2⟩ := rnd_of x n hn
  have hlt := rnd_lt x n hn
  go_enter Try.func11, Try.ntmps11
  go_wp2
  · rename_i hneg; clear hneg
    go_ret
    refine ⟨ret_int ?_, rfl⟩
    rfl
  · rename_i hpos
    go_ret
    exact ⟨ret_int (r2 hpos), rfl⟩

/-- The copy of the thing that a method makes. -/
def Th.copy (t : Th) (w : World) : World := w.alloc (.cells #[.int .i64 t.kind, .int .u64 (t.n : Int), .int .i64 t.i, .slice t.pa t.p.length t.pc] 35)

set_option maxRecDepth 100000 in
set_option maxHeartbeats 400000 in
theorem kind_any (t : Th) (w : World) : Calls Try.prog 29 #[t.val] w fun e w' => e = .returned (.int .i64 (1 + rnd t.kind 9 : Nat)) ∧ w' = t.copy w := by
  obtain ⟨k, n, i, pa, pc, p⟩ := t
  have hlt := rnd_lt k 9 (by omega)
  have HC := fun w => round_any k 9 w (by omega) (by omega)
  unfold Th.val Th.copy
  simp only at hlt ⊢
  generalize rnd k 9 = r at *
  go_enter Try.func29, Try.ntmps29
  go_wp2_with (first | (go_at_call 11; refine (HC _).mono ?_; rintro e w' ⟨rfl, rfl⟩))
  go_ret
  exact ⟨ret_int (by simp), rfl⟩

set_option maxRecDepth 100000 in
set_option maxHeartbeats 400000 in
theorem size_any (t : Th) (w : World) : Calls Try.prog 42 #[t.val] w fun e w' => e = .returned (.int .i64 (1 + rnd t.i 8 : Nat)) ∧ w' = t.copy w := by
  obtain ⟨k, n, i, pa, pc, p⟩ := t
  have hlt := rnd_lt i 8 (by omega)
  have HC := fun w => round_any i 8 w (by omega) (by omega)
  unfold Th.val Th.copy
  simp only at hlt ⊢
  generalize rnd i 8 = r at *
  go_enter Try.func42, Try.ntmps42
  go_wp2_with (first | (go_at_call 11; refine (HC _).mono ?_; rintro e w' ⟨rfl, rfl⟩))
  go_ret
  exact ⟨ret_int (by simp), rfl⟩
end Go.Proofs.Ytiabhgkndejigab
