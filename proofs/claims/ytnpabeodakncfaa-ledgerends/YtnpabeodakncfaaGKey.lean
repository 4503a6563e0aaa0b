/- place, keyOf. -/
import Derived.Test.YtnpabeodakncfaaGRow
namespace Go.Proofs.Ytnpabeodakncfaa
open Go.RowKit

def plN (x : Int) (n : Nat) : Nat := (x % (n : Int)).toNat
theorem tmod_emod (x : Int) (n : Nat) (hn : 0 < n) : (if Int.tmod x n < 0 then Int.tmod x n + n else Int.tmod x n) = x % n := by
  have h1 := Int.tmod_def x n
  have h2 := Int.emod_def x n
  rcases Int.le_total 0 x with h | h
  · rw [Int.tmod_eq_emod_of_nonneg h, if_neg (by have := Int.emod_nonneg x (b := (n : Int)) (by omega); omega)]
  · have e := Int.tmod_eq_emod (a := x) (b := (n : Int))
    have a := Int.emod_nonneg x (b := (n : Int)) (by omega)
    have b := Int.emod_lt_of_pos x (b := (n : Int)) (by omega)
    split at e <;> split <;> simp at e <;> omega
set_option maxRecDepth 100000 in
theorem place_any (w : World) (x : Int) (n : Nat) (hn : 0 < n) (h8 : n ≤ 4398046511200) : Calls Try.prog 50 #[.int .i64 x, .int .i64 (n : Int)] w fun e w' => e = .returned (.int .i64 (plN x n : Int)) ∧ w' = w := by
  have hne : ((n : Int) == 0) = false := by simp; omega
  have hne' : ¬ (n : Int) = 0 := by omega
  have hb := tmod_emod x n hn
  have a := Int.emod_nonneg x (b := (n : Int)) (by omega)
  have b := Int.emod_lt_of_pos x (b := (n : Int)) (by omega)
  have hp : (plN x n : Int) = x % n := by unfold plN; omega
  rw [hp]
  have hw : IntKind.i64.wrap (Int.tmod x n) = Int.tmod x n := by
    rw [IntKind.wrap_i64]
    split at hb <;> omega
  have hw2 : Int.tmod x n < 0 → IntKind.i64.wrap (Int.tmod x n + n) = Int.tmod x n + n := by
    intro q
    rw [if_pos q] at hb
    rw [IntKind.wrap_i64]; omega
  go_enter Try.func50, Try.ntmps50
  go_wp2_with fail
  · rename_i q
    go_ret
    rw [if_pos q] at hb
    exact ⟨ret_int hb, rfl⟩
  · rename_i q
    go_ret
    rw [if_neg (by omega)] at hb
    exact ⟨ret_int hb, rfl⟩
def kyO (l : Ld) : Int := if l.ph = 1 then 2 * l.ep + 1 else 2 * l.ep
set_option maxRecDepth 100000 in
theorem keyOf_any (w : World) (l : Ld) (h : 0 ≤ l.ep ∧ l.ep ≤ 1073741824) : Calls Try.prog 51 #[lv l] w fun e w' => e = .returned (.int .i64 (kyO l)) ∧ Kept [] w w' := by
  have hw : IntKind.i64.wrap (2 * l.ep) = 2 * l.ep := by rw [IntKind.wrap_i64]; omega
  have hw1 : IntKind.i64.wrap (2 * l.ep + 1) = 2 * l.ep + 1 := by rw [IntKind.wrap_i64]; omega
  unfold lv
  go_enter Try.func51, Try.ntmps51
  go_wp2_with fail
  all_goals
    go_ret
    refine ⟨ret_int ?_, (Kept.refl _ _).alloc _⟩
    simp_all [kyO]
end Go.Proofs.Ytnpabeodakncfaa
