/- place; New, a sketch or none. -/
import Derived.Test.YtgiifedljebclaaDFam
import Derived.Test.YtgiifedljebclaaRLaw
namespace Go.Proofs.Ytgiifedljebclaa.flo
open Go.RowKit ref

theorem _root_.Go.Proofs.Ytgiifedljebclaa.Kept.step {F : List Nat} {a b c : World} (h : Kept F a b) (k : Kept [] b c) : Kept F a c := h.trans k (fun _ hx => by cases hx)
theorem ret_int {a b : Int} (h : a = b) : Ending.returned (.int .i64 a) = Ending.returned (.int .i64 b) := by rw [h]
def plN (x : Int) (n : Nat) : Nat := (x % (n : Int)).toNat
theorem plN_lt (x : Int) {n : Nat} (hn : 0 < n) : plN x n < n := by
  unfold plN
  have a := Int.emod_nonneg x (b := (n : Int)) (by omega)
  have b := Int.emod_lt_of_pos x (b := (n : Int)) (by omega)
  omega
theorem tmod_emod (x : Int) (n : Nat) (hn : 0 < n) : (if Int.tmod x n < 0 then Int.tmod x n + n else Int.tmod x n) = x % n := by
  have h1 := Int.tmod_def x n
  have h2 := Int.emod_def x n
  rcases Int.le_total 0 x with h | h
  · rw [Int.tmod_eq_emod_of_nonneg h, if_neg (by have := Int.emod_nonneg x (b := (n : Int)) (by omega); omega)]
  · have e := Int.tmod_eq_emod (a := x) (b := (n : Int))
    have a := Int.emod_nonneg x (b := (n : Int)) (by omega)
    have b := Int.emod_lt_of_pos x (b := (n : Int)) (by omega)
    split at e <;> split <;> simp at e <;> omega
set_option maxRecDepth 100000 in
theorem lplace_any (w : World) (x : Int) (n : Nat) (hn : 0 < n) (h8 : n ≤ 4398046511200) : Calls Try.prog 11 #[.int .i64 x, .int .i64 (n : Int)] w fun e w' => e = .returned (.int .i64 (plN x n : Int)) ∧ w' = w := by
  have hne : ((n : Int) == 0) = false := by simp; omega
  have hne' : ¬ (n : Int) = 0 := by omega
  have hb := tmod_emod x n hn
  have a := Int.emod_nonneg x (b := (n : Int)) (by omega)
  have b := Int.emod_lt_of_pos x (b := (n : Int)) (by omega)
  have hp : (plN x n : Int) = x % n := by unfold plN; omega
  rw [hp]
  have hw : IntKind.i64.wrap (Int.tmod x n) = Int.tmod x n := by
    rw [IntKind.wrap_i64]
    split at hb <;> omega
  have hw2 : Int.tmod x n < 0 → IntKind.i64.wrap (Int.tmod x n + n) = Int.tmod x n + n := by
    intro q
    rw [if_pos q] at hb
    rw [IntKind.wrap_i64]; omega
  go_enter Try.func11, Try.ntmps11
  go_wp2_with fail
  · rename_i q
    go_ret
    rw [if_pos q] at hb
    exact ⟨ret_int hb, rfl⟩
  · rename_i q
    go_ret
    rw [if_neg (by omega)] at hb
    exact ⟨ret_int hb, rfl⟩
/-- what New answers -/
def mkO (inv : Int) : Option Sd := if 2 ≤ inv ∧ inv ≤ 1024 then some ⟨inv.toNat, [], []⟩ else none
theorem mkO_good (L : Nat) (val : Nat → Nat) (code : Nat → Int) (inv : Int) : Og L val code 0 (mkO inv) := by
  intro s hs
  unfold mkO at hs
  split at hs
  · cases hs; exact ⟨Good.new (by omega) (by omega), Nat.le_refl _⟩
  · cases hs
theorem new_h (val : Nat → Nat) {w : World} (inv : Int) : Calls Try.prog 23 #[.int .i64 inv] w fun e w' => ∃ p F, e = .returned (.pointer p) ∧ Hp val w' (.pointer p) F (mkO inv) ∧ Kept [] w w' ∧ (∀ x ∈ F, w.heap.size ≤ x ∧ x < w'.heap.size) ∧ (p = none ↔ mkO inv = none) := by
  unfold mkO
  by_cases c : 2 ≤ inv ∧ inv ≤ 1024
  · simp only [if_pos c]
    obtain ⟨m, rfl⟩ : ∃ m : Nat, inv = (m : Int) := ⟨inv.toNat, by omega⟩
    refine (new_yes (inv := m) (by omega) (by omega)).mono fun e w' ⟨a, b, k⟩ => ⟨some ⟨w.heap.size, 0, none⟩, [w.heap.size], a, ⟨w.heap.size, .slice none 0 0, rfl, ?_, rfl⟩, k, fun x hx => ?_, by simp⟩
    · rw [Int.toNat_natCast]; exact b
    · simp at hx; subst hx; exact ⟨Nat.le_refl _, b.blk.lt⟩
  · simp only [if_neg c]
    exact (new_no (by omega)).mono fun e w' ⟨a, b⟩ => ⟨none, [], a, ⟨rfl, rfl⟩, b ▸ Kept.refl _ _, fun x hx => (by cases hx), by simp⟩
theorem rnew_h (code : Nat → Int) {w : World} (inv : Int) : Calls Try.prog 10 #[.int .i64 inv] w fun e w' => ∃ p F, e = .returned (.pointer p) ∧ Hq code w' (.pointer p) F (mkO inv) ∧ Kept [] w w' ∧ (∀ x ∈ F, w.heap.size ≤ x ∧ x < w'.heap.size) ∧ (p = none ↔ mkO inv = none) := by
  unfold mkO
  by_cases c : 2 ≤ inv ∧ inv ≤ 1024
  · simp only [if_pos c]
    obtain ⟨m, rfl⟩ : ∃ m : Nat, inv = (m : Int) := ⟨inv.toNat, by omega⟩
    refine (rnew_yes (inv := m) (by omega) (by omega)).mono fun e w' ⟨a, b, k⟩ => ⟨some ⟨w.heap.size, 0, none⟩, [w.heap.size], a, ⟨w.heap.size, .slice none 0 0, rfl, ?_, rfl⟩, k, fun x hx => ?_, by simp⟩
    · rw [Int.toNat_natCast]; exact b
    · simp at hx; subst hx; exact ⟨Nat.le_refl _, b.blk.lt⟩
  · simp only [if_neg c]
    exact (rnew_no (by omega)).mono fun e w' ⟨a, b⟩ => ⟨none, [], a, ⟨rfl, rfl⟩, b ▸ Kept.refl _ _, fun x hx => (by cases hx), by simp⟩
end Go.Proofs.Ytgiifedljebclaa.flo
