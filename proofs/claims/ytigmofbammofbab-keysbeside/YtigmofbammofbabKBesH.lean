/- KeysBeside: the rows that begin with a row, and no others, have codes within its span. -/
import Derived.Test.YtigmofbammofbabKSpan
import Derived.Test.YtigmofbammofbabKJoin
namespace Go.Proofs.Ytigmofbammofbab
open Go.RowKit

theorem own_new_nilP {w1 : World} {B : Nat} (hB : B ≤ w1.heap.size) : (w1.alloc (.cells #[] 62)).ownsRow B 62 7 (.slice (some ⟨w1.heap.size, 0, none⟩) 0 0) 0 (flatP []) :=
  ⟨by simp [flatP], Or.inr ⟨w1.heap.size, 0, #[], rfl, hB, heap_alloc_new w1 _, by simp, by simp [maxLen], by simp, by simp [flatP]⟩⟩
theorem AtP_app {w : World} {r s : Row} {b off : Nat} : AtP w (r.app s) b off ↔ AtP w r b off ∧ AtP w s b (off + 7 * r.len) := by
  induction r generalizing off with
  | nil => simp [Row.app, AtP, Row.len]
  | cons x p r _ ih =>
    simp only [Row.app, Row.len]
    rw [AtP_cons, AtP_cons, ih, show off + 7 * (r.len + 1) = off + 7 + 7 * r.len by omega]
    simp only [and_assoc]
theorem RowP.take {w : World} {a : Option Addr} {n cap : Nat} {u : Row} (h : RowP w (.slice a n cap) u) (k : Nat) (hk : k ≤ u.len) : RowP w (.slice a k cap) (u.take k) := by
  obtain ⟨a', c', hv, h1, h2, h3⟩ := h
  cases hv
  have hl := Row.take_len k u hk
  have e := Row.take_drop k u
  refine ⟨_, _, by rw [hl], by rw [hl]; omega, h2, ?_⟩
  rcases h3 with h3 | ⟨b, off, rfl, h4, h6⟩
  · left
    subst h3
    cases k <;> rfl
  · rw [← e] at h6
    exact Or.inr ⟨b, off, rfl, h4, (AtP_app.1 h6).1⟩
theorem cnt_app (r s : Row) : cnt (r.app s) = cnt r + cnt s := by
  induction r with
  | nil => simp [Row.app, cnt]
  | cons h p r _ ih => simp only [Row.app, cnt, ih]; omega
theorem cnt_take (k : Nat) (u : Row) : cnt (u.take k) ≤ cnt u := by
  have h := congrArg cnt (Row.take_drop k u)
  rw [cnt_app] at h
  omega
theorem RowP.caps {w : World} {a : Option Addr} {n cap : Nat} {r : Row} (h : RowP w (.slice a n cap) r) : n ≤ cap ∧ cap ≤ 2 ^ 63 - 1 := by
  obtain ⟨a', c', hv, h1, h2, -⟩ := h
  cases hv
  exact ⟨h1, h2⟩
theorem joined_row {w : World} {ra rb : Row} {LU : Nat} (wB : World) (a2 : Option Addr) (c2 : Nat) (l1 l2 : List El) (x1 : rowE l1 = ra ∧ ∀ e ∈ l1, ElP w e) (x2 : rowE l2 = rb ∧ ∀ e ∈ l2, ElP w e) (o2 : wB.ownsRow w.heap.size 62 7 (.slice a2 LU c2) LU (flatP (l1 ++ l2))) (k2 : Kept [] w wB) (hN : ra.len + rb.len = LU) : RowP wB (.slice a2 LU c2) (ra.app rb) := by
  have h1 := rowE_len l1
  have h2 := rowE_len l2
  have h := rowP_own o2 (by rw [x1.1] at h1; rw [x2.1] at h2; rw [List.length_append]; omega) (fun e he => (List.mem_append.1 he).elim (x1.2 e) (x2.2 e)) k2
  rw [rowE_app, x1.1, x2.1] at h
  exact h
end Go.Proofs.Ytigmofbammofbab
