/- A row that was lent, and its twin. -/
import Derived.Test.YtigmofbammofbaaKValM
namespace Go.Proofs.Ytigmofbammofbaa
open Go.RowKit

/-- a row at two addresses: the values alike but for their lists, which are twins -/
def AtK (S : Nat → Prop) (w : World) : Row → Nat → Nat → Nat → Nat → Prop
  | .nil, _, _, _, _ => True
  | .cons h p r, b, off, c, of2 => (h.ok ∧ ∃ tv pv qv, Cells7 w b off h tv pv ∧ Cells7 w c of2 h tv qv ∧ LentIn S w tv h.text ∧
      ∃ b' cap c' cap', pv = .slice (some ⟨b', 0, none⟩) p.len cap ∧ p.len + 1 ≤ cap ∧ cap ≤ maxLen ∧ b' < w.heap.size ∧ S b' ∧ w.cell? ⟨b', p.len * 7, none⟩ = some (.int .i64 (-99)) ∧
        qv = .slice (some ⟨c', 0, none⟩) p.len cap' ∧ p.len ≤ cap' ∧ cap' ≤ maxLen ∧ c' < w.heap.size ∧ S c' ∧ AtK S w p b' 0 c' 0) ∧ AtK S w r b (off + 7) c (of2 + 7)
/-- the slice v was lent as the row r, the slice u is its twin -/
def RowK (S : Nat → Prop) (w : World) (v u : Value) (r : Row) : Prop :=
  ∃ b cap c cap', v = .slice (some ⟨b, 0, none⟩) r.len cap ∧ r.len + 1 ≤ cap ∧ cap ≤ maxLen ∧ b < w.heap.size ∧ S b ∧ w.cell? ⟨b, r.len * 7, none⟩ = some (.int .i64 (-99)) ∧
    u = .slice (some ⟨c, 0, none⟩) r.len cap' ∧ r.len ≤ cap' ∧ cap' ≤ maxLen ∧ c < w.heap.size ∧ S c ∧ AtK S w r b 0 c 0
theorem AtK_cons {S : Nat → Prop} {w : World} {h : Hd} {p r : Row} {b off c of2 : Nat} : AtK S w (.cons h p r) b off c of2 ↔ (h.ok ∧ ∃ tv pv qv, Cells7 w b off h tv pv ∧ Cells7 w c of2 h tv qv ∧ LentIn S w tv h.text ∧ RowK S w pv qv p) ∧ AtK S w r b (off + 7) c (of2 + 7) := Iff.rfl
theorem AtK.kept {S : Nat → Prop} {F : List Nat} {w w' : World} (hk : Kept F w w') (hS : ∀ x ∈ F, ¬ S x) {r : Row} {b off c of2 : Nat} (h : AtK S w r b off c of2) (hb : b < w.heap.size) (hn : b ∉ F) (hc : c < w.heap.size) (hm : c ∉ F) : AtK S w' r b off c of2 := by
  induction r generalizing b off c of2 with
  | nil => trivial
  | cons x p r ihp ihr =>
    obtain ⟨⟨h0, tv, pv, qv, hce, hcq, ht, b', cap, c', cap', hv, h1, h2, h3, h4, h5, hq, q1, q2, q3, q4, h6⟩, hr⟩ := h
    have hn' : b' ∉ F := fun hm => hS b' hm h4
    have hm' : c' ∉ F := fun hm => hS c' hm q4
    exact ⟨⟨h0, tv, pv, qv, hce.kept hk hb hn, hcq.kept hk hc hm, ht.kept hk hS, b', cap, c', cap', hv, h1, h2, Nat.lt_of_lt_of_le h3 hk.size, h4, (hk.cell (p := ⟨b', _, none⟩) h3 hn').trans h5, hq, q1, q2, Nat.lt_of_lt_of_le q3 hk.size, q4, ihp h6 h3 hn' q3 hm'⟩, ihr hr hb hn hc hm⟩
theorem AtK.mono {S T : Nat → Prop} {w : World} (hS : ∀ x, x < w.heap.size → S x → T x) {r : Row} {b off c of2 : Nat} (h : AtK S w r b off c of2) : AtK T w r b off c of2 := by
  induction r generalizing b off c of2 with
  | nil => trivial
  | cons x p r ihp ihr =>
    obtain ⟨⟨h0, tv, pv, qv, hce, hcq, ht, b', cap, c', cap', hv, h1, h2, h3, h4, h5, hq, q1, q2, q3, q4, h6⟩, hr⟩ := h
    exact ⟨⟨h0, tv, pv, qv, hce, hcq, ht.mono hS, b', cap, c', cap', hv, h1, h2, h3, hS _ h3 h4, h5, hq, q1, q2, q3, hS _ q3 q4, ihp h6⟩, ihr hr⟩
theorem RowK.kept {S : Nat → Prop} {F : List Nat} {w w' : World} {v u : Value} {r : Row} (h : RowK S w v u r) (hk : Kept F w w') (hS : ∀ x ∈ F, ¬ S x) : RowK S w' v u r := by
  obtain ⟨b, cap, c, cap', hv, h1, h2, h3, h4, h5, hq, q1, q2, q3, q4, h6⟩ := h
  have hn : b ∉ F := fun hm => hS b hm h4
  have hm : c ∉ F := fun hm => hS c hm q4
  exact ⟨b, cap, c, cap', hv, h1, h2, Nat.lt_of_lt_of_le h3 hk.size, h4, (hk.cell (p := ⟨b, _, none⟩) h3 hn).trans h5, hq, q1, q2, Nat.lt_of_lt_of_le q3 hk.size, q4, h6.kept hk hS h3 hn q3 hm⟩
theorem RowK.mono {S T : Nat → Prop} {w : World} {v u : Value} {r : Row} (h : RowK S w v u r) (hS : ∀ x, x < w.heap.size → S x → T x) : RowK T w v u r := by
  obtain ⟨b, cap, c, cap', hv, h1, h2, h3, h4, h5, hq, q1, q2, q3, q4, h6⟩ := h
  exact ⟨b, cap, c, cap', hv, h1, h2, h3, hS _ h3 h4, h5, hq, q1, q2, q3, hS _ q3 q4, h6.mono hS⟩
theorem AtK.app {S : Nat → Prop} {w : World} {r s : Row} {b off c of2 : Nat} : AtK S w (r.app s) b off c of2 ↔ AtK S w r b off c of2 ∧ AtK S w s b (off + 7 * r.len) c (of2 + 7 * r.len) := by
  induction r generalizing off of2 with
  | nil => simp [Row.app, AtK, Row.len]
  | cons x p r _ ih =>
    simp only [Row.app, Row.len]
    rw [AtK_cons, AtK_cons, ih, show off + 7 * (r.len + 1) = off + 7 + 7 * r.len by omega, show of2 + 7 * (r.len + 1) = of2 + 7 + 7 * r.len by omega]
    simp only [and_assoc]

/-- an element whose list has a twin already: q -/
def setQ (e : El) (q : Value) : El := ⟨e.h, e.tv, q, e.p⟩
def ElK (S : Nat → Prop) (w : World) (x : El × Value) : Prop := x.1.h.ok ∧ LentIn S w x.1.tv x.1.h.text ∧ RowK S w x.1.pv x.2 x.1.p
theorem ElK.kept {S : Nat → Prop} {F : List Nat} {w w' : World} {x : El × Value} (h : ElK S w x) (hk : Kept F w w') (hS : ∀ x ∈ F, ¬ S x) : ElK S w' x := ⟨h.1, h.2.1.kept hk hS, h.2.2.kept hk hS⟩
theorem ElK.mono {S T : Nat → Prop} {w : World} {x : El × Value} (h : ElK S w x) (hS : ∀ x, x < w.heap.size → S x → T x) : ElK T w x := ⟨h.1, h.2.1.mono hS, h.2.2.mono hS⟩
def givenL (l : List (El × Value)) : List El := l.map (·.1)
def firstL (l : List (El × Value)) : List El := l.map fun x => setQ x.1 x.2
theorem atK_of_cells {S : Nat → Prop} {w : World} {b off c of2 : Nat} {l : List (El × Value)} (hb : ∀ j u, (flatE (givenL l))[j]? = some u → w.cell? ⟨b, off + j, none⟩ = some u) (hc : ∀ j u, (flatE (firstL l))[j]? = some u → w.cell? ⟨c, of2 + j, none⟩ = some u) (he : ∀ x ∈ l, ElK S w x) : AtK S w (rowE (givenL l)) b off c of2 := by
  induction l generalizing off of2 with
  | nil => trivial
  | cons x l ih =>
    have hf : flatE (givenL (x :: l)) = cellsV x.1.h x.1.tv x.1.pv ++ flatE (givenL l) := by simp [flatE, givenL]
    have hg : flatE (firstL (x :: l)) = cellsV x.1.h x.1.tv x.2 ++ flatE (firstL l) := by simp [flatE, firstL, setQ]
    rw [hf] at hb
    rw [hg] at hc
    obtain ⟨h1, h2, h3⟩ := he x (List.mem_cons_self ..)
    refine ⟨⟨h1, x.1.tv, x.1.pv, x.2, cells7_of hb, cells7_of hc, h2, h3⟩, ih ?_ ?_ (fun x hx => he x (List.mem_cons_of_mem _ hx))⟩
    · intro j u hj
      have := hb (7 + j) u (by rw [List.getElem?_append_right (by simp [cellsV])]; simpa [cellsV] using hj)
      rw [← Nat.add_assoc] at this
      exact this
    · intro j u hj
      have := hc (7 + j) u (by rw [List.getElem?_append_right (by simp [cellsV])]; simpa [cellsV] using hj)
      rw [← Nat.add_assoc] at this
      exact this
theorem rowE_given (l : List (El × Value)) : rowE (firstL l) = rowE (givenL l) := by
  induction l with
  | nil => rfl
  | cons x l ih => simp only [firstL, givenL, List.map_cons, rowE, setQ] at *; rw [ih]
theorem flat_set (d : List El) (e : El) (s : List El) (q : Value) : (flatE (d ++ e :: s)).set (d.length * 7 + 6) q = flatE (d ++ setQ e q :: s) := by
  rw [flatE_app, flatE_app, List.set_append_right _ _ (by rw [flatE_len]; omega), flatE_len, show d.length * 7 + 6 - d.length * 7 = 6 by omega]
  rfl
theorem ownV_set {w : World} {base n g cap : Nat} {xs : List Value} {t : TypeId} (h : w.ownsRow base t 7 (.slice (some ⟨g, 0, none⟩) n cap) n xs) (k : Nat) (u : Value) :
    (w.setCell ⟨g, k, none⟩ u).ownsRow base t 7 (.slice (some ⟨g, 0, none⟩) n cap) n (xs.set k u) := by
  refine ⟨by rw [List.length_set]; exact h.1, ?_⟩
  rcases h.2 with ⟨h1, _⟩ | ⟨g', cap', cur, hv, hb, hg, hc, hm, hs, ht⟩
  · cases h1
  · cases hv
    refine Or.inr ⟨g, cap, cur.setIfInBounds k u, rfl, hb, Blk.set hg k _, hc, hm, by simpa using hs, ?_⟩
    rw [← ht, Array.toList_setIfInBounds, List.take_set]
theorem ownV_cell {w : World} {base n g cap : Nat} {xs : List Value} {t : TypeId} (h : w.ownsRow base t 7 (.slice (some ⟨g, 0, none⟩) n cap) n xs) {k : Nat} {u : Value} (hk : xs[k]? = some u) : w.cell? ⟨g, k, none⟩ = some u := by
  have := h.cells (g := g) rfl k u hk
  rw [add_none, Nat.zero_add] at this
  exact this
theorem ownV_frozen {w : World} {base n g cap : Nat} {xs : List Value} {t : TypeId} (h : w.ownsRow base t 7 (.slice (some ⟨g, 0, none⟩) n cap) n xs) (k : Nat) : w.frozen? ⟨g, k, none⟩ = false := by
  rcases h.2 with ⟨h1, _⟩ | ⟨g', cap', cur, hv, hb, hg, _⟩
  · cases h1
  · cases hv
    exact Blk.frozen hg k
theorem ownV_new_nil (w : World) : (w.alloc (.cells #[] 54)).ownsRow w.heap.size 54 7 (.slice (some ⟨w.heap.size, 0, none⟩) 0 0) 0 (flatE []) := by
  refine ⟨by simp [flatE], Or.inr ⟨w.heap.size, 0, #[], rfl, Nat.le_refl _, heap_alloc_new w _, by simp, by simp [maxLen], by simp, by simp [flatE]⟩⟩
theorem ownV_some {w : World} {base n : Nat} {v : Value} {xs : List Value} {t : TypeId} (h : w.ownsRow base t 7 v n xs) (hv : v ≠ .slice none 0 0) : ∃ g cap, v = .slice (some ⟨g, 0, none⟩) n cap ∧ base ≤ g ∧ g < w.heap.size ∧ n ≤ cap ∧ cap ≤ maxLen := by
  rcases h.2 with ⟨h1, _⟩ | ⟨g, cap, cur, hv, hb, hg, hc, hm, _⟩
  · exact absurd h1 hv
  · exact ⟨g, cap, hv, hb, (Array.getElem?_eq_some_iff.1 hg).1, hc, hm⟩
end Go.Proofs.Ytigmofbammofbaa
