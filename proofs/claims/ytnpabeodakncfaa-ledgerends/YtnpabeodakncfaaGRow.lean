/- Rows of structs of integers of the call's own. -/
import Derived.Test.YtnpabeodakncfaaGSound
import Derived.Test.YtnpabeodakncfaaGInv
import Derived.Maps.AppendAt
namespace Go.Proofs.Ytnpabeodakncfaa
open Go.RowKit

def mc (m : Ml) : List Value := [.int .i64 m.kind, .int .i64 m.ep, .int .i64 m.fr, .int .i64 m.to]
theorem flat_len {α : Type} {ce : α → List Value} {kz : Nat} (hc : ∀ a, (ce a).length = kz) (l : List α) : (l.flatMap ce).length = l.length * kz := by
  induction l with
  | nil => simp
  | cons x r ih => rw [List.flatMap_cons, List.length_append, ih, hc, List.length_cons, Nat.add_mul]; omega
theorem flat_at' {α β : Type} (f : α → List β) (n : Nat) (hf : ∀ a, (f a).length = n) : ∀ (l : List α) (k : Nat) (a : α) (j : Nat), l[k]? = some a → j < n → (l.flatMap f)[k * n + j]? = (f a)[j]?
  | [], k, a, j, h, _ => by simp at h
  | x :: r, 0, a, j, h, hj => by
    simp at h
    subst h
    rw [List.flatMap_cons, List.getElem?_append_left (by rw [hf]; omega)]
    simp
  | x :: r, k + 1, a, j, h, hj => by
    have h' : r[k]? = some a := by simpa using h
    rw [List.flatMap_cons, List.getElem?_append_right (by rw [hf, Nat.add_mul]; omega), hf]
    have e : (k + 1) * n + j - n = k * n + j := by rw [Nat.add_mul]; omega
    rw [e]
    exact flat_at' f n hf r k a j h' hj
theorem own_at {α : Type} {ce : α → List Value} {kz : Nat} (hc : ∀ a, (ce a).length = kz) {w : World} {base : Nat} {e : TypeId} {v : Value} {l : List α} (h : w.ownsRow base e kz v l.length (l.flatMap ce)) {k : Nat} {a : α} (ha : l[k]? = some a) :
    ∃ g cap, v = .slice (some ⟨g, 0, none⟩) l.length cap ∧ base ≤ g ∧ g < w.heap.size ∧ w.rangeAt g (k * kz) (ce a) := by
  have hk : k < l.length := (List.getElem?_eq_some_iff.1 ha).1
  rcases h.2 with ⟨_, h0⟩ | ⟨g, cap, cur, hv, hg, hh, _, _, _, _⟩
  · omega
  · refine ⟨g, cap, hv, hg, (Array.getElem?_eq_some_iff.1 hh).1, fun j u hu => ?_⟩
    have hj : j < kz := by have := (List.getElem?_eq_some_iff.1 hu).1; rw [hc] at this; exact this
    have h2 := h.cells (g := g) (by rw [hv]; rfl) (k * kz + j) u (by rw [flat_at' ce kz hc l k a j ha hj]; exact hu)
    have hadd : (⟨g, 0, none⟩ : Addr).add (k * kz + j) = ⟨g, k * kz + j, none⟩ := by unfold Addr.add; split <;> simp_all
    rw [hadd] at h2
    exact h2
theorem own_row {α : Type} {ce : α → List Value} {kz : Nat} (hc : ∀ a, (ce a).length = kz) {w : World} {base : Nat} {e : TypeId} {v : Value} {l : List α} (h : w.ownsRow base e kz v l.length (l.flatMap ce)) (hl : l.length ≤ 9223372036854775807) : RowOf kz ce w v l := by
  obtain ⟨a, cap, hv⟩ := own_len h
  refine ⟨a, cap, hv, hl, fun k o ho => ?_⟩
  obtain ⟨g, cap', hv', _, hg, hr⟩ := own_at hc h ho
  rw [hv] at hv'
  cases hv'
  exact ⟨g, 0, rfl, hg, by rw [Nat.zero_add]; exact hr⟩
theorem flat_set3 (l : List Ld) {k : Nat} (hk : k < l.length) (x : Ld) : (l.set k x).flatMap lc = (((l.flatMap lc).set (k * 3) (.int .i64 x.ph)).set (k * 3 + 1) (.int .i64 x.ep)).set (k * 3 + 2) (.int .i64 x.pe) := by
  induction l generalizing k with
  | nil => simp at hk
  | cons y r ih =>
    cases k with
    | zero => rfl
    | succ k =>
      rw [List.set_cons_succ, List.flatMap_cons, List.flatMap_cons, ih (by simpa using hk)]
      show lc y ++ _ = List.set (List.set (List.set (_ :: _ :: _ :: r.flatMap lc) _ _) _ _) _ _
      rw [show (k + 1) * 3 = k * 3 + 1 + 1 + 1 by omega]
      rfl
theorem own_set3 {w : World} {base g cap : Nat} {l : List Ld} (h : w.ownsRow base 25 3 (.slice (some ⟨g, 0, none⟩) l.length cap) l.length (l.flatMap lc)) {k : Nat} (hk : k < l.length) (x : Ld) :
    (((w.setCell ⟨g, k * 3, none⟩ (.int .i64 x.ph)).setCell ⟨g, k * 3 + 1, none⟩ (.int .i64 x.ep)).setCell ⟨g, k * 3 + 2, none⟩ (.int .i64 x.pe)).ownsRow base 25 3 (.slice (some ⟨g, 0, none⟩) (l.set k x).length cap) (l.set k x).length ((l.set k x).flatMap lc) := by
  have hfl : ∀ a : Ld, (lc a).length = 3 := fun _ => rfl
  refine ⟨by rw [flat_len hfl], ?_⟩
  rcases h.2 with ⟨h0, _⟩ | ⟨g', cap', cur, hv, hg, hh, h1, h2, h3, h4⟩
  · cases h0
  · cases hv
    have hb : Blk w g cur 25 := hh
    have hb' := ((hb.set (k * 3) (.int .i64 x.ph)).set (k * 3 + 1) (.int .i64 x.ep)).set (k * 3 + 2) (.int .i64 x.pe)
    refine Or.inr ⟨g, cap, _, rfl, hg, hb', by simpa using h1, h2, by simpa using h3, ?_⟩
    rw [flat_set3 l hk, ← h4]
    simp only [Array.toList_setIfInBounds, List.length_set, List.take_set]
theorem own_frozen {w : World} {base g cap m n : Nat} {e : TypeId} {s : Nat} {xs : List Value} (h : w.ownsRow base e s (.slice (some ⟨g, 0, none⟩) m cap) n xs) (o : Nat) : w.frozen? ⟨g, o, none⟩ = false := by
  rcases h.2 with ⟨h0, _⟩ | ⟨g', cap', cur, hv, _, hh, _⟩
  · cases h0
  · cases hv
    exact Blk.frozen (cs := cur) (t := e) hh o

/-- the law's world in memory -/
structure Wd (w : World) (b : Nat) (rv sv : Value) (row : List Ld) (sent : List Ml) : Prop where
  blk : Blk w b #[rv, sv] 49
  ro : w.ownsRow 0 25 3 rv row.length (row.flatMap lc)
  so : w.ownsRow 0 79 4 sv sent.length (sent.flatMap mc)
theorem Wd.kept {w w' : World} {b : Nat} {rv sv : Value} {row : List Ld} {sent : List Ml} (h : Wd w b rv sv row sent) (hk : Kept [] w w') : Wd w' b rv sv row sent := ⟨h.blk.kept hk (by simp), own_kept h.ro hk (by simp), own_kept h.so hk (by simp)⟩
theorem blk_type {w : World} {b : Nat} {c d : Array Value} {t u : TypeId} (h : Blk w b c t) (k : Blk w b d u) : t = u := by
  unfold Blk at h k; rw [h] at k; cases k; rfl
theorem Wd.nr {w : World} {b : Nat} {rv sv : Value} {row : List Ld} {sent : List Ml} (h : Wd w b rv sv row sent) : rv.ownBlock ≠ some b := by
  intro he
  rcases h.ro.2 with ⟨h1, _⟩ | ⟨g, cap, cur, hv, _, hg, _⟩
  · rw [h1] at he; cases he
  · rw [hv] at he; cases he
    exact absurd (blk_type hg h.blk) (by decide)
theorem Wd.ns {w : World} {b : Nat} {rv sv : Value} {row : List Ld} {sent : List Ml} (h : Wd w b rv sv row sent) : sv.ownBlock ≠ some b := by
  intro he
  rcases h.so.2 with ⟨h1, _⟩ | ⟨g, cap, cur, hv, _, hg, _⟩
  · rw [h1] at he; cases he
  · rw [hv] at he; cases he
    exact absurd (blk_type hg h.blk) (by decide)
theorem Wd.rs {w : World} {b : Nat} {rv sv : Value} {row : List Ld} {sent : List Ml} (h : Wd w b rv sv row sent) {g : Nat} (h1 : rv.ownBlock = some g) : sv.ownBlock ≠ some g := by
  intro h2
  rcases h.ro.2 with ⟨h3, _⟩ | ⟨g1, cap, cur, hv, _, hg, _⟩
  · rw [h3] at h1; cases h1
  · rw [hv] at h1; cases h1
    rcases h.so.2 with ⟨h3, _⟩ | ⟨g2, cap2, cur2, hv2, _, hg2, _⟩
    · rw [h3] at h2; cases h2
    · rw [hv2] at h2; cases h2
      exact absurd (blk_type (show Blk w g1 cur 25 from hg) (show Blk w g1 cur2 79 from hg2)) (by decide)
end Go.Proofs.Ytnpabeodakncfaa
