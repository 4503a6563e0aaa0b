/- How a round of TableMap ends: a row written over, a row gone, nothing changed. -/
import Derived.Test.YtkejpbfbpomjfaaCMapKZ
namespace Go.Proofs.Ytkejpbfbpomjfaa.tre
open Go.RowKit
set_option linter.unusedVariables false

theorem set_mem {α : Type} {l : List α} {i : Nat} {u y : α} (h : y ∈ l.set i u) : y = u ∨ y ∈ l := by
  rcases List.mem_or_eq_of_mem_set h with h | h
  · exact Or.inr h
  · exact Or.inl h
theorem end_put {w Z : World} {b j rc g q : Nat} {T : Tb} {R : List Me} {x : Me} {o : Opm} {oks ovs : Value} {rv : Int} (hm : Mm w Z b (nxt T o) (.slice (some ⟨g, 0, none⟩) j rc) R) (hi : MI T R) (hr : rfs T o = 0) (hw : wrs o = true) (hoa : OpAt w o oks ovs) (hq : R[q]? = some x) (hqk : x.key = o.key) (hn : R.length = j) (h3 : o.kind ≠ 3) (hd : dn T o = true) (hrv : (rvn T o : Int) = rv) :
    ∃ R', Mm w (((Z.setCell ⟨g, q * 3, none⟩ oks).setCell ⟨g, q * 3 + 1, none⟩ ovs).setCell ⟨g, q * 3 + 2, none⟩ (.int .i64 rv)) b (nxt T o) (.slice (some ⟨g, 0, none⟩) j rc) R' ∧ MI (nxt T o) R' ∧ R'.length = j := by
  have hu : upd x o (dn T o) (rvn T o) oks ovs = ⟨o.key, o.val, rv, oks, ovs⟩ := by unfold upd; rw [if_neg h3, hd, if_pos rfl, hrv]
  have hql : q < R.length := (List.getElem?_eq_some_iff.1 hq).1
  have hM := hi.write hr hw hoa.kb hoa.vb hq hqk oks ovs
  rw [hu] at hM
  obtain ⟨-, -, hk65, hv256, -⟩ := right_len hr
  refine ⟨R.set q ⟨o.key, o.val, rv, oks, ovs⟩, ?_, hM, by rw [List.length_set]; exact hn⟩
  refine hm.turn ?_ ?_ (fun r hr' => ?_)
  · exact (((Kept.refl [g] Z).setCell (p := ⟨g, q * 3, none⟩) (Or.inl (by simp)) _).setCell (p := ⟨g, q * 3 + 1, none⟩) (Or.inl (by simp)) _).setCell (p := ⟨g, q * 3 + 2, none⟩) (Or.inl (by simp)) _
  · have h := hm.r
    rw [← hn] at h
    have := own_set3 h hql ⟨o.key, o.val, rv, oks, ovs⟩
    rw [List.length_set, hn] at this
    rw [List.length_set, hn]
    exact this
  · rcases set_mem hr' with rfl | h
    · exact ⟨hoa.k, hoa.v, hk65, hv256⟩
    · exact hm.tx r h
theorem end_del {w Z : World} {b j rc g q : Nat} {T : Tb} {R : List Me} {x : Me} {o : Opm} {oks ovs : Value} (hm : Mm w Z b (nxt T o) (.slice (some ⟨g, 0, none⟩) j rc) R) (hi : MI T R) (hr : rfs T o = 0) (hw : wrs o = true) (hoa : OpAt w o oks ovs) (hq : R[q]? = some x) (hqk : x.key = o.key) (hn : R.length = j) (h3 : o.kind = 3) :
    ∃ R', Mm w (Z.setCell ⟨g, q * 3 + 2, none⟩ (.int .i64 0)) b (nxt T o) (.slice (some ⟨g, 0, none⟩) j rc) R' ∧ MI (nxt T o) R' ∧ R'.length = j := by
  have hu : upd x o (dn T o) (rvn T o) oks ovs = { x with rev := 0 } := by unfold upd; rw [if_pos h3]
  have hql : q < R.length := (List.getElem?_eq_some_iff.1 hq).1
  have hM := hi.write hr hw hoa.kb hoa.vb hq hqk oks ovs
  rw [hu] at hM
  refine ⟨R.set q { x with rev := 0 }, ?_, hM, by rw [List.length_set]; exact hn⟩
  refine hm.turn ?_ ?_ (fun r hr' => ?_)
  · exact (Kept.refl [g] Z).setCell (p := ⟨g, q * 3 + 2, none⟩) (Or.inl (by simp)) _
  · have h := hm.r
    rw [← hn] at h
    have := own_set1 h hq 0
    rw [List.length_set, hn] at this
    rw [List.length_set, hn]
    exact this
  · rcases set_mem hr' with rfl | h
    · exact hm.tx x (List.mem_of_getElem? hq)
    · exact hm.tx r h
theorem end_not {w Z : World} {b j rc g q : Nat} {T : Tb} {R : List Me} {x : Me} {o : Opm} {oks ovs : Value} (hm : Mm w Z b (nxt T o) (.slice (some ⟨g, 0, none⟩) j rc) R) (hi : MI T R) (hr : rfs T o = 0) (hw : wrs o = true) (hoa : OpAt w o oks ovs) (hq : R[q]? = some x) (hqk : x.key = o.key) (hn : R.length = j) (h3 : o.kind ≠ 3) (hd : dn T o = false) :
    ∃ R', Mm w Z b (nxt T o) (.slice (some ⟨g, 0, none⟩) j rc) R' ∧ MI (nxt T o) R' ∧ R'.length = j := by
  have hu : upd x o (dn T o) (rvn T o) oks ovs = x := by unfold upd; rw [if_neg h3, hd]; rfl
  have hM := hi.write hr hw hoa.kb hoa.vb hq hqk oks ovs
  rw [hu] at hM
  have hs : R.set q x = R := by
    refine List.ext_getElem? fun i => ?_
    rw [List.getElem?_set]
    split
    · rename_i e; subst e
      rw [hq, if_pos (List.getElem?_eq_some_iff.1 hq).1]
    · rfl
  rw [hs] at hM
  exact ⟨R, hm, hM, hn⟩
end Go.Proofs.Ytkejpbfbpomjfaa.tre
