/- A text of the base. -/
import Derived.Test.YtfhfkpgfnlmfhaaGreatDoorPkS
import Derived.Test.YtfhfkpgfnlmfhaaGreatDoorPkBE
import Derived.Deep.RegionHeld3
/- The document's reader in memory; whether it is dead, what is left, the next bytes. -/
namespace Go.Proofs.YtfhfkpgfnlmfhaaGreatDoor
open Go.RowKit

/-- In w the document's reader lies at block c: its bytes ps, its place at', the ends es, its fault fa. -/
structure Qm (w : World) (c : Nat) (pv ev : Value) (ps : List Nat) (at' : Nat) (es : List Nat) (fa : Nat) : Prop where
  blk : Blk w c #[pv, .int .i64 (at' : Int), ev, .int .i64 (fa : Int)] 84
  see : Sees w pv ps
  eown : w.ownsRow 0 3 1 ev es.length (i64s es)
  n1 : pv.ownBlock ≠ some c
  n2 : ev.ownBlock ≠ some c
  n3 : ∀ k, pv.ownBlock = some k → ev.ownBlock ≠ some k
  bl : ps.length ≤ 140737488355328
  b17 : es.length ≤ 17
  bat : at' ≤ ps.length
  bes : ∀ x ∈ es, x ≤ ps.length
def qfoot (c : Nat) (pv ev : Value) : List Nat := c :: (pv.ownBlock.toList ++ ev.ownBlock.toList)

theorem Qm.kept {F : List Nat} {w w' : World} {c : Nat} {pv ev : Value} {ps : List Nat} {at' : Nat} {es : List Nat} {fa : Nat} (h : Qm w c pv ev ps at' es fa) (k : Kept F w w') (hd : ∀ x ∈ qfoot c pv ev, x ∉ F) : Qm w' c pv ev ps at' es fa :=
  ⟨h.blk.kept k (hd c (by simp [qfoot])), h.see.kept k (fun x hx => hd x (by simp [qfoot, hx])), own_kept h.eown k (fun x hx => hd x (by simp [qfoot, hx])), h.n1, h.n2, h.n3, h.bl, h.b17, h.bat, h.bes⟩
theorem Qm.lt {w : World} {c : Nat} {pv ev : Value} {ps : List Nat} {at' : Nat} {es : List Nat} {fa : Nat} (h : Qm w c pv ev ps at' es fa) : ∀ x ∈ qfoot c pv ev, x < w.heap.size := by
  intro x hx
  simp [qfoot] at hx
  rcases hx with rfl | hx | hx
  · exact h.blk.lt
  · exact h.see.lt hx
  · exact (h.eown.lt x hx).2
theorem Qm.place {w : World} {c : Nat} {pv ev : Value} {ps : List Nat} {at' : Nat} {es : List Nat} {fa : Nat} (h : Qm w c pv ev ps at' es fa) (a : Nat) (ha : a ≤ ps.length) :
    Qm (w.setCell ⟨c, 1, none⟩ (.int .i64 (a : Int))) c pv ev ps a es fa ∧ Kept [c] w (w.setCell ⟨c, 1, none⟩ (.int .i64 (a : Int))) := by
  have kk : Kept [c] w (w.setCell ⟨c, 1, none⟩ (.int .i64 (a : Int))) := (Kept.refl _ _).setCell (Or.inl (by simp)) _
  refine ⟨⟨by simpa using h.blk.set 1 (.int .i64 (a : Int)), h.see.kept kk (fun k hk => ?_), own_kept h.eown kk (fun k hk => ?_), h.n1, h.n2, h.n3, h.bl, h.b17, ha, h.bes⟩, kk⟩
  · simp; intro e; exact h.n1 (by rw [hk, e])
  · simp; intro e; exact h.n2 (by rw [hk, e])
theorem Qm.fail {w : World} {c : Nat} {pv ev : Value} {ps : List Nat} {at' : Nat} {es : List Nat} {fa : Nat} (h : Qm w c pv ev ps at' es fa) (f : Nat) :
    Qm (w.setCell ⟨c, 3, none⟩ (.int .i64 (f : Int))) c pv ev ps at' es f ∧ Kept [c] w (w.setCell ⟨c, 3, none⟩ (.int .i64 (f : Int))) := by
  have kk : Kept [c] w (w.setCell ⟨c, 3, none⟩ (.int .i64 (f : Int))) := (Kept.refl _ _).setCell (Or.inl (by simp)) _
  refine ⟨⟨by simpa using h.blk.set 3 (.int .i64 (f : Int)), h.see.kept kk (fun k hk => ?_), own_kept h.eown kk (fun k hk => ?_), h.n1, h.n2, h.n3, h.bl, h.b17, h.bat, h.bes⟩, kk⟩
  · simp; intro e; exact h.n1 (by rw [hk, e])
  · simp; intro e; exact h.n2 (by rw [hk, e])
theorem Qm.quiet {w w' : World} {c : Nat} {pv ev : Value} {ps : List Nat} {at' : Nat} {es : List Nat} {fa : Nat} (h : Qm w c pv ev ps at' es fa) (q : Quiet w w') : Qm w' c pv ev ps at' es fa := h.kept q.kept (by simp)

/-- Where it ends. -/
theorem Qm.end {w : World} {c : Nat} {pv ev : Value} {ps : List Nat} {at' : Nat} {es : List Nat} {fa : Nat} (h : Qm w c pv ev ps at' es fa) {i x : Nat} (hi : es[i]? = some x) :
    ∃ g cap, ev = .slice (some ⟨g, 0, none⟩) es.length cap ∧ w.cell? ⟨g, i, none⟩ = some (.int .i64 (x : Int)) := by
  rcases h.eown.2 with ⟨e1, e2⟩ | ⟨g, cap', cur, e1, hg, hh, r⟩
  · have hi := (List.getElem?_eq_some_iff.1 hi).1
    omega
  · have := h.eown.cells (g := g) (by rw [e1]; rfl) i (.int .i64 (x : Int)) (by simp [i64s, hi])
    have hadd : (⟨g, 0, none⟩ : Addr).add i = ⟨g, i, none⟩ := by unfold Addr.add; split <;> simp_all
    rw [hadd] at this
    exact ⟨g, cap', e1, this⟩

set_option maxRecDepth 100000 in
set_option maxHeartbeats 400000 in
theorem qdead_no {w : World} {c : Nat} {pv ev : Value} {ps : List Nat} {at' : Nat} {es : List Nat} (h : Qm w c pv ev ps at' es 0) :
    Calls Tryz.prog 50 #[.pointer (some ⟨c, 0, none⟩)] w fun e w' => e = .returned (.bool false) ∧ w = w' := by
  obtain ⟨c0, c1, c2, c3⟩ := blk4 h.blk
  clear h
  go_enter Tryz.func50, Tryz.ntmps50
  go_wp2
  go_ret
  exact ⟨rfl, rfl⟩
set_option maxRecDepth 100000 in
set_option maxHeartbeats 400000 in
theorem qdead_yes {w : World} {c : Nat} {pv ev : Value} {ps : List Nat} {at' : Nat} {es : List Nat} {fa : Nat} (h : Qm w c pv ev ps at' es fa) (hf : fa ≠ 0) :
    Calls Tryz.prog 50 #[.pointer (some ⟨c, 0, none⟩)] w fun e w' => e = .returned (.bool true) ∧ w = w' := by
  obtain ⟨c0, c1, c2, c3⟩ := blk4 h.blk
  have hn : ((fa : Int) != 0) = true := by rw [bne_iff_ne]; omega
  clear h hf
  go_enter Tryz.func50, Tryz.ntmps50
  go_wp2
  go_ret
  exact ⟨rfl, rfl⟩
set_option maxRecDepth 100000 in
set_option maxHeartbeats 400000 in
theorem qdead_nil (w : World) : Calls Tryz.prog 50 #[.pointer none] w fun e w' => e = .returned (.bool true) ∧ w = w' := by
  go_enter Tryz.func50, Tryz.ntmps50
  go_wp2
  go_ret
  exact ⟨rfl, rfl⟩

set_option maxRecDepth 100000 in
set_option maxHeartbeats 400000 in
theorem qleft_any {w : World} {c : Nat} {pv ev : Value} {ps : List Nat} {at' : Nat} {es : List Nat} {fa : Nat} (h : Qm w c pv ev ps at' es fa) (m x : Nat) (hm : es.length = m + 1) (hx : es[m]? = some x) :
    Calls Tryz.prog 76 #[.pointer (some ⟨c, 0, none⟩)] w fun e w' => e = .returned (.int .i64 ((x : Int) - (at' : Int))) ∧ Quiet w w' := by
  obtain ⟨c0, c1, c2, c3⟩ := blk4 h.blk
  obtain ⟨g, cap, rfl, ce⟩ := h.end hx
  have hb := h.bat
  have h17 := h.b17
  have hbl := h.bl
  have hxb := h.bes x (List.mem_of_getElem? hx)
  rw [hm] at c2 h17
  obtain ⟨N, hN⟩ : ∃ N, m + 1 = N := ⟨_, rfl⟩
  rw [hN] at c2 h17
  have w1 : IntKind.i64.wrap ((N : Int) - 1) = (m : Int) := by rw [IntKind.wrap_i64]; omega
  have hmN : m < N := by omega
  clear h hm hx hN
  go_enter Tryz.func76, Tryz.ntmps76
  go_wp2
  go_quiet (fail)
  go_wp2
  go_ret
  exact ⟨rfl, (Quiet.refl _).drewN _⟩
end Go.Proofs.YtfhfkpgfnlmfhaaGreatDoor
