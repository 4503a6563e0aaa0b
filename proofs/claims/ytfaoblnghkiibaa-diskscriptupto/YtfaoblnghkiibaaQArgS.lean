/- A script that came in, not too long. -/
import Derived.Test.YtfaoblnghkiibaaQArg
import Derived.Test.YtfaoblnghkiibaaQScr
namespace Go.Proofs.Ytfaoblnghkiibaa
open Go.ChangeShapes Go.WideShapes Go.ChangeAt Go.RowKit

theorem bulk_mem {H : Type} {d : DataW H} : ∀ {l : List (DataW H)}, d ∈ l → Rows.uptoBulk d ≤ Rows.uptoBulkAll l
  | [], h => by simp at h
  | x :: r, h => by
    simp only [Rows.uptoBulkAll]
    rcases List.mem_cons.1 h with rfl | h
    · omega
    · have := bulk_mem h
      omega
theorem open_bools2 {H : Type} {enc : TypeId × Value → H} {W : World} {k : Nat} {cs : List Value} {x : DataW H × List MemPlace} (h : DataW.trod enc Try.prog W 0 (fun _ => true) true k 39 cs = some x) :
    ∃ a n cap bs, cs = [.slice a n cap] ∧ SeesB W (.slice a n cap) bs ∧ bs.length = n ∧ n ≤ Rows.uptoBulk x.1 := by
  obtain ⟨a0, n0, cap0, bs, e0, s0, l0⟩ := open_bools h
  refine ⟨a0, n0, cap0, bs, e0, s0, l0, ?_⟩
  rcases Go.Deep.open_slice1 Try.underlying39 cells4 h with ⟨rfl, _⟩ | ⟨a, len, cap, m, n, V, D, Pl, rfl, _, hl, hm, hmm, rfl, hall⟩
  · simp at e0
    omega
  · simp at e0
    obtain ⟨-, rfl, -⟩ := e0
    have := bulk_len ((List.range len).map D)
    simp only [List.length_map, List.length_range] at this
    simp only [Rows.uptoBulk]
    omega
theorem trod_sevenB {H : Type} {enc : TypeId × Value → H} {P : Program} {w : World} {base : Nat} {spare : Nat → Bool} {held : Bool} {t : TypeId} {f0 f1 f2 f3 f4 f5 f6 : Field} {fuel : Nat} {cs : List Value} {x : DataW H × List MemPlace} (ht : P.underlying t = some (.struct #[f0, f1, f2, f3, f4, f5, f6])) (h : DataW.trod enc P w base spare held fuel t cs = some x) :
    ∃ y0 y1 y2 y3 y4 y5 y6 n, x.1 = .agg [y0.1, y1.1, y2.1, y3.1, y4.1, y5.1, y6.1] ∧ cs.length = P.cellsOf t ∧ DataW.trod enc P w base spare held n f0.type ((cs.drop f0.offset).take (P.cellsOf f0.type)) = some y0 ∧
      DataW.trod enc P w base spare held n f1.type ((cs.drop f1.offset).take (P.cellsOf f1.type)) = some y1 ∧ DataW.trod enc P w base spare held n f2.type ((cs.drop f2.offset).take (P.cellsOf f2.type)) = some y2 ∧
      DataW.trod enc P w base spare held n f3.type ((cs.drop f3.offset).take (P.cellsOf f3.type)) = some y3 ∧ DataW.trod enc P w base spare held n f4.type ((cs.drop f4.offset).take (P.cellsOf f4.type)) = some y4 ∧
      DataW.trod enc P w base spare held n f5.type ((cs.drop f5.offset).take (P.cellsOf f5.type)) = some y5 ∧ DataW.trod enc P w base spare held n f6.type ((cs.drop f6.offset).take (P.cellsOf f6.type)) = some y6 := by
  obtain ⟨xs, n, _, rfl, hl, hlen, hf⟩ := DataW.trod_struct ht h
  match xs, hlen with
  | [y0, y1, y2, y3, y4, y5, y6], _ => exact ⟨y0, y1, y2, y3, y4, y5, y6, n, by simp, hl, by simpa using hf 0 f0 rfl, by simpa using hf 1 f1 rfl, by simpa using hf 2 f2 rfl, by simpa using hf 3 f3 rfl, by simpa using hf 4 f4 rfl, by simpa using hf 5 f5 rfl, by simpa using hf 6 f6 rfl⟩
theorem open_op2 {H : Type} {enc : TypeId × Value → H} {W : World} {k : Nat} {cs : List Value} {x : DataW H × List MemPlace} (h : DataW.trod enc Try.prog W 0 (fun _ => true) true k 41 cs = some x) (hb : Rows.uptoBulk x.1 ≤ 1048576) :
    ∃ o : OpM, cs = oc o ∧ Op2 W o := by
  obtain ⟨y0, y1, y2, y3, y4, y5, y6, n, hx, hl, h0, h1, h2, h3, h4, h5, h6⟩ := trod_sevenB Try.underlying41 h
  rw [cells41] at hl
  obtain ⟨c0, c1, c2, c3, c4, c5, c6, rfl⟩ := list_seven cs hl
  rw [cells3] at h0 h1 h2 h5 h6
  rw [cells22] at h3
  rw [cells39] at h4
  obtain ⟨x0, e0, -, w0⟩ := DataW.trod_int Try.underlying3 h0
  obtain ⟨x1, e1, -, w1⟩ := DataW.trod_int Try.underlying3 h1
  obtain ⟨x2, e2, -, w2⟩ := DataW.trod_int Try.underlying3 h2
  obtain ⟨x5, e5, -, w5⟩ := DataW.trod_int Try.underlying3 h5
  obtain ⟨x6, e6, -, w6⟩ := DataW.trod_int Try.underlying3 h6
  obtain ⟨a3, n3, p3, bs3, e3, s3, l3, m3⟩ := open_bytes h3
  obtain ⟨a4, n4, p4, bs4, e4, s4, l4, m4⟩ := open_bools2 h4
  have e0' : c0 = .int .i64 x0 := by simpa using e0
  have e1' : c1 = .int .i64 x1 := by simpa using e1
  have e2' : c2 = .int .i64 x2 := by simpa using e2
  have e3' : c3 = .slice a3 n3 p3 := by simpa using e3
  have e4' : c4 = .slice a4 n4 p4 := by simpa using e4
  have e5' : c5 = .int .i64 x5 := by simpa using e5
  have e6' : c6 = .int .i64 x6 := by simpa using e6
  have b2 := bounds_i64 w2
  have hb3 : Rows.uptoBulk y3.1 ≤ 1048576 ∧ Rows.uptoBulk y4.1 ≤ 1048576 := by
    have q3 := bulk_mem (d := y3.1) (l := [y0.1, y1.1, y2.1, y3.1, y4.1, y5.1, y6.1]) (by simp)
    have q4 := bulk_mem (d := y4.1) (l := [y0.1, y1.1, y2.1, y3.1, y4.1, y5.1, y6.1]) (by simp)
    rw [hx] at hb
    simp only [Rows.uptoBulk] at hb
    omega
  refine ⟨⟨x0, x1, x2, .slice a3 n3 p3, bs3, .slice a4 n4 p4, bs4, x5, x6⟩, by rw [e0', e1', e2', e3', e4', e5', e6']; rfl, ⟨⟨s3, s4, by simp only; omega, fun v hv => ?_⟩, by simp only; omega, by simp only; omega⟩⟩
  simp [oc] at hv
  rcases hv with rfl | rfl | rfl | rfl | rfl | rfl | rfl <;> rfl
theorem open_ops2 {H : Type} {enc : TypeId × Value → H} {W : World} {k : Nat} {cs : List Value} {x : DataW H × List MemPlace} (h : DataW.trod enc Try.prog W 0 (fun _ => true) true k 23 cs = some x) (hb : Rows.uptoBulk x.1 ≤ 1048576) :
    ∃ a n cap os, cs = [.slice a n cap] ∧ Ops2 W (.slice a n cap) os ∧ os.length = n ∧ n ≤ Rows.uptoBulk x.1 := by
  rcases Go.Deep.open_slice Try.underlying23 h with ⟨rfl, _⟩ | ⟨a, len, cap, m, n, D, Pl, rfl, _, hl, hm, hmm, rfl, hall⟩
  · exact ⟨none, 0, 0, [], rfl, ⟨none, 0, rfl, by simp, fun k o ho => by simp at ho⟩, rfl, by omega⟩
  · have hmc : m = cap := by simpa using hmm
    subst hmc
    rw [cells41] at hall
    have hex : ∀ i, ∃ o : OpM, i < len → Op2 W o ∧ ∀ j v, (oc o)[j]? = some v → W.cell? ((a.add (i * 7)).add j) = some v := by
      intro i
      by_cases hi : i < len
      · obtain ⟨cs', h1, h2⟩ := hall i (by omega)
        have hbi : Rows.uptoBulk (D i) ≤ 1048576 := by
          have := bulk_mem (d := D i) (l := (List.range len).map D) (List.mem_map.2 ⟨i, by simpa using hi, rfl⟩)
          simp only [Rows.uptoBulk] at hb
          omega
        obtain ⟨o, h3, h4⟩ := open_op2 h2 hbi
        obtain ⟨_, h5, h6⟩ := World.cells?_some h1
        refine ⟨o, fun _ => ⟨h4, fun j v hv => ?_⟩⟩
        have hj : j < 7 := by have := (List.getElem?_eq_some_iff.1 hv).1; simpa [oc] using this
        have h7 := h6 j hj
        rw [h3] at h7
        rw [h7]; exact hv
      · exact ⟨⟨0, 0, 0, .slice none 0 0, [], .slice none 0 0, [], 0, 0⟩, fun h => absurd h hi⟩
    obtain ⟨f, hf⟩ := Classical.axiomOfChoice hex
    have hlen : ((List.range len).map f).length = len := by simp
    refine ⟨some a, len, m, (List.range len).map f, rfl, ⟨some a, m, by rw [hlen], by rw [hlen]; unfold maxLen at hm; omega, fun j o ho => ?_⟩, hlen, ?_⟩
    · have hj : j < len := by have := (List.getElem?_eq_some_iff.1 ho).1; simpa using this
      simp [hj] at ho
      subst ho
      obtain ⟨h1, h2⟩ := hf j hj
      have hc := h2 0 (.int .i64 (f j).who) rfl
      have hsp : a.spot = none := by
        have hc0 := (hf 0 (by omega)).2 0 (.int .i64 (f 0).who) rfl
        have e0 : (a.add (0 * 7)).add 0 = a := by simp [Addr.add]
        rw [e0] at hc0
        exact World.cell?_spot hc0
      obtain ⟨b, off, sp⟩ := a
      simp only at hsp
      subst hsp
      have hbl : b < W.heap.size := by
        rw [add_plain, add_plain] at hc
        exact World.block_lt_of_cell? W _ hc
      refine ⟨h1, b, off, rfl, hbl, fun i v hv => ?_⟩
      have := h2 i v hv
      rwa [add_plain, add_plain] at this
    · have := bulk_len ((List.range len).map D)
      simp only [List.length_map, List.length_range] at this
      simp only [Rows.uptoBulk]
      omega
end Go.Proofs.Ytfaoblnghkiibaa
