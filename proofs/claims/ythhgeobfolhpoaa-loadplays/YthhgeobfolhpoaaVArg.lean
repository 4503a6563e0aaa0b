/- Scripts and steps that came in. -/
import Derived.Test.YthhgeobfolhpoaaVMade
import Derived.ProofKit
import Derived.OpenShut
import Derived.SizedLaws
import Derived.Deep.Slices
import Derived.JoinedCond
import Derived.Test.YthhgeobfolhpoaaRows
namespace Go.Proofs.Ythhgeobfolhpoaa
open Go.ChangeShapes Go.WideShapes Go.ChangeAt Go.RowKit

theorem laidOut : laidOutB Try.prog = true := by kernel_rfl
theorem cells3 : Try.prog.cellsOf 3 = 1 := by kernel_rfl
theorem cellsU : Try.prog.cellsOf 34 = 1 := by kernel_rfl
theorem cellsOp : Try.prog.cellsOf 36 = 5 := by kernel_rfl
theorem add_plain (b off j : Nat) : (⟨b, off, none⟩ : Addr).add j = ⟨b, off + j, none⟩ := by unfold Addr.add; split <;> simp_all
theorem bulk_one {H : Type} (d : DataW H) : 1 ≤ Rows.uptoBulk d := by
  cases d with
  | lit l => cases l <;> simp [Rows.uptoBulk]
  | _ => simp [Rows.uptoBulk]
theorem bulk_len {H : Type} : ∀ l : List (DataW H), l.length ≤ Rows.uptoBulkAll l
  | [] => by simp [Rows.uptoBulkAll]
  | x :: r => by
    have h1 := bulk_one x
    have h2 := bulk_len r
    simp only [Rows.uptoBulkAll, List.length_cons]
    omega
theorem trod_five {H : Type} {enc : TypeId × Value → H} {P : Program} {w : World} {base : Nat} {spare : Nat → Bool} {held : Bool} {t : TypeId} {f0 f1 f2 f3 f4 : Field} {fuel : Nat} {cs : List Value} {x : DataW H × List MemPlace} (ht : P.underlying t = some (.struct #[f0, f1, f2, f3, f4])) (h : DataW.trod enc P w base spare held fuel t cs = some x) :
    ∃ y0 y1 y2 y3 y4 n, cs.length = P.cellsOf t ∧ DataW.trod enc P w base spare held n f0.type ((cs.drop f0.offset).take (P.cellsOf f0.type)) = some y0 ∧
      DataW.trod enc P w base spare held n f1.type ((cs.drop f1.offset).take (P.cellsOf f1.type)) = some y1 ∧ DataW.trod enc P w base spare held n f2.type ((cs.drop f2.offset).take (P.cellsOf f2.type)) = some y2 ∧
      DataW.trod enc P w base spare held n f3.type ((cs.drop f3.offset).take (P.cellsOf f3.type)) = some y3 ∧ DataW.trod enc P w base spare held n f4.type ((cs.drop f4.offset).take (P.cellsOf f4.type)) = some y4 := by
  obtain ⟨xs, n, _, rfl, hl, hlen, hf⟩ := DataW.trod_struct ht h
  match xs, hlen with
  | [y0, y1, y2, y3, y4], _ => exact ⟨y0, y1, y2, y3, y4, n, hl, by simpa using hf 0 f0 rfl, by simpa using hf 1 f1 rfl, by simpa using hf 2 f2 rfl, by simpa using hf 3 f3 rfl, by simpa using hf 4 f4 rfl⟩
theorem list_five (l : List Value) (h : l.length = 5) : ∃ a b c d e, l = [a, b, c, d, e] := by
  match l, h with
  | [a, b, c, d, e], _ => exact ⟨a, b, c, d, e, rfl⟩

theorem open_op {H : Type} {enc : TypeId × Value → H} {W : World} {k : Nat} {cs : List Value} {x : DataW H × List MemPlace} (h : DataW.trod enc Try.prog W 0 (fun _ => true) true k 36 cs = some x) :
    ∃ o : OpM, cs = oc o ∧ o.wt < 18446744073709551616 := by
  obtain ⟨y0, y1, y2, y3, y4, n, hl, h0, h1, h2, h3, h4⟩ := trod_five Try.underlying36 h
  rw [cellsOp] at hl
  obtain ⟨c0, c1, c2, c3, c4, rfl⟩ := list_five cs hl
  rw [cells3] at h0 h1 h2 h3
  rw [cellsU] at h4
  obtain ⟨x0, e0, -, w0⟩ := DataW.trod_int Try.underlying3 h0
  obtain ⟨x1, e1, -, w1⟩ := DataW.trod_int Try.underlying3 h1
  obtain ⟨x2, e2, -, w2⟩ := DataW.trod_int Try.underlying3 h2
  obtain ⟨x3, e3, -, w3⟩ := DataW.trod_int Try.underlying3 h3
  obtain ⟨x4, e4, -, w4⟩ := DataW.trod_int Try.underlying34 h4
  have e0' : c0 = .int .i64 x0 := by simpa using e0
  have e1' : c1 = .int .i64 x1 := by simpa using e1
  have e2' : c2 = .int .i64 x2 := by simpa using e2
  have e3' : c3 = .int .i64 x3 := by simpa using e3
  have e4' : c4 = .int .u64 x4 := by simpa using e4
  have b4 := bounds_u64 w4
  exact ⟨⟨x0, x1, x2, x3, x4.toNat⟩, by rw [e0', e1', e2', e3', e4']; simp only [oc]; rw [show ((x4.toNat : Nat) : Int) = x4 by omega], by show x4.toNat < _; omega⟩

theorem open_ops {H : Type} {enc : TypeId × Value → H} {W : World} {k : Nat} {cs : List Value} {x : DataW H × List MemPlace} (h : DataW.trod enc Try.prog W 0 (fun _ => true) true k 22 cs = some x) :
    ∃ a n cap os, cs = [.slice a n cap] ∧ Ops W (.slice a n cap) os ∧ os.length = n ∧ n ≤ Rows.uptoBulk x.1 := by
  rcases Go.Deep.open_slice Try.underlying22 h with ⟨rfl, _⟩ | ⟨a, len, cap, m, n, D, Pl, rfl, _, hl, hm, hmm, rfl, hall⟩
  · exact ⟨none, 0, 0, [], rfl, ⟨none, 0, rfl, by simp, fun k o ho => by simp at ho⟩, rfl, by omega⟩
  · have hmc : m = cap := by simpa using hmm
    subst hmc
    rw [cellsOp] at hall
    have hex : ∀ i, ∃ o : OpM, i < len → o.wt < 18446744073709551616 ∧ ∀ j v, (oc o)[j]? = some v → W.cell? ((a.add (i * 5)).add j) = some v := by
      intro i
      by_cases hi : i < len
      · obtain ⟨cs', h1, h2⟩ := hall i (by omega)
        obtain ⟨o, h3, h4⟩ := open_op h2
        obtain ⟨_, h5, h6⟩ := World.cells?_some h1
        refine ⟨o, fun _ => ⟨h4, fun j v hv => ?_⟩⟩
        have hj : j < 5 := by have := (List.getElem?_eq_some_iff.1 hv).1; simpa [oc] using this
        have h7 := h6 j hj
        rw [h3] at h7
        rw [h7]; exact hv
      · exact ⟨⟨0, 0, 0, 0, 0⟩, fun h => absurd h hi⟩
    obtain ⟨f, hf⟩ := Classical.axiomOfChoice hex
    have hlen : ((List.range len).map f).length = len := by simp
    refine ⟨some a, len, m, (List.range len).map f, rfl, ⟨some a, m, by rw [hlen], by rw [hlen]; unfold maxLen at hm; omega, fun j o ho => ?_⟩, hlen, ?_⟩
    · have hj : j < len := by have := (List.getElem?_eq_some_iff.1 ho).1; simpa using this
      simp [hj] at ho
      subst ho
      obtain ⟨h1, h2⟩ := hf j hj
      have hc := h2 0 (.int .i64 (f j).kind) rfl
      have hsp : a.spot = none := by
        have hc0 := (hf 0 (by omega)).2 0 (.int .i64 (f 0).kind) rfl
        have e0 : (a.add (0 * 5)).add 0 = a := by simp [Addr.add]
        rw [e0] at hc0
        exact World.cell?_spot hc0
      obtain ⟨b, off, sp⟩ := a
      simp only at hsp
      subst hsp
      have hbl : b < W.heap.size := by
        rw [add_plain, add_plain] at hc
        exact World.block_lt_of_cell? W _ hc
      refine ⟨h1, b, off, rfl, hbl, fun i v hv => ?_⟩
      have := h2 i v hv
      rwa [add_plain, add_plain] at this
    · have := bulk_len ((List.range len).map D)
      simp only [List.length_map, List.length_range] at this
      simp only [Rows.uptoBulk]
      omega
end Go.Proofs.Ythhgeobfolhpoaa
