/- Bytes, Bools and scripts that came in. -/
import Derived.Test.YtfaoblnghkiibaaQSafe
import Derived.ProofKit
import Derived.OpenShut
import Derived.SizedLaws
import Derived.Deep.Slices
import Derived.JoinedCond
import Derived.Test.YtfaoblnghkiibaaRows
namespace Go.Proofs.Ytfaoblnghkiibaa
open Go.ChangeShapes Go.WideShapes Go.ChangeAt Go.RowKit

theorem laidOut : laidOutB Try.prog = true := by kernel_rfl
theorem cells5 : Try.prog.cellsOf 5 = 1 := by kernel_rfl
theorem cells4 : Try.prog.cellsOf 4 = 1 := by kernel_rfl
theorem cells3 : Try.prog.cellsOf 3 = 1 := by kernel_rfl
theorem cells22 : Try.prog.cellsOf 22 = 1 := by kernel_rfl
theorem cells39 : Try.prog.cellsOf 39 = 1 := by kernel_rfl
theorem cells41 : Try.prog.cellsOf 41 = 7 := by kernel_rfl
theorem add_plain (b off j : Nat) : (⟨b, off, none⟩ : Addr).add j = ⟨b, off + j, none⟩ := by unfold Addr.add; split <;> simp_all

def natOf : Value → Nat
  | .int _ z => z.toNat
  | _ => 0
def boolOf : Value → Bool
  | .bool b => b
  | _ => false

theorem bulk_one {H : Type} (d : DataW H) : 1 ≤ Rows.uptoBulk d := by
  cases d with
  | lit l => cases l <;> simp [Rows.uptoBulk]
  | _ => simp [Rows.uptoBulk]
theorem bulk_len {H : Type} : ∀ l : List (DataW H), l.length ≤ Rows.uptoBulkAll l
  | [] => by simp [Rows.uptoBulkAll]
  | x :: r => by
    have h1 := bulk_one x
    have h2 := bulk_len r
    simp only [Rows.uptoBulkAll, List.length_cons]
    omega

theorem open_bytes {H : Type} {enc : TypeId × Value → H} {W : World} {k : Nat} {cs : List Value} {x : DataW H × List MemPlace} (h : DataW.trod enc Try.prog W 0 (fun _ => true) true k 22 cs = some x) :
    ∃ a n cap bs, cs = [.slice a n cap] ∧ Sees W (.slice a n cap) bs ∧ bs.length = n ∧ n ≤ Rows.uptoBulk x.1 := by
  rcases Go.Deep.open_slice1 Try.underlying22 cells5 h with ⟨rfl, _⟩ | ⟨a, len, cap, m, n, V, D, Pl, rfl, _, hl, hm, hmm, rfl, hall⟩
  · exact ⟨none, 0, 0, [], rfl, Sees.nil W, rfl, by omega⟩
  · have hmc : m = cap := by simpa using hmm
    subst hmc
    have hv : ∀ i, i < len → ∃ z : Nat, V i = .int .u8 (z : Int) ∧ z < 256 := fun i hi => by
      obtain ⟨z, hz, _, hw⟩ := DataW.trod_int Try.underlying5 (hall i (by omega)).2
      have hb := bounds_u8 hw
      have e : V i = .int .u8 z := by simpa using hz
      exact ⟨z.toNat, by rw [e]; congr 1; omega, by omega⟩
    have hlen : ((List.range len).map fun i => natOf (V i)).length = len := by simp
    refine ⟨some a, len, m, (List.range len).map fun i => natOf (V i), rfl, ⟨some a, m, by rw [hlen], by rw [hlen]; exact hl, hm, ?_, ?_⟩, hlen, ?_⟩
    · intro b hb
      obtain ⟨i, hi, rfl⟩ := List.mem_map.1 hb
      obtain ⟨z, hz, hz2⟩ := hv i (by simpa using hi)
      rw [hz]; simpa [natOf] using hz2
    · by_cases h0 : len = 0
      · left; subst h0; rfl
      · right
        have h6 := (hall 0 (by omega)).1
        have e0 : a.add 0 = a := by simp [Addr.add]
        rw [e0] at h6
        have hsp := World.cell?_spot h6
        have hbl := World.block_lt_of_cell? W _ h6
        obtain ⟨b, off, sp⟩ := a
        simp only at hsp
        subst hsp
        refine ⟨b, off, rfl, hbl, fun j hj => ?_⟩
        rw [hlen] at hj
        have h7 := (hall j (by omega)).1
        rw [add_plain] at h7
        obtain ⟨z, hz, hz2⟩ := hv j hj
        rw [h7, hz]
        simp [hj, natOf, hz]
    · have := bulk_len ((List.range len).map D)
      simp only [List.length_map, List.length_range] at this
      simp only [Rows.uptoBulk]
      omega

theorem open_bools {H : Type} {enc : TypeId × Value → H} {W : World} {k : Nat} {cs : List Value} {x : DataW H × List MemPlace} (h : DataW.trod enc Try.prog W 0 (fun _ => true) true k 39 cs = some x) :
    ∃ a n cap bs, cs = [.slice a n cap] ∧ SeesB W (.slice a n cap) bs ∧ bs.length = n := by
  rcases Go.Deep.open_slice1 Try.underlying39 cells4 h with ⟨rfl, _⟩ | ⟨a, len, cap, m, n, V, D, Pl, rfl, _, hl, hm, hmm, rfl, hall⟩
  · exact ⟨none, 0, 0, [], rfl, SeesB.nil W, rfl⟩
  · have hmc : m = cap := by simpa using hmm
    subst hmc
    have hv : ∀ i, i < len → V i = .bool (boolOf (V i)) := fun i hi => by
      obtain ⟨z, hz, _⟩ := DataW.trod_bool Try.underlying4 (hall i (by omega)).2
      have e : V i = .bool z := by simpa using hz
      rw [e]; rfl
    have hlen : ((List.range len).map fun i => boolOf (V i)).length = len := by simp
    refine ⟨some a, len, m, (List.range len).map fun i => boolOf (V i), rfl, ⟨some a, m, by rw [hlen], by rw [hlen]; unfold maxLen at hm; omega, fun j hj => ?_⟩, hlen⟩
    rw [hlen] at hj
    have h7 := (hall j (by omega)).1
    have hsp : a.spot = none := by
      have h6 := (hall 0 (by omega)).1
      have e0 : a.add 0 = a := by simp [Addr.add]
      rw [e0] at h6
      exact World.cell?_spot h6
    obtain ⟨b, off, sp⟩ := a
    simp only at hsp
    subst hsp
    rw [add_plain] at h7
    have hbl := World.block_lt_of_cell? W _ h7
    refine ⟨b, off, rfl, hbl, ?_⟩
    rw [h7, hv j hj]
    simp [hj, boolOf]

theorem trod_seven {H : Type} {enc : TypeId × Value → H} {P : Program} {w : World} {base : Nat} {spare : Nat → Bool} {held : Bool} {t : TypeId} {f0 f1 f2 f3 f4 f5 f6 : Field} {fuel : Nat} {cs : List Value} {x : DataW H × List MemPlace} (ht : P.underlying t = some (.struct #[f0, f1, f2, f3, f4, f5, f6])) (h : DataW.trod enc P w base spare held fuel t cs = some x) :
    ∃ y0 y1 y2 y3 y4 y5 y6 n, cs.length = P.cellsOf t ∧ DataW.trod enc P w base spare held n f0.type ((cs.drop f0.offset).take (P.cellsOf f0.type)) = some y0 ∧
      DataW.trod enc P w base spare held n f1.type ((cs.drop f1.offset).take (P.cellsOf f1.type)) = some y1 ∧ DataW.trod enc P w base spare held n f2.type ((cs.drop f2.offset).take (P.cellsOf f2.type)) = some y2 ∧
      DataW.trod enc P w base spare held n f3.type ((cs.drop f3.offset).take (P.cellsOf f3.type)) = some y3 ∧ DataW.trod enc P w base spare held n f4.type ((cs.drop f4.offset).take (P.cellsOf f4.type)) = some y4 ∧
      DataW.trod enc P w base spare held n f5.type ((cs.drop f5.offset).take (P.cellsOf f5.type)) = some y5 ∧ DataW.trod enc P w base spare held n f6.type ((cs.drop f6.offset).take (P.cellsOf f6.type)) = some y6 := by
  obtain ⟨xs, n, _, rfl, hl, hlen, hf⟩ := DataW.trod_struct ht h
  match xs, hlen with
  | [y0, y1, y2, y3, y4, y5, y6], _ => exact ⟨y0, y1, y2, y3, y4, y5, y6, n, hl, by simpa using hf 0 f0 rfl, by simpa using hf 1 f1 rfl, by simpa using hf 2 f2 rfl, by simpa using hf 3 f3 rfl, by simpa using hf 4 f4 rfl, by simpa using hf 5 f5 rfl, by simpa using hf 6 f6 rfl⟩
theorem list_seven (l : List Value) (h : l.length = 7) : ∃ a b c d e f g, l = [a, b, c, d, e, f, g] := by
  match l, h with
  | [a, b, c, d, e, f, g], _ => exact ⟨a, b, c, d, e, f, g, rfl⟩

theorem open_op {H : Type} {enc : TypeId × Value → H} {W : World} {k : Nat} {cs : List Value} {x : DataW H × List MemPlace} (h : DataW.trod enc Try.prog W 0 (fun _ => true) true k 41 cs = some x) :
    ∃ o : OpM, cs = oc o ∧ OpOk W o := by
  obtain ⟨y0, y1, y2, y3, y4, y5, y6, n, hl, h0, h1, h2, h3, h4, h5, h6⟩ := trod_seven Try.underlying41 h
  rw [cells41] at hl
  obtain ⟨c0, c1, c2, c3, c4, c5, c6, rfl⟩ := list_seven cs hl
  rw [cells3] at h0 h1 h2 h5 h6
  rw [cells22] at h3
  rw [cells39] at h4
  obtain ⟨x0, e0, -, w0⟩ := DataW.trod_int Try.underlying3 h0
  obtain ⟨x1, e1, -, w1⟩ := DataW.trod_int Try.underlying3 h1
  obtain ⟨x2, e2, -, w2⟩ := DataW.trod_int Try.underlying3 h2
  obtain ⟨x5, e5, -, w5⟩ := DataW.trod_int Try.underlying3 h5
  obtain ⟨x6, e6, -, w6⟩ := DataW.trod_int Try.underlying3 h6
  obtain ⟨a3, n3, p3, bs3, e3, s3, -, -⟩ := open_bytes h3
  obtain ⟨a4, n4, p4, bs4, e4, s4, -⟩ := open_bools h4
  have e0' : c0 = .int .i64 x0 := by simpa using e0
  have e1' : c1 = .int .i64 x1 := by simpa using e1
  have e2' : c2 = .int .i64 x2 := by simpa using e2
  have e3' : c3 = .slice a3 n3 p3 := by simpa using e3
  have e4' : c4 = .slice a4 n4 p4 := by simpa using e4
  have e5' : c5 = .int .i64 x5 := by simpa using e5
  have e6' : c6 = .int .i64 x6 := by simpa using e6
  have b2 := bounds_i64 w2
  refine ⟨⟨x0, x1, x2, .slice a3 n3 p3, bs3, .slice a4 n4 p4, bs4, x5, x6⟩, by rw [e0', e1', e2', e3', e4', e5', e6']; rfl, ⟨s3, s4, by simp only; omega, fun v hv => ?_⟩⟩
  simp [oc] at hv
  rcases hv with rfl | rfl | rfl | rfl | rfl | rfl | rfl <;> rfl

theorem open_ops {H : Type} {enc : TypeId × Value → H} {W : World} {k : Nat} {cs : List Value} {x : DataW H × List MemPlace} (h : DataW.trod enc Try.prog W 0 (fun _ => true) true k 23 cs = some x) :
    ∃ a n cap os, cs = [.slice a n cap] ∧ Ops W (.slice a n cap) os ∧ os.length = n ∧ n ≤ Rows.uptoBulk x.1 := by
  rcases Go.Deep.open_slice Try.underlying23 h with ⟨rfl, _⟩ | ⟨a, len, cap, m, n, D, Pl, rfl, _, hl, hm, hmm, rfl, hall⟩
  · exact ⟨none, 0, 0, [], rfl, ⟨none, 0, rfl, by simp, fun k o ho => by simp at ho⟩, rfl, by omega⟩
  · have hmc : m = cap := by simpa using hmm
    subst hmc
    rw [cells41] at hall
    have hex : ∀ i, ∃ o : OpM, i < len → OpOk W o ∧ ∀ j v, (oc o)[j]? = some v → W.cell? ((a.add (i * 7)).add j) = some v := by
      intro i
      by_cases hi : i < len
      · obtain ⟨cs', h1, h2⟩ := hall i (by omega)
        obtain ⟨o, h3, h4⟩ := open_op h2
        obtain ⟨_, h5, h6⟩ := World.cells?_some h1
        refine ⟨o, fun _ => ⟨h4, fun j v hv => ?_⟩⟩
        have hj : j < 7 := by have := (List.getElem?_eq_some_iff.1 hv).1; simpa [oc] using this
        have h7 := h6 j hj
        rw [h3] at h7
        rw [h7]; exact hv
      · exact ⟨⟨0, 0, 0, .slice none 0 0, [], .slice none 0 0, [], 0, 0⟩, fun h => absurd h hi⟩
    obtain ⟨f, hf⟩ := Classical.axiomOfChoice hex
    have hlen : ((List.range len).map f).length = len := by simp
    refine ⟨some a, len, m, (List.range len).map f, rfl, ⟨some a, m, by rw [hlen], by rw [hlen]; unfold maxLen at hm; omega, fun j o ho => ?_⟩, hlen, ?_⟩
    · have hj : j < len := by have := (List.getElem?_eq_some_iff.1 ho).1; simpa using this
      simp [hj] at ho
      subst ho
      obtain ⟨h1, h2⟩ := hf j hj
      have hc := h2 0 (.int .i64 (f j).who) rfl
      have hsp : a.spot = none := by
        have hc0 := (hf 0 (by omega)).2 0 (.int .i64 (f 0).who) rfl
        have e0 : (a.add (0 * 7)).add 0 = a := by simp [Addr.add]
        rw [e0] at hc0
        exact World.cell?_spot hc0
      obtain ⟨b, off, sp⟩ := a
      simp only at hsp
      subst hsp
      have hbl : b < W.heap.size := by
        rw [add_plain, add_plain] at hc
        exact World.block_lt_of_cell? W _ hc
      refine ⟨h1, b, off, rfl, hbl, fun i v hv => ?_⟩
      have := h2 i v hv
      rwa [add_plain, add_plain] at this
    · have := bulk_len ((List.range len).map D)
      simp only [List.length_map, List.length_range] at this
      simp only [Rows.uptoBulk]
      omega
end Go.Proofs.Ytfaoblnghkiibaa
