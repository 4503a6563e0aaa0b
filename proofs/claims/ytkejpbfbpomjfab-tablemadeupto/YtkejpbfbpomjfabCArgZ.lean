/- Ops and bytes that came in, with their bulk. -/
import Derived.Test.YtkejpbfbpomjfabRows
import Derived.Test.YtkejpbfbpomjfabPkBL
import Derived.Deep.Slices
import Derived.Deep.Strs
import Derived.SizedLaws
import Derived.ProofKit
import Derived.OpenShut
import Derived.JoinedCond
namespace Go.Proofs.Ytkejpbfbpomjfab.tre
open Go.ChangeShapes Go.WideShapes Go.ChangeAt Go.RowKit

theorem add_none (b off j : Nat) : (⟨b, off, none⟩ : Addr).add j = ⟨b, off + j, none⟩ := by unfold Addr.add; split <;> simp_all
theorem add_add (x : Addr) (i j : Nat) (h : x.spot = none) : (x.add i).add j = ⟨x.block, x.off + i + j, none⟩ := by
  obtain ⟨b, off, sp⟩ := x
  simp only at h
  subst h
  rw [add_none, add_none]
theorem cells_u8 : Try.prog.cellsOf 5 = 1 := by kernel_rfl
theorem cells_bytes : Try.prog.cellsOf 22 = 1 := by kernel_rfl
theorem cells_int : Try.prog.cellsOf 3 = 1 := by kernel_rfl
theorem cells_op : Try.prog.cellsOf 36 = 4 := by kernel_rfl
theorem laidOut : laidOutB Try.prog = true := by kernel_rfl
def natOf : Value → Nat
  | .int _ z => z.toNat
  | _ => 0
theorem bulk_one {H : Type} (d : DataW H) : 1 ≤ Rows.uptoBulk d := by
  cases d with
  | lit l => cases l <;> simp [Rows.uptoBulk]
  | _ => simp [Rows.uptoBulk]
theorem bulk_len {H : Type} : ∀ l : List (DataW H), l.length ≤ Rows.uptoBulkAll l
  | [] => by simp [Rows.uptoBulkAll]
  | x :: r => by
    have h1 := bulk_one x
    have h2 := bulk_len r
    simp only [Rows.uptoBulkAll, List.length_cons]
    omega

theorem open_bytesU {H : Type} {enc : TypeId × Value → H} {W : World} {k : Nat} {cs : List Value} {x : DataW H × List MemPlace} (h : DataW.trod enc Try.prog W 0 (fun _ => true) true k 22 cs = some x) :
    ∃ a n cap bs, cs = [.slice a n cap] ∧ Wide W (.slice a n cap) bs ∧ (∀ b ∈ bs, b < 256) ∧ bs.length = n ∧ n ≤ Rows.uptoBulk x.1 := by
  rcases Go.Deep.open_slice1 Try.underlying22 cells_u8 h with ⟨rfl, _⟩ | ⟨a, len, cap, m, n, V, D, Pl, rfl, _, hl, hm, hmm, rfl, hall⟩
  · exact ⟨none, 0, 0, [], rfl, Or.inl (Or.inl ⟨rfl, rfl⟩), by simp, rfl, by omega⟩
  · have hmc : m = cap := by simpa using hmm
    subst hmc
    have hv : ∀ i, i < m → ∃ z : Nat, V i = .int .u8 (z : Int) ∧ z < 256 := fun i hi => by
      obtain ⟨z, hz, _, hw⟩ := DataW.trod_int Try.underlying5 (hall i (by omega)).2
      have hb := bounds_u8 hw
      have e : V i = .int .u8 z := by simpa using hz
      exact ⟨z.toNat, by rw [e]; congr 1; omega, by omega⟩
    have hlen : ((List.range len).map fun i => natOf (V i)).length = len := by simp
    refine ⟨some a, len, m, (List.range len).map fun i => natOf (V i), rfl, ?_, ?_, hlen, ?_⟩
    · by_cases h0 : m = 0
      · subst h0
        have h00 : len = 0 := by omega
        subst h00
        exact Or.inr ⟨a, rfl, by simp⟩
      · have h6 := (hall 0 (by omega)).1
        have e0 : a.add 0 = a := by simp [Addr.add]
        rw [e0] at h6
        have hsp := World.cell?_spot h6
        have hbl := World.block_lt_of_cell? W _ h6
        obtain ⟨b, off, sp⟩ := a
        simp only at hsp
        subst hsp
        refine Or.inl (Or.inr ⟨b, off, m, by rw [hlen], by rw [hlen]; exact hl, hm, hbl, fun j hj => ?_⟩)
        rw [hlen] at hj
        have h7 := (hall j (by omega)).1
        rw [add_none] at h7
        obtain ⟨z, hz, hz2⟩ := hv j (by omega)
        rw [h7, hz]
        simp [hj, natOf, hz]
    · intro b hb
      obtain ⟨i, hi, rfl⟩ := List.mem_map.1 hb
      obtain ⟨z, hz, hz2⟩ := hv i (by have : i < len := by simpa using hi
                                      omega)
      rw [hz]; simpa [natOf] using hz2
    · have := bulk_len ((List.range len).map D)
      simp only [List.length_map, List.length_range] at this
      simp only [Rows.uptoBulk]
      omega
theorem Low.of {w : World} {v : Value} {bs : List Nat} (h : Wide w v bs) : Low w v := by
  rcases h with h | ⟨a, rfl, _⟩
  · exact Or.inr fun x hx => h.lt hx
  · exact Or.inl ⟨a, rfl⟩
theorem trod_four {H : Type} {enc : TypeId × Value → H} {P : Program} {w : World} {base : Nat} {spare : Nat → Bool} {held : Bool} {t : TypeId} {f0 f1 f2 f3 : Field} {fuel : Nat} {cs : List Value} {d : DataW H} {q : List MemPlace} (ht : P.underlying t = some (.struct #[f0, f1, f2, f3])) (h : DataW.trod enc P w base spare held fuel t cs = some (d, q)) :
    ∃ (y0 y1 y2 y3 : DataW H × List MemPlace) (n : Nat), d = .agg [y0.1, y1.1, y2.1, y3.1] ∧ cs.length = P.cellsOf t ∧ DataW.trod enc P w base spare held n f0.type ((cs.drop f0.offset).take (P.cellsOf f0.type)) = some y0 ∧
      DataW.trod enc P w base spare held n f1.type ((cs.drop f1.offset).take (P.cellsOf f1.type)) = some y1 ∧ DataW.trod enc P w base spare held n f2.type ((cs.drop f2.offset).take (P.cellsOf f2.type)) = some y2 ∧ DataW.trod enc P w base spare held n f3.type ((cs.drop f3.offset).take (P.cellsOf f3.type)) = some y3 := by
  obtain ⟨xs, n, _, hx, hl, hlen, hf⟩ := DataW.trod_struct ht h
  match xs, hlen with
  | [y0, y1, y2, y3], _ => exact ⟨y0, y1, y2, y3, n, by obtain ⟨hxd, _⟩ := Prod.mk.inj hx; simpa using hxd, hl, by simpa using hf 0 f0 rfl, by simpa using hf 1 f1 rfl, by simpa using hf 2 f2 rfl, by simpa using hf 3 f3 rfl⟩
theorem list_four (l : List Value) (h : l.length = 4) : ∃ a b c d, l = [a, b, c, d] := by
  match l, h with
  | [a, b, c, d], _ => exact ⟨a, b, c, d, rfl⟩
theorem open_op {H : Type} {enc : TypeId × Value → H} {W : World} {k : Nat} {cs : List Value} {x : DataW H × List MemPlace} (h : DataW.trod enc Try.prog W 0 (fun _ => true) true k 36 cs = some x) :
    ∃ (o : Opm) (ks vs : Value), cs = [.int .i64 o.kind, ks, vs, .int .i64 o.rev] ∧ OpAt W o ks vs ∧ Low W ks ∧ Low W vs := by
  obtain ⟨y0, y1, y2, y3, n, hd, hl, h0, h1, h2, h3⟩ := trod_four (d := x.1) (q := x.2) Try.underlying36 h
  rw [cells_op] at hl
  obtain ⟨c0, c1, c2, c3, rfl⟩ := list_four cs hl
  rw [cells_int] at h0 h3
  rw [cells_bytes] at h1 h2
  obtain ⟨x0, e0, -, w0⟩ := DataW.trod_int Try.underlying3 h0
  obtain ⟨x3, e3, -, w3⟩ := DataW.trod_int Try.underlying3 h3
  obtain ⟨a1, n1, p1, b1, e1, g1, l1, -, -⟩ := open_bytesU (x := y1) (by simpa using h1)
  obtain ⟨a2, n2, p2, b2, e2, g2, l2, -, -⟩ := open_bytesU (x := y2) (by simpa using h2)
  have e0' : c0 = .int .i64 x0 := by simpa using e0
  have e3' : c3 = .int .i64 x3 := by simpa using e3
  have e1' : c1 = .slice a1 n1 p1 := by simpa using e1
  have e2' : c2 = .slice a2 n2 p2 := by simpa using e2
  exact ⟨⟨x0, b1, b2, x3⟩, _, _, by rw [e0', e1', e2', e3'], ⟨g1, g2, l1, l2⟩, Low.of g1, Low.of g2⟩
theorem open_ops {H : Type} {enc : TypeId × Value → H} {W : World} {k : Nat} {cs : List Value} {x : DataW H × List MemPlace} (h : DataW.trod enc Try.prog W 0 (fun _ => true) true k 44 cs = some x) :
    ∃ a n cap os, cs = [.slice a n cap] ∧ OpsIn W (.slice a n cap) os ∧ os.length = n ∧ n ≤ Rows.uptoBulk x.1 := by
  rcases Go.Deep.open_slice Try.underlying44 h with ⟨rfl, _⟩ | ⟨a, len, cap, m, n, D, Pl, rfl, _, hl, hm, hmm, rfl, hall⟩
  · exact ⟨none, 0, 0, [], rfl, ⟨none, 0, rfl, by simp, fun k o ho => by simp at ho⟩, rfl, by omega⟩
  · have hmc : m = cap := by simpa using hmm
    subst hmc
    rw [cells_op] at hall
    have hex : ∀ i, ∃ z : Opm × Value × Value, i < len → (∀ j v, [Value.int .i64 z.1.kind, z.2.1, z.2.2, .int .i64 z.1.rev][j]? = some v → W.cell? ((a.add (i * 4)).add j) = some v) ∧ OpAt W z.1 z.2.1 z.2.2 ∧ Low W z.2.1 ∧ Low W z.2.2 := by
      intro i
      by_cases hi : i < len
      · obtain ⟨cs', h1, h2⟩ := hall i (by omega)
        obtain ⟨o, ks, vs, h3, h4⟩ := open_op h2
        obtain ⟨_, h5, h6⟩ := World.cells?_some h1
        refine ⟨(o, ks, vs), fun _ => ⟨fun j v hv => ?_, h4⟩⟩
        have hj : j < 4 := (List.getElem?_eq_some_iff.1 hv).1
        have h7 := h6 j hj
        rw [h3] at h7
        rw [h7]; exact hv
      · exact ⟨(⟨0, [], [], 0⟩, .bool false, .bool false), fun h => absurd h hi⟩
    obtain ⟨f, hf⟩ := Classical.axiomOfChoice hex
    have hlen : ((List.range len).map fun i => (f i).1).length = len := by simp
    refine ⟨some a, len, m, (List.range len).map fun i => (f i).1, rfl, ⟨some a, m, by rw [hlen], by rw [hlen]; unfold maxLen at hm; omega, fun j o ho => ?_⟩, hlen, ?_⟩
    · have hj : j < len := by have := (List.getElem?_eq_some_iff.1 ho).1; simpa using this
      simp [hj] at ho
      subst ho
      obtain ⟨h2, h8, h9, h10⟩ := hf j hj
      have hc0 := (hf 0 (by omega)).1 0 _ rfl
      have e0 : (a.add (0 * 4)).add 0 = a := by simp [Addr.add]
      rw [e0] at hc0
      have hsp := World.cell?_spot hc0
      have hbl := World.block_lt_of_cell? W _ hc0
      obtain ⟨b, off, sp⟩ := a
      simp only at hsp
      subst hsp
      refine ⟨b, off, (f j).2.1, (f j).2.2, rfl, hbl, fun i v hv => ?_, h8, h9, h10⟩
      have := h2 i v hv
      rwa [add_none, add_none] at this
    · have := bulk_len ((List.range len).map D)
      simp only [List.length_map, List.length_range] at this
      simp only [Rows.uptoBulk]
      omega
end Go.Proofs.Ytkejpbfbpomjfab.tre
