/- Slices of integers that came in. -/
import Derived.Test.YtbpeeifgfjpghaaTMade
import Derived.ProofKit
import Derived.OpenShut
import Derived.SizedLaws
import Derived.Deep.Slices
import Derived.Test.YtbpeeifgfjpghaaRows
namespace Go.Proofs.Ytbpeeifgfjpghaa
open Go.ChangeShapes Go.WideShapes Go.ChangeAt Go.RowKit

/-- What is known of a slice of integers that came in. -/
def IsRow (k : IntKind) (w : World) (a : Option Addr) (len cap : Nat) (zs : List Int) : Prop :=
  (a = none ∧ len = 0 ∧ cap = 0 ∧ zs = []) ∨
  ∃ x, a = some x ∧ len ≤ cap ∧ cap ≤ maxLen ∧ zs.length = cap ∧ (∀ i, i < zs.length → w.cell? (x.add i) = some (.int k (zs.getD i 0))) ∧ ∀ n ∈ zs, (Lit.int k n).wf = true

theorem seesI_of_isRow {w : World} {a : Option Addr} {len cap : Nat} {zs : List Int} (h : IsRow .i64 w a len cap zs) : ∃ l, SeesI w (.slice a len cap) l ∧ l.length = len ∧ ∀ n ∈ l, (Lit.int .i64 n).wf = true := by
  rcases h with ⟨rfl, rfl, rfl, rfl⟩ | ⟨x, rfl, h1, h2, h3, h4, h5⟩
  · exact ⟨[], SeesI.nil w, rfl, by simp⟩
  · have hlen : (zs.take len).length = len := by simp [h3, h1]
    refine ⟨zs.take len, ⟨some x, cap, by rw [hlen], by rw [hlen]; exact h1, h2, ?_⟩, hlen, fun n hn => h5 n (List.mem_of_mem_take hn)⟩
    · by_cases h0 : len = 0
      · left; subst h0; simp
      · right
        have hsp : x.spot = none := by
          have h6 := h4 0 (by omega)
          have e : x.add 0 = x := by simp [Addr.add]
          rw [e] at h6
          cases hx : x.spot with
          | none => rfl
          | some s =>
            exfalso
            unfold World.cell? at h6
            split at h6
            · rw [hx] at h6; simp at h6
            · cases h6
        obtain ⟨b, off, sp⟩ := x
        simp only at hsp
        subst hsp
        have hb : b < w.heap.size := by
          have h6 := h4 0 (by omega)
          have e : (⟨b, off, none⟩ : Addr).add 0 = ⟨b, off, none⟩ := by simp [Addr.add]
          rw [e] at h6
          rcases Nat.lt_or_ge b w.heap.size with h7 | h7
          · exact h7
          · simp [World.cell?, Array.getElem?_eq_none h7] at h6
        refine ⟨b, off, rfl, hb, fun j hj => ?_⟩
        rw [hlen] at hj
        have h6 := h4 j (by omega)
        have hadd : (⟨b, off, none⟩ : Addr).add j = ⟨b, off + j, none⟩ := by unfold Addr.add; split <;> simp_all
        rw [hadd] at h6
        rw [h6]
        have hj2 : j < zs.length := by omega
        simp only [List.getD, List.getElem?_take_of_lt hj, List.getElem?_eq_getElem hj2, Option.getD_some]

theorem bytes5 : Try.prog.bytesOf 5 = 1 := by kernel_rfl
theorem bytes3 : Try.prog.bytesOf 3 = 8 := by kernel_rfl
theorem laidOut : laidOutB Try.prog = true := by kernel_rfl

theorem add_none (b off j : Nat) : (⟨b, off, none⟩ : Addr).add j = ⟨b, off + j, none⟩ := by unfold Addr.add; split <;> simp_all
theorem add_add (x : Addr) (i j : Nat) (h : x.spot = none) : (x.add i).add j = ⟨x.block, x.off + i + j, none⟩ := by
  obtain ⟨b, off, sp⟩ := x
  simp only at h
  subst h
  rw [add_none, add_none]
theorem cells_op : Try.prog.cellsOf 42 = 4 := by kernel_rfl
theorem cells_i : Try.prog.cellsOf 3 = 1 := by kernel_rfl
theorem bytes_op : Try.prog.bytesOf 42 = 32 := by kernel_rfl
theorem trod_four {H : Type} {enc : TypeId × Value → H} {P : Program} {w : World} {base : Nat} {spare : Nat → Bool} {held : Bool} {t : TypeId} {f0 f1 f2 f3 : Field} {fuel : Nat} {cs : List Value} {x : DataW H × List MemPlace} (ht : P.underlying t = some (.struct #[f0, f1, f2, f3])) (h : DataW.trod enc P w base spare held fuel t cs = some x) :
    ∃ y0 y1 y2 y3 n, x.1 = .agg [y0.1, y1.1, y2.1, y3.1] ∧ cs.length = P.cellsOf t ∧ DataW.trod enc P w base spare held n f0.type ((cs.drop f0.offset).take (P.cellsOf f0.type)) = some y0 ∧
      DataW.trod enc P w base spare held n f1.type ((cs.drop f1.offset).take (P.cellsOf f1.type)) = some y1 ∧ DataW.trod enc P w base spare held n f2.type ((cs.drop f2.offset).take (P.cellsOf f2.type)) = some y2 ∧
      DataW.trod enc P w base spare held n f3.type ((cs.drop f3.offset).take (P.cellsOf f3.type)) = some y3 := by
  obtain ⟨xs, n, _, rfl, hl, hlen, hf⟩ := DataW.trod_struct ht h
  match xs, hlen with
  | [y0, y1, y2, y3], _ => exact ⟨y0, y1, y2, y3, n, by simp, hl, by simpa using hf 0 f0 rfl, by simpa using hf 1 f1 rfl, by simpa using hf 2 f2 rfl, by simpa using hf 3 f3 rfl⟩
theorem list_four (l : List Value) (h : l.length = 4) : ∃ a b c d, l = [a, b, c, d] := by
  match l, h with
  | [a, b, c, d], _ => exact ⟨a, b, c, d, rfl⟩
/-- one step of the script -/
theorem open_op {H : Type} {enc : TypeId × Value → H} {W : World} {k : Nat} {cs : List Value} {d : DataW H} {q : List MemPlace} (h : DataW.trod enc Try.prog W 0 (fun _ => true) true k 42 cs = some (d, q)) :
    ∃ o : OpI, cs = [.int .i64 o.kind, .int .i64 o.fr, .int .i64 o.key, .int .i64 o.val] ∧ o.ok := by
  obtain ⟨y0, y1, y2, y3, n, hx, hl, h0, h1, h2, h3⟩ := trod_four Try.underlying42 h
  rw [cells_op] at hl
  obtain ⟨c0, c1, c2, c3, rfl⟩ := list_four cs hl
  rw [cells_i] at h0 h1 h2 h3
  obtain ⟨x0, e0, -, w0⟩ := DataW.trod_int Try.underlying3 h0
  obtain ⟨x1, e1, -, w1⟩ := DataW.trod_int Try.underlying3 h1
  obtain ⟨x2, e2, -, w2⟩ := DataW.trod_int Try.underlying3 h2
  obtain ⟨x3, e3, -, w3⟩ := DataW.trod_int Try.underlying3 h3
  have e0' : c0 = .int .i64 x0 := by simpa using e0
  have e1' : c1 = .int .i64 x1 := by simpa using e1
  have e2' : c2 = .int .i64 x2 := by simpa using e2
  have e3' : c3 = .int .i64 x3 := by simpa using e3
  have b0 := bounds_i64 w0
  have b1 := bounds_i64 w1
  have b2 := bounds_i64 w2
  have b3 := bounds_i64 w3
  exact ⟨⟨x0, x1, x2, x3⟩, by rw [e0', e1', e2', e3'], ⟨⟨b0.1, by simp only; omega⟩, ⟨b1.1, by simp only; omega⟩, ⟨b2.1, by simp only; omega⟩, ⟨b3.1, by simp only; omega⟩⟩⟩
/-- a script that came in -/
theorem open_ops {H : Type} {enc : TypeId × Value → H} {W : World} {k : Nat} {a : Option Addr} {n cap : Nat} {d : DataW H} {q : List MemPlace} (h : DataW.trod enc Try.prog W 0 (fun _ => true) true k 22 [.slice a n cap] = some (d, q))
    (hw : ∀ x ∈ d.weights Try.prog 22, x ≤ reachBytes) : ∃ os, Ops W (.slice a n cap) os ∧ os.length ≤ 4398046511104 := by
  rcases Go.Deep.open_slice Try.underlying22 h with ⟨hcs, _⟩ | ⟨x, len, cap', m, k', D, Pl, hcs, _, hl, hm, hmm, hxx, hall⟩
  · simp at hcs
    obtain ⟨rfl, rfl, rfl⟩ := hcs
    exact ⟨[], ⟨none, 0, rfl, by simp, by simp [maxLen], by simp, Or.inl rfl⟩, by simp⟩
  · simp at hcs
    obtain ⟨rfl, rfl, rfl⟩ := hcs
    obtain ⟨hxd, _⟩ := Prod.mk.inj hxx
    have hmc : m = cap := by simpa using hmm
    subst hmc
    rw [cells_op] at hall
    have hex : ∀ i, ∃ o : OpI, i < n → W.cell? ((x.add (i * 4)).add 0) = some (.int .i64 o.kind) ∧ W.cell? ((x.add (i * 4)).add 1) = some (.int .i64 o.fr) ∧ W.cell? ((x.add (i * 4)).add 2) = some (.int .i64 o.key) ∧ W.cell? ((x.add (i * 4)).add 3) = some (.int .i64 o.val) ∧ o.ok := by
      intro i
      by_cases hi : i < n
      · obtain ⟨cs', h1, h2⟩ := hall i (by omega)
        obtain ⟨o, h3, h4⟩ := open_op h2
        obtain ⟨_, _, h6⟩ := World.cells?_some h1
        rw [h3] at h6
        exact ⟨o, fun _ => ⟨by simpa using h6 0 (by omega), by simpa using h6 1 (by omega), by simpa using h6 2 (by omega), by simpa using h6 3 (by omega), h4⟩⟩
      · exact ⟨⟨0, 0, 0, 0⟩, fun h => absurd h hi⟩
    obtain ⟨f, hf⟩ := Classical.axiomOfChoice hex
    have hlen : ((List.range n).map f).length = n := by simp
    refine ⟨(List.range n).map f, ⟨some x, m, by rw [hlen], by rw [hlen]; exact hl, hm, ?_, ?_⟩, ?_⟩
    · intro p hp
      obtain ⟨i, hi, rfl⟩ := List.mem_map.1 hp
      exact (hf i (by simpa using hi)).2.2.2.2
    · by_cases h0 : n = 0
      · left; subst h0; rfl
      · right
        have h6 := (hf 0 (by omega)).1
        have e0 : (x.add (0 * 4)).add 0 = x := by simp [Addr.add]
        rw [e0] at h6
        have hsp := World.cell?_spot h6
        have hbl := World.block_lt_of_cell? W _ h6
        refine ⟨x.block, x.off, by obtain ⟨b, off, sp⟩ := x; simp only at hsp; subst hsp; rfl, hbl, fun j p hp => ?_⟩
        have hj : j < n := by have := (List.getElem?_eq_some_iff.1 hp).1; simpa using this
        obtain ⟨c1, c2, c3, c4, _⟩ := hf j hj
        rw [add_add _ _ _ hsp] at c1 c2 c3 c4
        simp [hj] at hp
        subst hp
        exact ⟨c1, c2, c3, c4⟩
    · have h3 := hw ((((List.range n).map D).length + ((List.range (m - n)).map fun j => D (n + j)).length) * Try.prog.bytesOf 42) (by rw [hxd]; simp [DataW.weights, Try.underlying22])
      rw [bytes_op] at h3
      simp only [List.length_map, List.length_range, reachBytes] at h3
      rw [hlen]
      omega
end Go.Proofs.Ytbpeeifgfjpghaa
