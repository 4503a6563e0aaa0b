/- Slices that come in. -/
import Derived.Test.YtiabhgkndejigabAwake
import Derived.ProofKit
import Derived.OpenShut
import Derived.SizedLaws
import Derived.Deep.Slices
import Derived.Test.YtiabhgkndejigabPFq
import Derived.Test.YtiabhgkndejigabRows
import Derived.JoinedCond
namespace Go.Proofs.Ytiabhgkndejigab
open Go.ChangeShapes Go.WideShapes Go.ChangeAt Go.RowKit

theorem add_none (b off j : Nat) : (⟨b, off, none⟩ : Addr).add j = ⟨b, off + j, none⟩ := by unfold Addr.add; split <;> simp_all
theorem add_add (x : Addr) (i j : Nat) (h : x.spot = none) : (x.add i).add j = ⟨x.block, x.off + i + j, none⟩ := by
  obtain ⟨b, off, sp⟩ := x
  simp only at h
  subst h
  rw [add_none, add_none]
theorem cells_thing : Try.prog.cellsOf 35 = 4 := by kernel_rfl
theorem cells_bytes : Try.prog.cellsOf 22 = 1 := by kernel_rfl
theorem cells_int : Try.prog.cellsOf 3 = 1 := by kernel_rfl
theorem cells_u64 : Try.prog.cellsOf 33 = 1 := by kernel_rfl
theorem bytes5 : Try.prog.bytesOf 5 = 1 := by kernel_rfl
theorem laidOut : laidOutB Try.prog = true := by kernel_rfl

theorem weights_all {H : Type} {P : Program} {e : TypeId} : ∀ {l : List (DataW H)} {d : DataW H}, d ∈ l → ∀ x ∈ d.weights P e, x ∈ DataW.weightsAll P e l
  | y :: r, d, h, x, hx => by
    rw [DataW.weightsAll]
    rcases List.mem_cons.1 h with h1 | h1
    · subst h1; exact List.mem_append_left _ hx
    · exact List.mem_append_right _ (weights_all h1 x hx)

/-- a slice of bytes within another datum -/
theorem open_bytes {H : Type} {enc : TypeId × Value → H} {W : World} {k : Nat} {v : Value} {d : DataW H} {q : List MemPlace} (h : DataW.trod enc Try.prog W 0 (fun _ => true) true k 22 [v] = some (d, q))
    (hw : ∀ x ∈ d.weights Try.prog 22, x ≤ reachBytes) : ∃ a bs c, v = .slice a bs.length c ∧ Wide W v bs ∧ (∀ x ∈ bs, x < 256) ∧ bs.length ≤ 140737488351232 := by
  rcases open_ints Try.underlying22 Try.underlying5 (by kernel_rfl) h with ⟨hcs, _⟩ | ⟨x, l, c, zs, hcs, _, hl, hm, hz, hxx, hcell, hwz⟩
  · simp at hcs
    subst hcs
    exact ⟨none, [], 0, rfl, Or.inl (Or.inl ⟨rfl, rfl⟩), by simp, by simp⟩
  · simp at hcs
    subst hcs
    obtain ⟨hxd, _⟩ := Prod.mk.inj hxx
    have hz2 : zs.length = c := by simpa using hz
    have hlen : ((zs.take l).map Int.toNat).length = l := by simp [hz2, hl]
    have hbs : ∀ b ∈ (zs.take l).map Int.toNat, b < 256 := by
      intro b hb
      obtain ⟨n, hn, rfl⟩ := List.mem_map.1 hb
      have := bounds_u8 (hwz n (List.mem_of_mem_take hn))
      omega
    have h3 := hw (((lits (H := H) .u8 (zs.take l)).length + (lits (H := H) .u8 (zs.drop l)).length) * Try.prog.bytesOf 5) (by rw [hxd]; simp [DataW.weights, Try.underlying22])
    rw [bytes5] at h3
    simp only [lits, List.length_map, List.length_take, List.length_drop, reachBytes] at h3
    refine ⟨some x, (zs.take l).map Int.toNat, c, by rw [hlen], ?_, hbs, by rw [hlen]; omega⟩
    by_cases h0 : c = 0
    · subst h0
      have hl0 : l = 0 := by omega
      subst hl0
      exact Or.inr ⟨x, rfl, by simp⟩
    · have h6 := hcell 0 (by omega)
      have e0 : x.add 0 = x := by simp [Addr.add]
      rw [e0] at h6
      have hsp := World.cell?_spot h6
      have hbl := World.block_lt_of_cell? W _ h6
      refine Or.inl (Or.inr ⟨x.block, x.off, c, ?_, by rw [hlen]; exact hl, hm, hbl, fun j hj => ?_⟩)
      · rw [hlen]; obtain ⟨b, off, sp⟩ := x; simp only at hsp; subst hsp; rfl
      · rw [hlen] at hj
        have h7 := hcell j (by omega)
        have e1 : x.add j = ⟨x.block, x.off + j, none⟩ := by
          obtain ⟨b, off, sp⟩ := x
          simp only at hsp
          subst hsp
          exact add_none _ _ _
        rw [e1] at h7
        rw [h7]
        have hj2 : j < zs.length := by omega
        have hw8 := bounds_u8 (hwz zs[j] (List.getElem_mem hj2))
        simp only [List.getD, List.getElem?_map, List.getElem?_take_of_lt hj, List.getElem?_eq_getElem hj2, Option.map_some, Option.getD_some]
        congr 2
        omega

theorem trod_four {H : Type} {enc : TypeId × Value → H} {P : Program} {w : World} {base : Nat} {spare : Nat → Bool} {held : Bool} {t : TypeId} {f0 f1 f2 f3 : Field} {fuel : Nat} {cs : List Value} {x : DataW H × List MemPlace} (ht : P.underlying t = some (.struct #[f0, f1, f2, f3])) (h : DataW.trod enc P w base spare held fuel t cs = some x) :
    ∃ y0 y1 y2 y3 n, x.1 = .agg [y0.1, y1.1, y2.1, y3.1] ∧ cs.length = P.cellsOf t ∧ DataW.trod enc P w base spare held n f0.type ((cs.drop f0.offset).take (P.cellsOf f0.type)) = some y0 ∧
      DataW.trod enc P w base spare held n f1.type ((cs.drop f1.offset).take (P.cellsOf f1.type)) = some y1 ∧ DataW.trod enc P w base spare held n f2.type ((cs.drop f2.offset).take (P.cellsOf f2.type)) = some y2 ∧
      DataW.trod enc P w base spare held n f3.type ((cs.drop f3.offset).take (P.cellsOf f3.type)) = some y3 := by
  obtain ⟨xs, n, _, rfl, hl, hlen, hf⟩ := DataW.trod_struct ht h
  match xs, hlen with
  | [y0, y1, y2, y3], _ => exact ⟨y0, y1, y2, y3, n, by simp, hl, by simpa using hf 0 f0 rfl, by simpa using hf 1 f1 rfl, by simpa using hf 2 f2 rfl, by simpa using hf 3 f3 rfl⟩

theorem list_four (l : List Value) (h : l.length = 4) : ∃ a b c d, l = [a, b, c, d] := by
  match l, h with
  | [a, b, c, d], _ => exact ⟨a, b, c, d, rfl⟩

/-- one thing -/
theorem open_thing {H : Type} {enc : TypeId × Value → H} {W : World} {k : Nat} {cs : List Value} {d : DataW H} {q : List MemPlace} (h : DataW.trod enc Try.prog W 0 (fun _ => true) true k 35 cs = some (d, q))
    (hw : ∀ x ∈ d.weights Try.prog 35, x ≤ reachBytes) : ∃ t : Th, cs = [.int .i64 t.kind, .int .u64 (t.n : Int), .int .i64 t.i, .slice t.pa t.p.length t.pc] ∧ t.ok ∧ Wide W t.pv t.p ∧ t.p.length ≤ 140737488351232 := by
  obtain ⟨y0, y1, y2, y3, n, hx, hl, h0, h1, h2, h3⟩ := trod_four Try.underlying35 h
  rw [cells_thing] at hl
  obtain ⟨c0, c1, c2, c3, rfl⟩ := list_four cs hl
  rw [cells_int] at h0 h2
  rw [cells_u64] at h1
  rw [cells_bytes] at h3
  obtain ⟨kind, e0, -, w0⟩ := DataW.trod_int Try.underlying3 h0
  obtain ⟨num, e1, -, w1⟩ := DataW.trod_int Try.underlying33 h1
  obtain ⟨i, e2, -, w2⟩ := DataW.trod_int Try.underlying3 h2
  have e0' : c0 = .int .i64 kind := by simpa using e0
  have e1' : c1 = .int .u64 num := by simpa using e1
  have e2' : c2 = .int .i64 i := by simpa using e2
  have b0 := bounds_i64 w0
  obtain ⟨b1, b1'⟩ := bounds_u64 w1
  have b2 := bounds_i64 w2
  obtain ⟨m, rfl⟩ := Int.eq_ofNat_of_zero_le b1
  have hxd : d = .agg [y0.1, y1.1, y2.1, y3.1] := hx
  obtain ⟨a, bs, c, hv, hwd, h256, hbl⟩ := open_bytes (v := c3) (d := y3.1) (q := y3.2) (by simpa using h3) (fun x hx' => hw x (by
    rw [hxd]
    simp only [DataW.weights, Try.underlying35]
    exact DataW.weights_mem_each (j := 3) (t := 22) (d := y3.1) rfl rfl x hx'))
  subst hv
  exact ⟨⟨kind, m, i, a, c, bs⟩, by rw [e0', e1', e2'], ⟨b0.1, b0.2, by simp only; omega, b2.1, b2.2, h256⟩, hwd, hbl⟩

/-- a slice of things -/
theorem open_things {H : Type} {enc : TypeId × Value → H} {W : World} {k : Nat} {a : Option Addr} {n cap : Nat} {d : DataW H} {q : List MemPlace} (h : DataW.trod enc Try.prog W 0 (fun _ => true) true k 47 [.slice a n cap] = some (d, q))
    (hw : ∀ x ∈ d.weights Try.prog 47, x ≤ reachBytes) : ∃ ts, RowT W (.slice a n cap) ts ∧ AllT W ts ∧ ∀ t ∈ ts, t.p.length ≤ 140737488351232 := by
  rcases Go.Deep.open_slice Try.underlying47 h with ⟨hcs, _⟩ | ⟨x, len, cap', m, k', D, Pl, hcs, _, hl, hm, hmm, hxx, hall⟩
  · simp at hcs
    obtain ⟨rfl, rfl, rfl⟩ := hcs
    exact ⟨[], Or.inl ⟨none, rfl, rfl⟩, by intro t ht; simp at ht, by simp⟩
  · simp at hcs
    obtain ⟨rfl, rfl, rfl⟩ := hcs
    obtain ⟨hxd, _⟩ := Prod.mk.inj hxx
    have hmc : m = cap := by simpa using hmm
    subst hmc
    rw [cells_thing] at hall
    by_cases h0 : m = 0
    · subst h0
      have hn0 : n = 0 := by omega
      subst hn0
      exact ⟨[], Or.inl ⟨some x, rfl, rfl⟩, by intro t ht; simp at ht, by simp⟩
    have hin : ∀ i, i < n → ∀ y ∈ (D i).weights Try.prog 35, y ≤ reachBytes := by
      intro i hi y hy
      refine hw y ?_
      rw [hxd]
      simp only [DataW.weights, Try.underlying47]
      refine List.mem_cons_of_mem _ (List.mem_append_left _ (weights_all (d := D i) ?_ y hy))
      exact List.mem_map.2 ⟨i, by simpa using hi, rfl⟩
    have hex : ∀ i, ∃ t : Th, i < n → W.cell? ((x.add (i * 4)).add 0) = some (.int .i64 t.kind) ∧ W.cell? ((x.add (i * 4)).add 1) = some (.int .u64 (t.n : Int)) ∧ W.cell? ((x.add (i * 4)).add 2) = some (.int .i64 t.i) ∧ W.cell? ((x.add (i * 4)).add 3) = some (.slice t.pa t.p.length t.pc) ∧ t.ok ∧ Wide W t.pv t.p ∧ t.p.length ≤ 140737488351232 := by
      intro i
      by_cases hi : i < n
      · obtain ⟨cs', h1, h2⟩ := hall i (by omega)
        obtain ⟨t, h3, h4, h5, h6⟩ := open_thing h2 (hin i hi)
        obtain ⟨_, _, h7⟩ := World.cells?_some h1
        rw [h3] at h7
        exact ⟨t, fun _ => ⟨by simpa using h7 0 (by omega), by simpa using h7 1 (by omega), by simpa using h7 2 (by omega), by simpa using h7 3 (by omega), h4, h5, h6⟩⟩
      · exact ⟨⟨0, 0, 0, none, 0, []⟩, fun h => absurd h hi⟩
    obtain ⟨f, hf⟩ := Classical.axiomOfChoice hex
    have hlen : ((List.range n).map f).length = n := by simp
    have hx0 : x.spot = none ∧ x.block < W.heap.size := by
      obtain ⟨cs', h1, _⟩ := hall 0 (by omega)
      obtain ⟨_, h2, h3⟩ := World.cells?_some h1
      have h4 := h3 0 (by omega)
      rw [List.getElem?_eq_getElem (by omega)] at h4
      have e0 : (x.add (0 * 4)).add 0 = x := by simp [Addr.add]
      rw [e0] at h4
      exact ⟨World.cell?_spot h4, World.block_lt_of_cell? W _ h4⟩
    obtain ⟨hsp, hbl⟩ := hx0
    refine ⟨(List.range n).map f, Or.inr ⟨x.block, x.off, m, ?_, by rw [hlen]; exact hl, hm, hbl, fun j hj => ?_⟩, ?_, ?_⟩
    · rw [hlen]; obtain ⟨b, off, sp⟩ := x; simp only at hsp; subst hsp; rfl
    · rw [hlen] at hj
      obtain ⟨c1, c2, c3, c4, _⟩ := hf j hj
      rw [add_add _ _ _ hsp] at c1 c2 c3 c4
      simp only [List.getElem_map, List.getElem_range]
      exact ⟨c1, c2, c3, c4⟩
    · intro t ht
      obtain ⟨i, hi, rfl⟩ := List.mem_map.1 ht
      obtain ⟨_, _, _, _, h5, h6, _⟩ := hf i (by simpa using hi)
      exact ⟨h5, h6⟩
    · intro t ht
      obtain ⟨i, hi, rfl⟩ := List.mem_map.1 ht
      exact (hf i (by simpa using hi)).2.2.2.2.2.2
end Go.Proofs.Ytiabhgkndejigab

namespace Go.Proofs.Ytiabhgkndejigab
open Go.ChangeShapes Go.WideShapes Go.ChangeAt Go.RowKit

theorem cells5 : Try.prog.cellsOf 5 = 1 := by kernel_rfl
theorem cells_take : Try.prog.cellsOf 31 = 3 := by kernel_rfl
def natOf : Value → Nat
  | .int _ z => z.toNat
  | _ => 0
theorem bulk_one {H : Type} (d : DataW H) : 1 ≤ Rows.uptoBulk d := by
  cases d with
  | lit l => cases l <;> simp [Rows.uptoBulk]
  | _ => simp [Rows.uptoBulk]
theorem bulk_len {H : Type} : ∀ l : List (DataW H), l.length ≤ Rows.uptoBulkAll l
  | [] => by simp [Rows.uptoBulkAll]
  | x :: r => by
    have h1 := bulk_one x
    have h2 := bulk_len r
    simp only [Rows.uptoBulkAll, List.length_cons]
    omega

theorem open_bytesU {H : Type} {enc : TypeId × Value → H} {W : World} {k : Nat} {cs : List Value} {x : DataW H × List MemPlace} (h : DataW.trod enc Try.prog W 0 (fun _ => true) true k 22 cs = some x) :
    ∃ a n cap bs, cs = [.slice a n cap] ∧ Wide W (.slice a n cap) bs ∧ (∀ b ∈ bs, b < 256) ∧ bs.length = n ∧ n ≤ Rows.uptoBulk x.1 := by
  rcases Go.Deep.open_slice1 Try.underlying22 cells5 h with ⟨rfl, _⟩ | ⟨a, len, cap, m, n, V, D, Pl, rfl, _, hl, hm, hmm, rfl, hall⟩
  · exact ⟨none, 0, 0, [], rfl, Or.inl (Or.inl ⟨rfl, rfl⟩), by simp, rfl, by omega⟩
  · have hmc : m = cap := by simpa using hmm
    subst hmc
    have hv : ∀ i, i < m → ∃ z : Nat, V i = .int .u8 (z : Int) ∧ z < 256 := fun i hi => by
      obtain ⟨z, hz, _, hw⟩ := DataW.trod_int Try.underlying5 (hall i (by omega)).2
      have hb := bounds_u8 hw
      have e : V i = .int .u8 z := by simpa using hz
      exact ⟨z.toNat, by rw [e]; congr 1; omega, by omega⟩
    have hlen : ((List.range len).map fun i => natOf (V i)).length = len := by simp
    refine ⟨some a, len, m, (List.range len).map fun i => natOf (V i), rfl, ?_, ?_, hlen, ?_⟩
    · by_cases h0 : m = 0
      · subst h0
        have h00 : len = 0 := by omega
        subst h00
        exact Or.inr ⟨a, rfl, by simp⟩
      · have h6 := (hall 0 (by omega)).1
        have e0 : a.add 0 = a := by simp [Addr.add]
        rw [e0] at h6
        have hsp := World.cell?_spot h6
        have hbl := World.block_lt_of_cell? W _ h6
        obtain ⟨b, off, sp⟩ := a
        simp only at hsp
        subst hsp
        refine Or.inl (Or.inr ⟨b, off, m, by rw [hlen], by rw [hlen]; exact hl, hm, hbl, fun j hj => ?_⟩)
        rw [hlen] at hj
        have h7 := (hall j (by omega)).1
        rw [add_none] at h7
        obtain ⟨z, hz, hz2⟩ := hv j (by omega)
        rw [h7, hz]
        simp [hj, natOf, hz]
    · intro b hb
      obtain ⟨i, hi, rfl⟩ := List.mem_map.1 hb
      obtain ⟨z, hz, hz2⟩ := hv i (by have : i < len := by simpa using hi
                                      omega)
      rw [hz]; simpa [natOf] using hz2
    · have := bulk_len ((List.range len).map D)
      simp only [List.length_map, List.length_range] at this
      simp only [Rows.uptoBulk]
      omega

theorem trod_three {H : Type} {enc : TypeId × Value → H} {P : Program} {w : World} {base : Nat} {spare : Nat → Bool} {held : Bool} {t : TypeId} {f0 f1 f2 : Field} {fuel : Nat} {cs : List Value} {x : DataW H × List MemPlace} (ht : P.underlying t = some (.struct #[f0, f1, f2])) (h : DataW.trod enc P w base spare held fuel t cs = some x) :
    ∃ y0 y1 y2 n, cs.length = P.cellsOf t ∧ DataW.trod enc P w base spare held n f0.type ((cs.drop f0.offset).take (P.cellsOf f0.type)) = some y0 ∧
      DataW.trod enc P w base spare held n f1.type ((cs.drop f1.offset).take (P.cellsOf f1.type)) = some y1 ∧ DataW.trod enc P w base spare held n f2.type ((cs.drop f2.offset).take (P.cellsOf f2.type)) = some y2 := by
  obtain ⟨xs, n, _, rfl, hl, hlen, hf⟩ := DataW.trod_struct ht h
  match xs, hlen with
  | [y0, y1, y2], _ => exact ⟨y0, y1, y2, n, hl, by simpa using hf 0 f0 rfl, by simpa using hf 1 f1 rfl, by simpa using hf 2 f2 rfl⟩
theorem list_three (l : List Value) (h : l.length = 3) : ∃ a b c, l = [a, b, c] := by
  match l, h with
  | [a, b, c], _ => exact ⟨a, b, c, rfl⟩
theorem open_take {H : Type} {enc : TypeId × Value → H} {W : World} {k : Nat} {cs : List Value} {x : DataW H × List MemPlace} (h : DataW.trod enc Try.prog W 0 (fun _ => true) true k 31 cs = some x) :
    ∃ t : Tk, cs = [.int .i64 t.kind, .int .i64 t.which, .int .i64 t.i] ∧ t.ok := by
  obtain ⟨y0, y1, y2, n, hl, h0, h1, h2⟩ := trod_three Try.underlying31 h
  rw [cells_take] at hl
  obtain ⟨c0, c1, c2, rfl⟩ := list_three cs hl
  rw [cells_int] at h0 h1 h2
  obtain ⟨x0, e0, -, w0⟩ := DataW.trod_int Try.underlying3 h0
  obtain ⟨x1, e1, -, w1⟩ := DataW.trod_int Try.underlying3 h1
  obtain ⟨x2, e2, -, w2⟩ := DataW.trod_int Try.underlying3 h2
  have e0' : c0 = .int .i64 x0 := by simpa using e0
  have e1' : c1 = .int .i64 x1 := by simpa using e1
  have e2' : c2 = .int .i64 x2 := by simpa using e2
  have b2 := bounds_i64 w2
  exact ⟨⟨x0, x1, x2⟩, by rw [e0', e1', e2'], ⟨b2.1, b2.2⟩⟩

theorem open_takes {H : Type} {enc : TypeId × Value → H} {W : World} {k : Nat} {a : Option Addr} {n cap : Nat} {x : DataW H × List MemPlace} (h : DataW.trod enc Try.prog W 0 (fun _ => true) true k 23 [.slice a n cap] = some x) (hu : Rows.uptoBulk x.1 ≤ 1048576) :
    ∃ ts, RowK W (.slice a n cap) ts := by
  rcases Go.Deep.open_slice Try.underlying23 h with ⟨hcs, _⟩ | ⟨y, len, cap', m, k', D, Pl, hcs, _, hl, hm, hmm, hxx, hall⟩
  · simp at hcs
    obtain ⟨rfl, rfl, rfl⟩ := hcs
    exact ⟨[], none, 0, rfl, by simp, fun j t hj => by simp at hj⟩
  · simp at hcs
    obtain ⟨rfl, rfl, rfl⟩ := hcs
    have hmc : m = cap := by simpa using hmm
    subst hmc
    rw [cells_take] at hall
    have hnb : n ≤ 1048576 := by
      rw [hxx] at hu
      have := bulk_len ((List.range n).map D)
      simp only [List.length_map, List.length_range] at this
      simp only [Rows.uptoBulk] at hu
      omega
    have hex : ∀ i, ∃ t : Tk, i < n → W.cell? ((y.add (i * 3)).add 0) = some (.int .i64 t.kind) ∧ W.cell? ((y.add (i * 3)).add 1) = some (.int .i64 t.which) ∧ W.cell? ((y.add (i * 3)).add 2) = some (.int .i64 t.i) ∧ t.ok := by
      intro i
      by_cases hi : i < n
      · obtain ⟨cs', h1, h2⟩ := hall i (by omega)
        obtain ⟨t, h3, h4⟩ := open_take h2
        obtain ⟨_, _, h7⟩ := World.cells?_some h1
        rw [h3] at h7
        exact ⟨t, fun _ => ⟨by simpa using h7 0 (by omega), by simpa using h7 1 (by omega), by simpa using h7 2 (by omega), h4⟩⟩
      · exact ⟨⟨0, 0, 0⟩, fun h => absurd h hi⟩
    obtain ⟨f, hf⟩ := Classical.axiomOfChoice hex
    have hlen : ((List.range n).map f).length = n := by simp
    refine ⟨(List.range n).map f, some y, m, by rw [hlen], by rw [hlen]; omega, fun j t hj => ?_⟩
    have hjn : j < n := by have := (List.getElem?_eq_some_iff.1 hj).1; simpa using this
    simp [hjn] at hj
    subst hj
    obtain ⟨c1, c2, c3, c4⟩ := hf j hjn
    have hx0 : y.spot = none ∧ y.block < W.heap.size := by
      obtain ⟨cs', h1, _⟩ := hall 0 (by omega)
      obtain ⟨_, h2, h3⟩ := World.cells?_some h1
      have h4 := h3 0 (by omega)
      rw [List.getElem?_eq_getElem (by omega)] at h4
      have e0 : (y.add (0 * 3)).add 0 = y := by simp [Addr.add]
      rw [e0] at h4
      exact ⟨World.cell?_spot h4, World.block_lt_of_cell? W _ h4⟩
    obtain ⟨hsp, hbl⟩ := hx0
    rw [add_add _ _ _ hsp] at c1 c2 c3
    refine ⟨c4, y.block, y.off, ?_, hbl, c1, c2, c3⟩
    obtain ⟨b, off, sp⟩ := y; simp only at hsp; subst hsp; rfl
end Go.Proofs.Ytiabhgkndejigab
