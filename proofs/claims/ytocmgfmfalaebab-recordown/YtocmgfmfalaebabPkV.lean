/- A text of the base. -/
import Derived.Test.YtocmgfmfalaebabRows
import Derived.Test.YtocmgfmfalaebabPkU
import Derived.Deep.Slices
import Derived.Deep.Strs
import Derived.SizedLaws
import Derived.ProofKit
import Derived.OpenShut
import Derived.JoinedCond
/- Records that came in, each list within reach. -/
namespace Go.Proofs.Ytocmgfmfalaebab
open Go.ChangeShapes Go.WideShapes Go.ChangeAt Go.RowKit

theorem add_none (b off j : Nat) : (⟨b, off, none⟩ : Addr).add j = ⟨b, off + j, none⟩ := by unfold Addr.add; split <;> simp_all
theorem add_add (x : Addr) (i j : Nat) (h : x.spot = none) : (x.add i).add j = ⟨x.block, x.off + i + j, none⟩ := by
  obtain ⟨b, off, sp⟩ := x
  simp only at h
  subst h
  rw [add_none, add_none]
theorem cells5 : Try.prog.cellsOf 5 = 1 := by kernel_rfl
theorem cells22 : Try.prog.cellsOf 22 = 1 := by kernel_rfl
theorem cells_int : Try.prog.cellsOf 3 = 1 := by kernel_rfl
theorem bytes5 : Try.prog.bytesOf 5 = 1 := by kernel_rfl
theorem bytes22 : Try.prog.bytesOf 22 = 24 := by kernel_rfl
theorem laidOut : laidOutB Try.prog = true := by kernel_rfl
def natOf : Value → Nat
  | .int _ z => z.toNat
  | _ => 0
theorem weights_all {H : Type} {P : Program} {e : TypeId} : ∀ {l : List (DataW H)} {d : DataW H}, d ∈ l → ∀ x ∈ d.weights P e, x ∈ DataW.weightsAll P e l
  | y :: r, d, h, x, hx => by
    rw [DataW.weightsAll]
    rcases List.mem_cons.1 h with h1 | h1
    · subst h1; exact List.mem_append_left _ hx
    · exact List.mem_append_right _ (weights_all h1 x hx)

theorem open_bytesW {H : Type} {enc : TypeId × Value → H} {W : World} {k : Nat} {cs : List Value} {d : DataW H} {q : List MemPlace} (h : DataW.trod enc Try.prog W 0 (fun _ => true) true k 22 cs = some (d, q)) (hw : ∀ x ∈ d.weights Try.prog 22, x ≤ reachBytes) :
    ∃ a n cap bs, cs = [.slice a n cap] ∧ Wide W (.slice a n cap) bs ∧ (∀ b ∈ bs, b < 256) ∧ bs.length = n ∧ n ≤ 140737488355326 := by
  rcases Go.Deep.open_slice1 Try.underlying22 cells5 h with ⟨rfl, _⟩ | ⟨a, len, cap, m, n, V, D, Pl, rfl, _, hl, hm, hmm, hxx, hall⟩
  · exact ⟨none, 0, 0, [], rfl, Or.inl (Or.inl ⟨rfl, rfl⟩), by simp, rfl, by omega⟩
  · have hmc : m = cap := by simpa using hmm
    subst hmc
    obtain ⟨hxd, _⟩ := Prod.mk.inj hxx
    have hv : ∀ i, i < m → ∃ z : Nat, V i = .int .u8 (z : Int) ∧ z < 256 := fun i hi => by
      obtain ⟨z, hz, _, hw⟩ := DataW.trod_int Try.underlying5 (hall i (by omega)).2
      have hb := bounds_u8 hw
      have e : V i = .int .u8 z := by simpa using hz
      exact ⟨z.toNat, by rw [e]; congr 1; omega, by omega⟩
    have hlen : ((List.range len).map fun i => natOf (V i)).length = len := by simp
    refine ⟨some a, len, m, (List.range len).map fun i => natOf (V i), rfl, ?_, ?_, hlen, ?_⟩
    · by_cases h0 : m = 0
      · subst h0
        have h00 : len = 0 := by omega
        subst h00
        exact Or.inr ⟨a, rfl, by simp⟩
      · have h6 := (hall 0 (by omega)).1
        have e0 : a.add 0 = a := by simp [Addr.add]
        rw [e0] at h6
        have hsp := World.cell?_spot h6
        have hbl := World.block_lt_of_cell? W _ h6
        obtain ⟨b, off, sp⟩ := a
        simp only at hsp
        subst hsp
        refine Or.inl (Or.inr ⟨b, off, m, by rw [hlen], by rw [hlen]; exact hl, hm, hbl, fun j hj => ?_⟩)
        rw [hlen] at hj
        have h7 := (hall j (by omega)).1
        rw [add_none] at h7
        obtain ⟨z, hz, hz2⟩ := hv j (by omega)
        rw [h7, hz]
        simp [hj, natOf, hz]
    · intro b hb
      obtain ⟨i, hi, rfl⟩ := List.mem_map.1 hb
      obtain ⟨z, hz, hz2⟩ := hv i (by have : i < len := by simpa using hi
                                      omega)
      rw [hz]; simpa [natOf] using hz2
    · have h3 := hw ((((List.range len).map D).length + ((List.range (m - len)).map fun j => D (len + j)).length) * Try.prog.bytesOf 5) (by rw [hxd]; simp [DataW.weights, Try.underlying22])
      rw [bytes5] at h3
      simp only [List.length_map, List.length_range, reachBytes] at h3
      omega

theorem cells_op : Try.prog.cellsOf 24 = 4 := by kernel_rfl
theorem cells_rec : Try.prog.cellsOf 26 = 11 := by kernel_rfl
theorem bytes_rec : Try.prog.bytesOf 26 = 136 := by kernel_rfl
/-- A record that came in: its lists, their bytes, how long they are at most. -/
structure RecIn (W : World) (p : Pl) (l : Lo) : Prop where
  w : RecW W p l
  kb : ∀ b ∈ p.key, b < 256
  vb : ∀ b ∈ p.val, b < 256
  cb : ∀ b ∈ p.copy, b < 256
  k2 : p.key.length ≤ 140737488355326
  v2 : p.val.length ≤ 140737488355326
  c2 : p.copy.length ≤ 140737488355326
theorem trod_four {H : Type} {enc : TypeId × Value → H} {P : Program} {w : World} {base : Nat} {spare : Nat → Bool} {held : Bool} {t : TypeId} {f0 f1 f2 f3 : Field} {fuel : Nat} {cs : List Value} {d : DataW H} {q : List MemPlace} (ht : P.underlying t = some (.struct #[f0, f1, f2, f3])) (h : DataW.trod enc P w base spare held fuel t cs = some (d, q)) :
    ∃ (y0 y1 y2 y3 : DataW H × List MemPlace) (n : Nat), d = .agg [y0.1, y1.1, y2.1, y3.1] ∧ cs.length = P.cellsOf t ∧ DataW.trod enc P w base spare held n f0.type ((cs.drop f0.offset).take (P.cellsOf f0.type)) = some y0 ∧
      DataW.trod enc P w base spare held n f1.type ((cs.drop f1.offset).take (P.cellsOf f1.type)) = some y1 ∧ DataW.trod enc P w base spare held n f2.type ((cs.drop f2.offset).take (P.cellsOf f2.type)) = some y2 ∧ DataW.trod enc P w base spare held n f3.type ((cs.drop f3.offset).take (P.cellsOf f3.type)) = some y3 := by
  obtain ⟨xs, n, _, hx, hl, hlen, hf⟩ := DataW.trod_struct ht h
  match xs, hlen with
  | [y0, y1, y2, y3], _ => exact ⟨y0, y1, y2, y3, n, by obtain ⟨hxd, _⟩ := Prod.mk.inj hx; simpa using hxd, hl, by simpa using hf 0 f0 rfl, by simpa using hf 1 f1 rfl, by simpa using hf 2 f2 rfl, by simpa using hf 3 f3 rfl⟩
theorem trod_eight {H : Type} {enc : TypeId × Value → H} {P : Program} {w : World} {base : Nat} {spare : Nat → Bool} {held : Bool} {t : TypeId} {f0 f1 f2 f3 f4 f5 f6 f7 : Field} {fuel : Nat} {cs : List Value} {d : DataW H} {q : List MemPlace} (ht : P.underlying t = some (.struct #[f0, f1, f2, f3, f4, f5, f6, f7])) (h : DataW.trod enc P w base spare held fuel t cs = some (d, q)) :
    ∃ (y0 y1 y2 y3 y4 y5 y6 y7 : DataW H × List MemPlace) (n : Nat), d = .agg [y0.1, y1.1, y2.1, y3.1, y4.1, y5.1, y6.1, y7.1] ∧ cs.length = P.cellsOf t ∧ DataW.trod enc P w base spare held n f0.type ((cs.drop f0.offset).take (P.cellsOf f0.type)) = some y0 ∧
      DataW.trod enc P w base spare held n f1.type ((cs.drop f1.offset).take (P.cellsOf f1.type)) = some y1 ∧ DataW.trod enc P w base spare held n f2.type ((cs.drop f2.offset).take (P.cellsOf f2.type)) = some y2 ∧ DataW.trod enc P w base spare held n f3.type ((cs.drop f3.offset).take (P.cellsOf f3.type)) = some y3 ∧
      DataW.trod enc P w base spare held n f4.type ((cs.drop f4.offset).take (P.cellsOf f4.type)) = some y4 ∧ DataW.trod enc P w base spare held n f5.type ((cs.drop f5.offset).take (P.cellsOf f5.type)) = some y5 ∧ DataW.trod enc P w base spare held n f6.type ((cs.drop f6.offset).take (P.cellsOf f6.type)) = some y6 ∧ DataW.trod enc P w base spare held n f7.type ((cs.drop f7.offset).take (P.cellsOf f7.type)) = some y7 := by
  obtain ⟨xs, n, _, hx, hl, hlen, hf⟩ := DataW.trod_struct ht h
  match xs, hlen with
  | [y0, y1, y2, y3, y4, y5, y6, y7], _ => exact ⟨y0, y1, y2, y3, y4, y5, y6, y7, n, by obtain ⟨hxd, _⟩ := Prod.mk.inj hx; simpa using hxd, hl, by simpa using hf 0 f0 rfl, by simpa using hf 1 f1 rfl, by simpa using hf 2 f2 rfl, by simpa using hf 3 f3 rfl, by simpa using hf 4 f4 rfl, by simpa using hf 5 f5 rfl, by simpa using hf 6 f6 rfl, by simpa using hf 7 f7 rfl⟩
theorem list_four (l : List Value) (h : l.length = 4) : ∃ a b c d, l = [a, b, c, d] := by
  match l, h with
  | [a, b, c, d], _ => exact ⟨a, b, c, d, rfl⟩
theorem list_eleven (l : List Value) (h : l.length = 11) : ∃ c0 c1 c2 c3 c4 c5 c6 c7 c8 c9 c10, l = [c0, c1, c2, c3, c4, c5, c6, c7, c8, c9, c10] := by
  match l, h with
  | [c0, c1, c2, c3, c4, c5, c6, c7, c8, c9, c10], _ => exact ⟨c0, c1, c2, c3, c4, c5, c6, c7, c8, c9, c10, rfl⟩
theorem open_opA {H : Type} {enc : TypeId × Value → H} {W : World} {k : Nat} {cs : List Value} {d : DataW H} {q : List MemPlace} (h : DataW.trod enc Try.prog W 0 (fun _ => true) true k 24 cs = some (d, q)) (hw : ∀ x ∈ d.weights Try.prog 24, x ≤ reachBytes) :
    ∃ (kd rev : Int) (ka va : Option Addr) (kc vc : Nat) (key val : List Nat), cs = [.int .i64 kd, .slice ka key.length kc, .slice va val.length vc, .int .i64 rev] ∧ Wide W (.slice ka key.length kc) key ∧ Wide W (.slice va val.length vc) val ∧ (∀ b ∈ key, b < 256) ∧ (∀ b ∈ val, b < 256) ∧ key.length ≤ 140737488355326 ∧ val.length ≤ 140737488355326 := by
  obtain ⟨y0, y1, y2, y3, n, hd, hl, h0, h1, h2, h3⟩ := trod_four Try.underlying24 h
  rw [cells_op] at hl
  obtain ⟨c0, c1, c2, c3, rfl⟩ := list_four cs hl
  rw [cells_int] at h0 h3
  rw [cells22] at h1 h2
  obtain ⟨x0, e0, -, w0⟩ := DataW.trod_int Try.underlying3 h0
  obtain ⟨x3, e3, -, w3⟩ := DataW.trod_int Try.underlying3 h3
  have e0' : c0 = .int .i64 x0 := by simpa using e0
  have e3' : c3 = .int .i64 x3 := by simpa using e3
  obtain ⟨ka, kn, kc, key, e1, g1, g2, g3, g4⟩ := open_bytesW (d := y1.1) (q := y1.2) (by simpa using h1) (fun x hx' => hw x (by
    rw [hd]
    simp only [DataW.weights, Try.underlying24]
    exact DataW.weights_mem_each (j := 1) (t := 22) (d := y1.1) rfl rfl x hx'))
  obtain ⟨va, vn, vc, val, e2, f1, f2, f3, f4⟩ := open_bytesW (d := y2.1) (q := y2.2) (by simpa using h2) (fun x hx' => hw x (by
    rw [hd]
    simp only [DataW.weights, Try.underlying24]
    exact DataW.weights_mem_each (j := 2) (t := 22) (d := y2.1) rfl rfl x hx'))
  subst g3
  subst f3
  have e1' : c1 = .slice ka key.length kc := by simpa using e1
  have e2' : c2 = .slice va val.length vc := by simpa using e2
  exact ⟨x0, x3, ka, va, kc, vc, key, val, by rw [e0', e1', e2', e3'], g1, f1, g2, f2, g4, f4⟩
theorem open_record {H : Type} {enc : TypeId × Value → H} {W : World} {k : Nat} {cs : List Value} {d : DataW H} {q : List MemPlace} (h : DataW.trod enc Try.prog W 0 (fun _ => true) true k 26 cs = some (d, q)) (hw : ∀ x ∈ d.weights Try.prog 26, x ≤ reachBytes) :
    ∃ p l, cs = (rcc p l).toList ∧ RecIn W p l := by
  obtain ⟨y0, y1, y2, y3, y4, y5, y6, y7, n, hd, hl, h0, h1, h2, h3, h4, h5, h6, h7⟩ := trod_eight Try.underlying26 h
  rw [cells_rec] at hl
  obtain ⟨c0, c1, c2, c3, c4, c5, c6, c7, c8, c9, c10, rfl⟩ := list_eleven cs hl
  rw [cells_int] at h0 h1 h2 h3 h4 h5
  rw [cells_op] at h6
  rw [cells22] at h7
  obtain ⟨x0, e0, -, w0⟩ := DataW.trod_int Try.underlying3 h0
  obtain ⟨x1, e1, -, w1⟩ := DataW.trod_int Try.underlying3 h1
  obtain ⟨x2, e2, -, w2⟩ := DataW.trod_int Try.underlying3 h2
  obtain ⟨x3, e3, -, w3⟩ := DataW.trod_int Try.underlying3 h3
  obtain ⟨x4, e4, -, w4⟩ := DataW.trod_int Try.underlying3 h4
  obtain ⟨x5, e5, -, w5⟩ := DataW.trod_int Try.underlying3 h5
  have e0' : c0 = .int .i64 x0 := by simpa using e0
  have e1' : c1 = .int .i64 x1 := by simpa using e1
  have e2' : c2 = .int .i64 x2 := by simpa using e2
  have e3' : c3 = .int .i64 x3 := by simpa using e3
  have e4' : c4 = .int .i64 x4 := by simpa using e4
  have e5' : c5 = .int .i64 x5 := by simpa using e5
  obtain ⟨kd, rev, ka, va, kc, vc, key, val, e6, g1, g2, g3, g4, g5, g6⟩ := open_opA (d := y6.1) (q := y6.2) (by simpa using h6) (fun x hx' => hw x (by
    rw [hd]
    simp only [DataW.weights, Try.underlying26]
    exact DataW.weights_mem_each (j := 6) (t := 24) (d := y6.1) rfl rfl x hx'))
  obtain ⟨ca, cn, cc, cp, e7, f1, f2, f3, f4⟩ := open_bytesW (d := y7.1) (q := y7.2) (by simpa using h7) (fun x hx' => hw x (by
    rw [hd]
    simp only [DataW.weights, Try.underlying26]
    exact DataW.weights_mem_each (j := 7) (t := 22) (d := y7.1) rfl rfl x hx'))
  subst f3
  have e6' : c6 = .int .i64 kd ∧ c7 = .slice ka key.length kc ∧ c8 = .slice va val.length vc ∧ c9 = .int .i64 rev := by simpa using e6
  have e7' : c10 = .slice ca cp.length cc := by simpa using e7
  obtain ⟨z6, z7, z8, z9⟩ := e6'
  refine ⟨⟨x0, x1, x2, x3, x4, x5, kd, key, val, rev, cp⟩, ⟨ka, kc, va, vc, ca, cc⟩, ?_, ⟨⟨g1, g2, f1, Nat.le_trans g5 (by decide), Nat.le_trans g6 (by decide), Nat.le_trans f4 (by decide)⟩, g3, g4, f2, g5, g6, f4⟩⟩
  rw [e0', e1', e2', e3', e4', e5', z6, z7, z8, z9, e7']
  rfl
end Go.Proofs.Ytocmgfmfalaebab
