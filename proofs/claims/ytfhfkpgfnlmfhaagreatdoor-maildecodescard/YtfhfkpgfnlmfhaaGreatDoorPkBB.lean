/- A text of the base. -/
import Derived.Test.YtfhfkpgfnlmfhaaGreatDoorRows
import Derived.Test.YtfhfkpgfnlmfhaaGreatDoorPkBA
import Derived.Deep.Slices
import Derived.Deep.Strs
import Derived.SizedLaws
import Derived.ProofKit
import Derived.OpenShut
import Derived.JoinedCond
/- Messages that came in, each list within reach. -/
namespace Go.Proofs.YtfhfkpgfnlmfhaaGreatDoor
open Go.ChangeShapes Go.WideShapes Go.ChangeAt Go.RowKit

theorem add_none (b off j : Nat) : (⟨b, off, none⟩ : Addr).add j = ⟨b, off + j, none⟩ := by unfold Addr.add; split <;> simp_all
theorem add_add (x : Addr) (i j : Nat) (h : x.spot = none) : (x.add i).add j = ⟨x.block, x.off + i + j, none⟩ := by
  obtain ⟨b, off, sp⟩ := x
  simp only at h
  subst h
  rw [add_none, add_none]
theorem cells5 : Tryz.prog.cellsOf 5 = 1 := by kernel_rfl
theorem cells22 : Tryz.prog.cellsOf 22 = 1 := by kernel_rfl
theorem cells_int : Tryz.prog.cellsOf 3 = 1 := by kernel_rfl
theorem bytes5 : Tryz.prog.bytesOf 5 = 1 := by kernel_rfl
theorem bytes22 : Tryz.prog.bytesOf 22 = 24 := by kernel_rfl
theorem laidOut : laidOutB Tryz.prog = true := by kernel_rfl
def natOf : Value → Nat
  | .int _ z => z.toNat
  | _ => 0
theorem weights_all {H : Type} {P : Program} {e : TypeId} : ∀ {l : List (DataW H)} {d : DataW H}, d ∈ l → ∀ x ∈ d.weights P e, x ∈ DataW.weightsAll P e l
  | y :: r, d, h, x, hx => by
    rw [DataW.weightsAll]
    rcases List.mem_cons.1 h with h1 | h1
    · subst h1; exact List.mem_append_left _ hx
    · exact List.mem_append_right _ (weights_all h1 x hx)

theorem open_bytesW {H : Type} {enc : TypeId × Value → H} {W : World} {k : Nat} {cs : List Value} {d : DataW H} {q : List MemPlace} (h : DataW.trod enc Tryz.prog W 0 (fun _ => true) true k 22 cs = some (d, q)) (hw : ∀ x ∈ d.weights Tryz.prog 22, x ≤ reachBytes) :
    ∃ a n cap bs, cs = [.slice a n cap] ∧ Wide W (.slice a n cap) bs ∧ (∀ b ∈ bs, b < 256) ∧ bs.length = n ∧ n ≤ 140737488351232 := by
  rcases Go.Deep.open_slice1 Tryz.underlying22 cells5 h with ⟨rfl, _⟩ | ⟨a, len, cap, m, n, V, D, Pl, rfl, _, hl, hm, hmm, hxx, hall⟩
  · exact ⟨none, 0, 0, [], rfl, Or.inl (Or.inl ⟨rfl, rfl⟩), by simp, rfl, by omega⟩
  · have hmc : m = cap := by simpa using hmm
    subst hmc
    obtain ⟨hxd, _⟩ := Prod.mk.inj hxx
    have hv : ∀ i, i < m → ∃ z : Nat, V i = .int .u8 (z : Int) ∧ z < 256 := fun i hi => by
      obtain ⟨z, hz, _, hw⟩ := DataW.trod_int Tryz.underlying5 (hall i (by omega)).2
      have hb := bounds_u8 hw
      have e : V i = .int .u8 z := by simpa using hz
      exact ⟨z.toNat, by rw [e]; congr 1; omega, by omega⟩
    have hlen : ((List.range len).map fun i => natOf (V i)).length = len := by simp
    refine ⟨some a, len, m, (List.range len).map fun i => natOf (V i), rfl, ?_, ?_, hlen, ?_⟩
    · by_cases h0 : m = 0
      · subst h0
        have h00 : len = 0 := by omega
        subst h00
        exact Or.inr ⟨a, rfl, by simp⟩
      · have h6 := (hall 0 (by omega)).1
        have e0 : a.add 0 = a := by simp [Addr.add]
        rw [e0] at h6
        have hsp := World.cell?_spot h6
        have hbl := World.block_lt_of_cell? W _ h6
        obtain ⟨b, off, sp⟩ := a
        simp only at hsp
        subst hsp
        refine Or.inl (Or.inr ⟨b, off, m, by rw [hlen], by rw [hlen]; exact hl, hm, hbl, fun j hj => ?_⟩)
        rw [hlen] at hj
        have h7 := (hall j (by omega)).1
        rw [add_none] at h7
        obtain ⟨z, hz, hz2⟩ := hv j (by omega)
        rw [h7, hz]
        simp [hj, natOf, hz]
    · intro b hb
      obtain ⟨i, hi, rfl⟩ := List.mem_map.1 hb
      obtain ⟨z, hz, hz2⟩ := hv i (by have : i < len := by simpa using hi
                                      omega)
      rw [hz]; simpa [natOf] using hz2
    · have h3 := hw ((((List.range len).map D).length + ((List.range (m - len)).map fun j => D (len + j)).length) * Tryz.prog.bytesOf 5) (by rw [hxd]; simp [DataW.weights, Tryz.underlying22])
      rw [bytes5] at h3
      simp only [List.length_map, List.length_range, reachBytes] at h3
      omega

theorem open_bool1 {H : Type} {enc : TypeId × Value → H} {P : Program} {w : World} {base : Nat} {spare : Nat → Bool} {held : Bool} {r : Reach} {b0 : Nat} {t : TypeId} {v : Value} {d : DataW H} {ps : List MemPlace} (ht : P.underlying t = some .bool) (hval : Value.okWide P w r b0 t v) (hd : DataW.Trod enc P w base spare held t v d ps) :
    ∃ b, v = .bool b ∧ d = .lit (.bool b) ∧ ps = [] := by
  obtain ⟨b, rfl⟩ := Go.WideShapes.okWide_bool ht hval
  obtain ⟨fuel, hf⟩ := hd
  obtain ⟨b', h, hx⟩ := DataW.trod_bool ht hf
  simp [Value.cells] at h
  subst h
  simp only [Prod.mk.injEq] at hx
  exact ⟨b, rfl, hx.1, hx.2⟩
theorem cells_op : Tryz.prog.cellsOf 25 = 4 := by kernel_rfl
theorem cells_ans : Tryz.prog.cellsOf 28 = 5 := by kernel_rfl
theorem cells_mail : Tryz.prog.cellsOf 30 = 20 := by kernel_rfl
theorem cells_u64 : Tryz.prog.cellsOf 23 = 1 := by kernel_rfl
theorem cells_bool : Tryz.prog.cellsOf 4 = 1 := by kernel_rfl
theorem cells_errno : Tryz.prog.cellsOf 26 = 1 := by kernel_rfl
theorem trod_four {H : Type} {enc : TypeId × Value → H} {P : Program} {w : World} {base : Nat} {spare : Nat → Bool} {held : Bool} {t : TypeId} {f0 f1 f2 f3 : Field} {fuel : Nat} {cs : List Value} {d : DataW H} {q : List MemPlace} (ht : P.underlying t = some (.struct #[f0, f1, f2, f3])) (h : DataW.trod enc P w base spare held fuel t cs = some (d, q)) :
    ∃ (y0 y1 y2 y3 : DataW H × List MemPlace) (n : Nat), d = .agg [y0.1, y1.1, y2.1, y3.1] ∧ cs.length = P.cellsOf t ∧ DataW.trod enc P w base spare held n f0.type ((cs.drop f0.offset).take (P.cellsOf f0.type)) = some y0 ∧
      DataW.trod enc P w base spare held n f1.type ((cs.drop f1.offset).take (P.cellsOf f1.type)) = some y1 ∧
      DataW.trod enc P w base spare held n f2.type ((cs.drop f2.offset).take (P.cellsOf f2.type)) = some y2 ∧
      DataW.trod enc P w base spare held n f3.type ((cs.drop f3.offset).take (P.cellsOf f3.type)) = some y3 := by
  obtain ⟨xs, n, _, hx, hl, hlen, hf⟩ := DataW.trod_struct ht h
  match xs, hlen with
  | [y0, y1, y2, y3], _ => exact ⟨y0, y1, y2, y3, n, by obtain ⟨hxd, _⟩ := Prod.mk.inj hx; simpa using hxd, hl, by simpa using hf 0 f0 rfl, by simpa using hf 1 f1 rfl, by simpa using hf 2 f2 rfl, by simpa using hf 3 f3 rfl⟩
theorem trod_five {H : Type} {enc : TypeId × Value → H} {P : Program} {w : World} {base : Nat} {spare : Nat → Bool} {held : Bool} {t : TypeId} {f0 f1 f2 f3 f4 : Field} {fuel : Nat} {cs : List Value} {d : DataW H} {q : List MemPlace} (ht : P.underlying t = some (.struct #[f0, f1, f2, f3, f4])) (h : DataW.trod enc P w base spare held fuel t cs = some (d, q)) :
    ∃ (y0 y1 y2 y3 y4 : DataW H × List MemPlace) (n : Nat), d = .agg [y0.1, y1.1, y2.1, y3.1, y4.1] ∧ cs.length = P.cellsOf t ∧ DataW.trod enc P w base spare held n f0.type ((cs.drop f0.offset).take (P.cellsOf f0.type)) = some y0 ∧
      DataW.trod enc P w base spare held n f1.type ((cs.drop f1.offset).take (P.cellsOf f1.type)) = some y1 ∧
      DataW.trod enc P w base spare held n f2.type ((cs.drop f2.offset).take (P.cellsOf f2.type)) = some y2 ∧
      DataW.trod enc P w base spare held n f3.type ((cs.drop f3.offset).take (P.cellsOf f3.type)) = some y3 ∧
      DataW.trod enc P w base spare held n f4.type ((cs.drop f4.offset).take (P.cellsOf f4.type)) = some y4 := by
  obtain ⟨xs, n, _, hx, hl, hlen, hf⟩ := DataW.trod_struct ht h
  match xs, hlen with
  | [y0, y1, y2, y3, y4], _ => exact ⟨y0, y1, y2, y3, y4, n, by obtain ⟨hxd, _⟩ := Prod.mk.inj hx; simpa using hxd, hl, by simpa using hf 0 f0 rfl, by simpa using hf 1 f1 rfl, by simpa using hf 2 f2 rfl, by simpa using hf 3 f3 rfl, by simpa using hf 4 f4 rfl⟩
theorem trod_13 {H : Type} {enc : TypeId × Value → H} {P : Program} {w : World} {base : Nat} {spare : Nat → Bool} {held : Bool} {t : TypeId} {f0 f1 f2 f3 f4 f5 f6 f7 f8 f9 f10 f11 f12 : Field} {fuel : Nat} {cs : List Value} {d : DataW H} {q : List MemPlace} (ht : P.underlying t = some (.struct #[f0, f1, f2, f3, f4, f5, f6, f7, f8, f9, f10, f11, f12])) (h : DataW.trod enc P w base spare held fuel t cs = some (d, q)) :
    ∃ (y0 y1 y2 y3 y4 y5 y6 y7 y8 y9 y10 y11 y12 : DataW H × List MemPlace) (n : Nat), d = .agg [y0.1, y1.1, y2.1, y3.1, y4.1, y5.1, y6.1, y7.1, y8.1, y9.1, y10.1, y11.1, y12.1] ∧ cs.length = P.cellsOf t ∧ DataW.trod enc P w base spare held n f0.type ((cs.drop f0.offset).take (P.cellsOf f0.type)) = some y0 ∧
      DataW.trod enc P w base spare held n f1.type ((cs.drop f1.offset).take (P.cellsOf f1.type)) = some y1 ∧
      DataW.trod enc P w base spare held n f2.type ((cs.drop f2.offset).take (P.cellsOf f2.type)) = some y2 ∧
      DataW.trod enc P w base spare held n f3.type ((cs.drop f3.offset).take (P.cellsOf f3.type)) = some y3 ∧
      DataW.trod enc P w base spare held n f4.type ((cs.drop f4.offset).take (P.cellsOf f4.type)) = some y4 ∧
      DataW.trod enc P w base spare held n f5.type ((cs.drop f5.offset).take (P.cellsOf f5.type)) = some y5 ∧
      DataW.trod enc P w base spare held n f6.type ((cs.drop f6.offset).take (P.cellsOf f6.type)) = some y6 ∧
      DataW.trod enc P w base spare held n f7.type ((cs.drop f7.offset).take (P.cellsOf f7.type)) = some y7 ∧
      DataW.trod enc P w base spare held n f8.type ((cs.drop f8.offset).take (P.cellsOf f8.type)) = some y8 ∧
      DataW.trod enc P w base spare held n f9.type ((cs.drop f9.offset).take (P.cellsOf f9.type)) = some y9 ∧
      DataW.trod enc P w base spare held n f10.type ((cs.drop f10.offset).take (P.cellsOf f10.type)) = some y10 ∧
      DataW.trod enc P w base spare held n f11.type ((cs.drop f11.offset).take (P.cellsOf f11.type)) = some y11 ∧
      DataW.trod enc P w base spare held n f12.type ((cs.drop f12.offset).take (P.cellsOf f12.type)) = some y12 := by
  obtain ⟨xs, n, _, hx, hl, hlen, hf⟩ := DataW.trod_struct ht h
  match xs, hlen with
  | [y0, y1, y2, y3, y4, y5, y6, y7, y8, y9, y10, y11, y12], _ => exact ⟨y0, y1, y2, y3, y4, y5, y6, y7, y8, y9, y10, y11, y12, n, by obtain ⟨hxd, _⟩ := Prod.mk.inj hx; simpa using hxd, hl, by simpa using hf 0 f0 rfl, by simpa using hf 1 f1 rfl, by simpa using hf 2 f2 rfl, by simpa using hf 3 f3 rfl, by simpa using hf 4 f4 rfl, by simpa using hf 5 f5 rfl, by simpa using hf 6 f6 rfl, by simpa using hf 7 f7 rfl, by simpa using hf 8 f8 rfl, by simpa using hf 9 f9 rfl, by simpa using hf 10 f10 rfl, by simpa using hf 11 f11 rfl, by simpa using hf 12 f12 rfl⟩
theorem list_four (l : List Value) (h : l.length = 4) : ∃ c0 c1 c2 c3, l = [c0, c1, c2, c3] := by
  match l, h with
  | [c0, c1, c2, c3], _ => exact ⟨c0, c1, c2, c3, rfl⟩
theorem list_five (l : List Value) (h : l.length = 5) : ∃ c0 c1 c2 c3 c4, l = [c0, c1, c2, c3, c4] := by
  match l, h with
  | [c0, c1, c2, c3, c4], _ => exact ⟨c0, c1, c2, c3, c4, rfl⟩
theorem list_20 (l : List Value) (h : l.length = 20) : ∃ c0 c1 c2 c3 c4 c5 c6 c7 c8 c9 c10 c11 c12 c13 c14 c15 c16 c17 c18 c19, l = [c0, c1, c2, c3, c4, c5, c6, c7, c8, c9, c10, c11, c12, c13, c14, c15, c16, c17, c18, c19] := by
  match l, h with
  | [c0, c1, c2, c3, c4, c5, c6, c7, c8, c9, c10, c11, c12, c13, c14, c15, c16, c17, c18, c19], _ => exact ⟨c0, c1, c2, c3, c4, c5, c6, c7, c8, c9, c10, c11, c12, c13, c14, c15, c16, c17, c18, c19, rfl⟩
/-- A message that came in: its lists, their bytes, how long they are at most. -/
structure MailIn (W : World) (p : Ml) (l : Lm) : Prop where
  w : MW W p l
  k2 : ∀ o, isT o → (getT p o).length ≤ 140737488351232
  cp : p.copy.length ≤ 140737488351232
  cl : -9223372036854775808 ≤ p.client ∧ p.client ≤ 9223372036854775807
theorem open_opA {H : Type} {enc : TypeId × Value → H} {W : World} {k : Nat} {cs : List Value} {d : DataW H} {q : List MemPlace} (h : DataW.trod enc Tryz.prog W 0 (fun _ => true) true k 25 cs = some (d, q)) (hw : ∀ x ∈ d.weights Tryz.prog 25, x ≤ reachBytes) :
    ∃ (kd rev : Int) (ka va : Option Addr) (kc vc : Nat) (key val : List Nat), cs = [.int .i64 kd, .slice ka key.length kc, .slice va val.length vc, .int .i64 rev] ∧ Wide W (.slice ka key.length kc) key ∧ Wide W (.slice va val.length vc) val ∧ (∀ b ∈ key, b < 256) ∧ (∀ b ∈ val, b < 256) ∧ key.length ≤ 140737488351232 ∧ val.length ≤ 140737488351232 := by
  obtain ⟨y0, y1, y2, y3, n, hd, hl, h0, h1, h2, h3⟩ := trod_four Tryz.underlying25 h
  rw [cells_op] at hl
  obtain ⟨c0, c1, c2, c3, rfl⟩ := list_four cs hl
  rw [cells_int] at h0 h3
  rw [cells22] at h1 h2
  obtain ⟨x0, e0, -, w0⟩ := DataW.trod_int Tryz.underlying3 h0
  obtain ⟨x3, e3, -, w3⟩ := DataW.trod_int Tryz.underlying3 h3
  have e0' : c0 = .int .i64 x0 := by simpa using e0
  have e3' : c3 = .int .i64 x3 := by simpa using e3
  obtain ⟨ka, kn, kc, key, e1, g1, g2, g3, g4⟩ := open_bytesW (d := y1.1) (q := y1.2) (by simpa using h1) (fun x hx' => hw x (by
    rw [hd]
    simp only [DataW.weights, Tryz.underlying25]
    exact DataW.weights_mem_each (j := 1) (t := 22) (d := y1.1) rfl rfl x hx'))
  obtain ⟨va, vn, vc, val, e2, f1, f2, f3, f4⟩ := open_bytesW (d := y2.1) (q := y2.2) (by simpa using h2) (fun x hx' => hw x (by
    rw [hd]
    simp only [DataW.weights, Tryz.underlying25]
    exact DataW.weights_mem_each (j := 2) (t := 22) (d := y2.1) rfl rfl x hx'))
  subst g3
  subst f3
  have e1' : c1 = .slice ka key.length kc := by simpa using e1
  have e2' : c2 = .slice va val.length vc := by simpa using e2
  exact ⟨x0, x3, ka, va, kc, vc, key, val, by rw [e0', e1', e2', e3'], g1, f1, g2, f2, g4, f4⟩
theorem open_ansA {H : Type} {enc : TypeId × Value → H} {W : World} {k : Nat} {cs : List Value} {d : DataW H} {q : List MemPlace} (h : DataW.trod enc Tryz.prog W 0 (fun _ => true) true k 28 cs = some (d, q)) (hw : ∀ x ∈ d.weights Tryz.prog 28, x ≤ reachBytes) :
    ∃ (dn : Bool) (rev at_ : Int) (ka va : Option Addr) (kc vc : Nat) (key val : List Nat), cs = [.bool dn, .slice ka key.length kc, .slice va val.length vc, .int .i64 rev, .int .i64 at_] ∧ Wide W (.slice ka key.length kc) key ∧ Wide W (.slice va val.length vc) val ∧ (∀ b ∈ key, b < 256) ∧ (∀ b ∈ val, b < 256) ∧ key.length ≤ 140737488351232 ∧ val.length ≤ 140737488351232 := by
  obtain ⟨y0, y1, y2, y3, y4, n, hd, hl, h0, h1, h2, h3, h4⟩ := trod_five Tryz.underlying28 h
  rw [cells_ans] at hl
  obtain ⟨c0, c1, c2, c3, c4, rfl⟩ := list_five cs hl
  rw [cells_bool] at h0
  rw [cells_int] at h3 h4
  rw [cells22] at h1 h2
  obtain ⟨x0, e0, -⟩ := DataW.trod_bool Tryz.underlying4 h0
  obtain ⟨x3, e3, -, w3⟩ := DataW.trod_int Tryz.underlying3 h3
  obtain ⟨x4, e4, -, w4⟩ := DataW.trod_int Tryz.underlying3 h4
  have e0' : c0 = .bool x0 := by simpa using e0
  have e3' : c3 = .int .i64 x3 := by simpa using e3
  have e4' : c4 = .int .i64 x4 := by simpa using e4
  obtain ⟨ka, kn, kc, key, e1, g1, g2, g3, g4⟩ := open_bytesW (d := y1.1) (q := y1.2) (by simpa using h1) (fun x hx' => hw x (by
    rw [hd]
    simp only [DataW.weights, Tryz.underlying28]
    exact DataW.weights_mem_each (j := 1) (t := 22) (d := y1.1) rfl rfl x hx'))
  obtain ⟨va, vn, vc, val, e2, f1, f2, f3, f4⟩ := open_bytesW (d := y2.1) (q := y2.2) (by simpa using h2) (fun x hx' => hw x (by
    rw [hd]
    simp only [DataW.weights, Tryz.underlying28]
    exact DataW.weights_mem_each (j := 2) (t := 22) (d := y2.1) rfl rfl x hx'))
  subst g3
  subst f3
  have e1' : c1 = .slice ka key.length kc := by simpa using e1
  have e2' : c2 = .slice va val.length vc := by simpa using e2
  exact ⟨x0, x3, x4, ka, va, kc, vc, key, val, by rw [e0', e1', e2', e3', e4'], g1, f1, g2, f2, g4, f4⟩
theorem open_mail {H : Type} {enc : TypeId × Value → H} {W : World} {k : Nat} {cs : List Value} {d : DataW H} {q : List MemPlace} (h : DataW.trod enc Tryz.prog W 0 (fun _ => true) true k 30 cs = some (d, q)) (hw : ∀ x ∈ d.weights Tryz.prog 30, x ≤ reachBytes) :
    ∃ p l, cs = (mcc p l).toList ∧ MailIn W p l := by
  obtain ⟨y0, y1, y2, y3, y4, y5, y6, y7, y8, y9, y10, y11, y12, n, hd, hl, h0, h1, h2, h3, h4, h5, h6, h7, h8, h9, h10, h11, h12⟩ := trod_13 Tryz.underlying30 h
  rw [cells_mail] at hl
  obtain ⟨c0, c1, c2, c3, c4, c5, c6, c7, c8, c9, c10, c11, c12, c13, c14, c15, c16, c17, c18, c19, rfl⟩ := list_20 cs hl
  rw [cells_int] at h0 h1 h2 h3 h4 h7 h8 h12
  rw [cells_u64] at h5
  rw [cells22] at h6
  rw [cells_op] at h9
  rw [cells_errno] at h10
  rw [cells_ans] at h11
  obtain ⟨x0, e0, -, w0⟩ := DataW.trod_int Tryz.underlying3 h0
  obtain ⟨x1, e1, -, w1⟩ := DataW.trod_int Tryz.underlying3 h1
  obtain ⟨x2, e2, -, w2⟩ := DataW.trod_int Tryz.underlying3 h2
  obtain ⟨x3, e3, -, w3⟩ := DataW.trod_int Tryz.underlying3 h3
  obtain ⟨x4, e4, -, w4⟩ := DataW.trod_int Tryz.underlying3 h4
  obtain ⟨x7, e7, -, w7⟩ := DataW.trod_int Tryz.underlying3 h7
  obtain ⟨x8, e8, -, w8⟩ := DataW.trod_int Tryz.underlying3 h8
  obtain ⟨x12, e12, -, w12⟩ := DataW.trod_int Tryz.underlying3 h12
  obtain ⟨x5, e5, -, w5⟩ := DataW.trod_int Tryz.underlying23 h5
  obtain ⟨x10, e10, -, w10⟩ := DataW.trod_int Tryz.underlying26 h10
  have e0' : c0 = .int .i64 x0 := by simpa using e0
  have e1' : c1 = .int .i64 x1 := by simpa using e1
  have e2' : c2 = .int .i64 x2 := by simpa using e2
  have e3' : c3 = .int .i64 x3 := by simpa using e3
  have e4' : c4 = .int .i64 x4 := by simpa using e4
  have e7' : c7 = .int .i64 x7 := by simpa using e7
  have e8' : c8 = .int .i64 x8 := by simpa using e8
  have e12' : c19 = .int .i64 x12 := by simpa using e12
  have e5' : c5 = .int .u64 x5 := by simpa using e5
  have e10' : c13 = .int .i64 x10 := by simpa using e10
  have hr := bounds_u64 w5
  have hcl : -9223372036854775808 ≤ x7 ∧ x7 ≤ 9223372036854775807 := bounds_i64 w7
  obtain ⟨kd, rev, ka, va, kc, vc, key, val, e9, g1, g2, g3, g4, g5, g6⟩ := open_opA (d := y9.1) (q := y9.2) (by simpa using h9) (fun x hx' => hw x (by
    rw [hd]
    simp only [DataW.weights, Tryz.underlying30]
    exact DataW.weights_mem_each (j := 9) (t := 25) (d := y9.1) rfl rfl x hx'))
  obtain ⟨dn, arev, aat, xa, ya, xc, yc, akey, aval, e11, i1, i2, i3, i4, i5, i6⟩ := open_ansA (d := y11.1) (q := y11.2) (by simpa using h11) (fun x hx' => hw x (by
    rw [hd]
    simp only [DataW.weights, Tryz.underlying30]
    exact DataW.weights_mem_each (j := 11) (t := 28) (d := y11.1) rfl rfl x hx'))
  obtain ⟨ca, cn, cc, cp, e6, f1, f2, f3, f4⟩ := open_bytesW (d := y6.1) (q := y6.2) (by simpa using h6) (fun x hx' => hw x (by
    rw [hd]
    simp only [DataW.weights, Tryz.underlying30]
    exact DataW.weights_mem_each (j := 6) (t := 22) (d := y6.1) rfl rfl x hx'))
  subst f3
  have e9' : c9 = .int .i64 kd ∧ c10 = .slice ka key.length kc ∧ c11 = .slice va val.length vc ∧ c12 = .int .i64 rev := by simpa using e9
  have e11' : c14 = .bool dn ∧ c15 = .slice xa akey.length xc ∧ c16 = .slice ya aval.length yc ∧ c17 = .int .i64 arev ∧ c18 = .int .i64 aat := by simpa using e11
  have e6' : c6 = .slice ca cp.length cc := by simpa using e6
  obtain ⟨z9, z10, z11, z12⟩ := e9'
  obtain ⟨z14, z15, z16, z17, z18⟩ := e11'
  have hroot : ((x5.toNat : Nat) : Int) = x5 := by omega
  refine ⟨⟨x0, x1, x2, x3, x4, x5.toNat, cp, x7, x8, kd, key, val, rev, x10, dn, akey, aval, arev, aat, x12⟩, ⟨ca, cc, ka, kc, va, vc, xa, xc, ya, yc⟩, ?_, ⟨⟨?_, ?_, ?_, by show x5.toNat < _; omega⟩, ?_, f4, hcl⟩⟩
  · rw [e0', e1', e2', e3', e4', e5', e6', e7', e8', z9, z10, z11, z12, e10', z14, z15, z16, z17, z18, e12']
    simp only [mcc, hroot]
  · rintro o (rfl | rfl | rfl | rfl | rfl)
    · exact f1
    · exact g1
    · exact g2
    · exact i1
    · exact i2
  · rintro o (rfl | rfl | rfl | rfl | rfl)
    · exact Nat.le_trans f4 (by decide)
    · exact Nat.le_trans g5 (by decide)
    · exact Nat.le_trans g6 (by decide)
    · exact Nat.le_trans i5 (by decide)
    · exact Nat.le_trans i6 (by decide)
  · rintro o (rfl | rfl | rfl | rfl | rfl)
    · exact f2
    · exact g3
    · exact g4
    · exact i3
    · exact i4
  · rintro o (rfl | rfl | rfl | rfl | rfl)
    · exact f4
    · exact g5
    · exact g6
    · exact i5
    · exact i6
end Go.Proofs.YtfhfkpgfnlmfhaaGreatDoor
