/- A script of streams that came in. -/
import Derived.Test.YtlcepoomjnpfpaaDoorArg
import Derived.Test.YtlcepoomjnpfpaaDoorStreamsW
import Derived.Deep.Slices
import Derived.Deep.Strs
namespace Go.Proofs.YtlcepoomjnpfpaaDoor
open Go.ChangeShapes Go.WideShapes Go.ChangeAt Go.RowKit

theorem add_none (b off j : Nat) : (⟨b, off, none⟩ : Addr).add j = ⟨b, off + j, none⟩ := by unfold Addr.add; split <;> simp_all
theorem cells_op : Tryd.prog.cellsOf 33 = 3 := by kernel_rfl
theorem cells_by : Tryd.prog.cellsOf 22 = 1 := by kernel_rfl
theorem cells_i : Tryd.prog.cellsOf 3 = 1 := by kernel_rfl
theorem cells_b : Tryd.prog.cellsOf 4 = 1 := by kernel_rfl
theorem bytes_op : Tryd.prog.bytesOf 33 = 40 := by kernel_rfl

theorem weights_all {H : Type} {P : Program} {e : TypeId} : ∀ {l : List (DataW H)} {d : DataW H}, d ∈ l → ∀ x ∈ d.weights P e, x ∈ DataW.weightsAll P e l
  | y :: r, d, h, x, hx => by
    rw [DataW.weightsAll]
    rcases List.mem_cons.1 h with h1 | h1
    · subst h1; exact List.mem_append_left _ hx
    · exact List.mem_append_right _ (weights_all h1 x hx)

/-- a slice of bytes within another datum -/
theorem open_bytes {H : Type} {enc : TypeId × Value → H} {W : World} {k : Nat} {v : Value} {d : DataW H} {q : List MemPlace} (h : DataW.trod enc Tryd.prog W 0 (fun _ => true) true k 22 [v] = some (d, q))
    (hw : ∀ x ∈ d.weights Tryd.prog 22, x ≤ reachBytes) : ∃ bs, Sees W v bs ∧ bs.length ≤ 140737488351232 := by
  rcases open_ints Tryd.underlying22 Tryd.underlying5 (by kernel_rfl) h with ⟨hcs, _⟩ | ⟨x, l, c, zs, hcs, _, hl, hm, hz, hxx, hcell, hwz⟩
  · simp at hcs
    subst hcs
    exact ⟨[], ⟨none, 0, rfl, by simp, by simp [maxLen], by simp, Or.inl rfl⟩, by simp⟩
  · simp at hcs
    subst hcs
    obtain ⟨hxd, _⟩ := Prod.mk.inj hxx
    have hz2 : zs.length = c := by simpa using hz
    obtain ⟨bs, h1, h2⟩ := sees_of_isRow (.inr ⟨x, rfl, hl, hm, hz2, hcell, hwz⟩)
    refine ⟨bs, h1, ?_⟩
    have h3 := hw (((lits (H := H) .u8 (zs.take l)).length + (lits (H := H) .u8 (zs.drop l)).length) * Tryd.prog.bytesOf 5) (by rw [hxd]; simp [DataW.weights, Tryd.underlying22])
    rw [bytes5] at h3
    simp only [lits, List.length_map, List.length_take, List.length_drop, reachBytes] at h3
    omega

/-- one step of the script -/
theorem open_op {H : Type} {enc : TypeId × Value → H} {W : World} {k : Nat} {cs : List Value} {d : DataW H} {q : List MemPlace} (h : DataW.trod enc Tryd.prog W 0 (fun _ => true) true k 33 cs = some (d, q))
    (hw : ∀ x ∈ d.weights Tryd.prog 33, x ≤ reachBytes) : ∃ o : Ord, cs = [.int .i64 o.who, o.dv, .bool o.ask] ∧ Sees W o.dv o.d ∧ o.d.length ≤ 140737488351232 := by
  obtain ⟨y0, y1, y2, n, hx, hl, h0, h1, h2⟩ := Go.Deep.trod_struct3 Tryd.underlying33 h
  rw [cells_op] at hl
  obtain ⟨c0, c1, c2, rfl⟩ : ∃ c0 c1 c2, cs = [c0, c1, c2] := by
    match cs, hl with
    | [c0, c1, c2], _ => exact ⟨c0, c1, c2, rfl⟩
  rw [cells_i] at h0
  rw [cells_by] at h1
  rw [cells_b] at h2
  obtain ⟨who, e0, -, -⟩ := DataW.trod_int Tryd.underlying3 h0
  obtain ⟨ask, e2, -⟩ := DataW.trod_bool Tryd.underlying4 h2
  have e0' : c0 = .int .i64 who := by simpa using e0
  have e2' : c2 = .bool ask := by simpa using e2
  obtain ⟨hxd, _⟩ := Prod.mk.inj hx
  obtain ⟨bs, hb1, hb2⟩ := open_bytes (v := c1) (d := y1.1) (q := y1.2) (by simpa using h1) (fun x hx' => hw x (by
    rw [hxd]
    simp only [DataW.weights, Tryd.underlying33]
    exact DataW.weights_mem_each (j := 1) (t := 22) (d := y1.1) rfl rfl x hx'))
  exact ⟨⟨who, c1, bs, ask⟩, by rw [e0', e2'], hb1, hb2⟩

theorem add_add (x : Addr) (i j : Nat) (h : x.spot = none) : (x.add i).add j = ⟨x.block, x.off + i + j, none⟩ := by
  obtain ⟨b, off, sp⟩ := x
  simp only at h
  subst h
  rw [add_none, add_none]

/-- a script that came in -/
theorem open_script {H : Type} {enc : TypeId × Value → H} {W : World} {k : Nat} {a : Option Addr} {n cap : Nat} {d : DataW H} {q : List MemPlace} (h : DataW.trod enc Tryd.prog W 0 (fun _ => true) true k 28 [.slice a n cap] = some (d, q))
    (hw : ∀ x ∈ d.weights Tryd.prog 28, x ≤ reachBytes) : ∃ os, Script W (.slice a n cap) os ∧ os.length ≤ 140737488351232 ∧ ∀ o ∈ os, o.d.length ≤ 140737488351232 := by
  rcases Go.Deep.open_slice Tryd.underlying28 h with ⟨hcs, _⟩ | ⟨x, len, cap', m, k', D, Pl, hcs, _, hl, hm, hmm, hxx, hall⟩
  · simp at hcs
    obtain ⟨rfl, rfl, rfl⟩ := hcs
    exact ⟨[], ⟨none, 0, rfl, by simp, by simp [maxLen], by simp, Or.inl rfl⟩, by simp, by simp⟩
  · simp at hcs
    obtain ⟨rfl, rfl, rfl⟩ := hcs
    obtain ⟨hxd, _⟩ := Prod.mk.inj hxx
    have hmc : m = cap := by simpa using hmm
    subst hmc
    rw [cells_op] at hall
    have hin : ∀ i, i < n → ∀ y ∈ (D i).weights Tryd.prog 33, y ≤ reachBytes := by
      intro i hi y hy
      refine hw y ?_
      rw [hxd]
      simp only [DataW.weights, Tryd.underlying28]
      refine List.mem_cons_of_mem _ (List.mem_append_left _ (weights_all (d := D i) ?_ y hy))
      exact List.mem_map.2 ⟨i, by simpa using hi, rfl⟩
    have hex : ∀ i, ∃ o : Ord, i < n → W.cell? ((x.add (i * 3)).add 0) = some (.int .i64 o.who) ∧ W.cell? ((x.add (i * 3)).add 1) = some o.dv ∧ W.cell? ((x.add (i * 3)).add 2) = some (.bool o.ask) ∧ Sees W o.dv o.d ∧ o.d.length ≤ 140737488351232 := by
      intro i
      by_cases hi : i < n
      · obtain ⟨cs', h1, h2⟩ := hall i (by omega)
        obtain ⟨o, h3, h4, h5⟩ := open_op h2 (hin i hi)
        obtain ⟨_, _, h6⟩ := World.cells?_some h1
        rw [h3] at h6
        exact ⟨o, fun _ => ⟨by simpa using h6 0 (by omega), by simpa using h6 1 (by omega), by simpa using h6 2 (by omega), h4, h5⟩⟩
      · exact ⟨⟨0, .bool true, [], true⟩, fun h => absurd h hi⟩
    obtain ⟨f, hf⟩ := Classical.axiomOfChoice hex
    have hlen : ((List.range n).map f).length = n := by simp
    refine ⟨(List.range n).map f, ⟨some x, m, by rw [hlen], by rw [hlen]; exact hl, hm, ?_, ?_⟩, ?_, ?_⟩
    · intro p hp
      obtain ⟨i, hi, rfl⟩ := List.mem_map.1 hp
      exact (hf i (by simpa using hi)).2.2.2.1
    · by_cases h0 : n = 0
      · left; subst h0; rfl
      · right
        have h6 := (hf 0 (by omega)).1
        have e0 : (x.add (0 * 3)).add 0 = x := by simp [Addr.add]
        rw [e0] at h6
        have hsp := World.cell?_spot h6
        have hbl := World.block_lt_of_cell? W _ h6
        refine ⟨x.block, x.off, by obtain ⟨b, off, sp⟩ := x; simp only at hsp; subst hsp; rfl, hbl, fun j p hp => ?_⟩
        have hj : j < n := by have := (List.getElem?_eq_some_iff.1 hp).1; simpa using this
        obtain ⟨c1, c2, c3, _⟩ := hf j hj
        rw [add_add _ _ _ hsp] at c1 c2 c3
        simp [hj] at hp
        subst hp
        exact ⟨c1, c2, c3⟩
    · have h3 := hw ((((List.range n).map D).length + ((List.range (m - n)).map fun j => D (n + j)).length) * Tryd.prog.bytesOf 33) (by rw [hxd]; simp [DataW.weights, Tryd.underlying28])
      rw [bytes_op] at h3
      simp only [List.length_map, List.length_range, reachBytes] at h3
      rw [hlen]
      omega
    · intro p hp
      obtain ⟨i, hi, rfl⟩ := List.mem_map.1 hp
      exact (hf i (by simpa using hi)).2.2.2.2
end Go.Proofs.YtlcepoomjnpfpaaDoor
