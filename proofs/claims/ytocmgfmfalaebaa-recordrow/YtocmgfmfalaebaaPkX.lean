/- A text of the base. -/
import Derived.Test.YtocmgfmfalaebaaPkV
/- A row of records that came in. -/
namespace Go.Proofs.Ytocmgfmfalaebaa
open Go.ChangeShapes Go.WideShapes Go.ChangeAt Go.RowKit

/-- A slice of records that came in. -/
def RecRow (w : World) (v : Value) (zs : List (Pl × Lo)) : Prop :=
  ∃ a c, v = .slice a zs.length c ∧ zs.length ≤ 4611686018427387904 ∧ ∀ k z, zs[k]? = some z → RecIn w z.1 z.2 ∧ ∃ b off, a = some ⟨b, off, none⟩ ∧ b < w.heap.size ∧ ∀ j, j < 11 → w.cell? ⟨b, off + k * 11 + j, none⟩ = (rcc z.1 z.2)[j]?
theorem open_records {H : Type} {enc : TypeId × Value → H} {W : World} {k : Nat} {a : Option Addr} {n cap : Nat} {d : DataW H} {q : List MemPlace} (h : DataW.trod enc Try.prog W 0 (fun _ => true) true k 41 [.slice a n cap] = some (d, q)) (hw : ∀ x ∈ d.weights Try.prog 41, x ≤ reachBytes) :
    ∃ zs, RecRow W (.slice a n cap) zs := by
  rcases Go.Deep.open_slice Try.underlying41 h with ⟨hcs, _⟩ | ⟨y, len, cap', m, k', D, Pl', hcs, _, hl, hm, hmm, hxx, hall⟩
  · simp at hcs
    obtain ⟨rfl, rfl, rfl⟩ := hcs
    exact ⟨[], none, 0, rfl, by simp, fun j t hj => by simp at hj⟩
  · simp at hcs
    obtain ⟨rfl, rfl, rfl⟩ := hcs
    have hmc : m = cap := by simpa using hmm
    subst hmc
    obtain ⟨hxd, _⟩ := Prod.mk.inj hxx
    rw [cells_rec] at hall
    have hnb : n ≤ 4611686018427387904 := by
      have h3 := hw ((((List.range n).map D).length + ((List.range (m - n)).map fun j => D (n + j)).length) * Try.prog.bytesOf 26) (by rw [hxd]; simp [DataW.weights, Try.underlying41])
      rw [bytes_rec] at h3
      simp only [List.length_map, List.length_range, reachBytes] at h3
      omega
    have hin : ∀ i, i < n → ∀ y ∈ (D i).weights Try.prog 26, y ≤ reachBytes := by
      intro i hi y hy
      refine hw y ?_
      rw [hxd]
      simp only [DataW.weights, Try.underlying41]
      refine List.mem_cons_of_mem _ (List.mem_append_left _ (weights_all (d := D i) ?_ y hy))
      exact List.mem_map.2 ⟨i, by simpa using hi, rfl⟩
    have hex : ∀ i, ∃ z : Pl × Lo, i < n → (∀ j, j < 11 → W.cell? ((y.add (i * 11)).add j) = (rcc z.1 z.2)[j]?) ∧ RecIn W z.1 z.2 := by
      intro i
      by_cases hi : i < n
      · obtain ⟨cs', h1, h2⟩ := hall i (by omega)
        obtain ⟨p, l, h3, h4⟩ := open_record h2 (hin i hi)
        obtain ⟨_, _, h7⟩ := World.cells?_some h1
        rw [h3] at h7
        exact ⟨(p, l), fun _ => ⟨fun j hj => by simpa using h7 j hj, h4⟩⟩
      · exact ⟨(zeroP, nilL), fun h => absurd h hi⟩
    obtain ⟨f, hf⟩ := Classical.axiomOfChoice hex
    have hlen : ((List.range n).map f).length = n := by simp
    refine ⟨(List.range n).map f, some y, m, by rw [hlen], by rw [hlen]; omega, fun j t hj => ?_⟩
    have hjn : j < n := by have := (List.getElem?_eq_some_iff.1 hj).1; simpa using this
    simp [hjn] at hj
    subst hj
    obtain ⟨c1, c6⟩ := hf j hjn
    have hx0 : y.spot = none ∧ y.block < W.heap.size := by
      obtain ⟨cs', h1, _⟩ := hall 0 (by omega)
      obtain ⟨_, h2, h3⟩ := World.cells?_some h1
      have h4 := h3 0 (by omega)
      rw [List.getElem?_eq_getElem (by omega)] at h4
      have e0 : (y.add (0 * 11)).add 0 = y := by simp [Addr.add]
      rw [e0] at h4
      exact ⟨World.cell?_spot h4, World.block_lt_of_cell? W _ h4⟩
    obtain ⟨hsp, hbl⟩ := hx0
    refine ⟨c6, y.block, y.off, ?_, hbl, fun i hi => ?_⟩
    · obtain ⟨b, off, sp⟩ := y; simp only at hsp; subst hsp; rfl
    · have := c1 i hi
      rwa [add_add _ _ _ hsp] at this
end Go.Proofs.Ytocmgfmfalaebaa
