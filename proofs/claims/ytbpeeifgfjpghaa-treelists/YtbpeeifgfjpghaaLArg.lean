/- Slices of integers that came in. -/
import Derived.Test.YtbpeeifgfjpghaaLLoop
import Derived.Deep.Strs
import Derived.ProofKit
import Derived.OpenShut
import Derived.SizedLaws
import Derived.Deep.Slices
import Derived.Test.YtbpeeifgfjpghaaRows
namespace Go.Proofs.Ytbpeeifgfjpghaa
open Go.ChangeShapes Go.WideShapes Go.ChangeAt Go.RowKit

/-- What is known of a slice of integers that came in. -/
def IsRow (k : IntKind) (w : World) (a : Option Addr) (len cap : Nat) (zs : List Int) : Prop :=
  (a = none ∧ len = 0 ∧ cap = 0 ∧ zs = []) ∨
  ∃ x, a = some x ∧ len ≤ cap ∧ cap ≤ maxLen ∧ zs.length = cap ∧ (∀ i, i < zs.length → w.cell? (x.add i) = some (.int k (zs.getD i 0))) ∧ ∀ n ∈ zs, (Lit.int k n).wf = true

theorem sees_of_isRow {w : World} {a : Option Addr} {len cap : Nat} {zs : List Int} (h : IsRow .u8 w a len cap zs) : ∃ bs, Sees w (.slice a len cap) bs ∧ bs.length = len := by
  rcases h with ⟨rfl, rfl, rfl, rfl⟩ | ⟨x, rfl, h1, h2, h3, h4, h5⟩
  · exact ⟨[], ⟨none, 0, rfl, by simp, by simp [maxLen], by simp, Or.inl rfl⟩, rfl⟩
  · have hlen : ((zs.take len).map Int.toNat).length = len := by simp [h3, h1]
    refine ⟨(zs.take len).map Int.toNat, ⟨some x, cap, by rw [hlen], by rw [hlen]; exact h1, h2, ?_, ?_⟩, hlen⟩
    · intro b hb
      obtain ⟨n, hn, rfl⟩ := List.mem_map.1 hb
      have := bounds_u8 (h5 n (List.mem_of_mem_take hn))
      omega
    · by_cases h0 : len = 0
      · left; subst h0; simp
      · right
        have hsp : x.spot = none := by
          have h6 := h4 0 (by omega)
          have e : x.add 0 = x := by simp [Addr.add]
          rw [e] at h6
          cases hx : x.spot with
          | none => rfl
          | some s =>
            exfalso
            unfold World.cell? at h6
            split at h6
            · rw [hx] at h6; simp at h6
            · cases h6
        obtain ⟨b, off, sp⟩ := x
        simp only at hsp
        subst hsp
        have hb : b < w.heap.size := by
          have h6 := h4 0 (by omega)
          have e : (⟨b, off, none⟩ : Addr).add 0 = ⟨b, off, none⟩ := by simp [Addr.add]
          rw [e] at h6
          rcases Nat.lt_or_ge b w.heap.size with h7 | h7
          · exact h7
          · simp [World.cell?, Array.getElem?_eq_none h7] at h6
        refine ⟨b, off, rfl, hb, fun j hj => ?_⟩
        rw [hlen] at hj
        have h6 := h4 j (by omega)
        have hadd : (⟨b, off, none⟩ : Addr).add j = ⟨b, off + j, none⟩ := by unfold Addr.add; split <;> simp_all
        rw [hadd] at h6
        rw [h6]
        have hj2 : j < zs.length := by omega
        have hw := bounds_u8 (h5 zs[j] (List.getElem_mem hj2))
        simp only [List.getD, List.getElem?_map, List.getElem?_take_of_lt hj, List.getElem?_eq_getElem hj2, Option.map_some, Option.getD_some]
        congr 2
        omega

theorem seesI_of_isRow {w : World} {a : Option Addr} {len cap : Nat} {zs : List Int} (h : IsRow .i64 w a len cap zs) : ∃ l, SeesI w (.slice a len cap) l ∧ l.length = len ∧ ∀ n ∈ l, (Lit.int .i64 n).wf = true := by
  rcases h with ⟨rfl, rfl, rfl, rfl⟩ | ⟨x, rfl, h1, h2, h3, h4, h5⟩
  · exact ⟨[], SeesI.nil w, rfl, by simp⟩
  · have hlen : (zs.take len).length = len := by simp [h3, h1]
    refine ⟨zs.take len, ⟨some x, cap, by rw [hlen], by rw [hlen]; exact h1, h2, ?_⟩, hlen, fun n hn => h5 n (List.mem_of_mem_take hn)⟩
    · by_cases h0 : len = 0
      · left; subst h0; simp
      · right
        have hsp : x.spot = none := by
          have h6 := h4 0 (by omega)
          have e : x.add 0 = x := by simp [Addr.add]
          rw [e] at h6
          cases hx : x.spot with
          | none => rfl
          | some s =>
            exfalso
            unfold World.cell? at h6
            split at h6
            · rw [hx] at h6; simp at h6
            · cases h6
        obtain ⟨b, off, sp⟩ := x
        simp only at hsp
        subst hsp
        have hb : b < w.heap.size := by
          have h6 := h4 0 (by omega)
          have e : (⟨b, off, none⟩ : Addr).add 0 = ⟨b, off, none⟩ := by simp [Addr.add]
          rw [e] at h6
          rcases Nat.lt_or_ge b w.heap.size with h7 | h7
          · exact h7
          · simp [World.cell?, Array.getElem?_eq_none h7] at h6
        refine ⟨b, off, rfl, hb, fun j hj => ?_⟩
        rw [hlen] at hj
        have h6 := h4 j (by omega)
        have hadd : (⟨b, off, none⟩ : Addr).add j = ⟨b, off + j, none⟩ := by unfold Addr.add; split <;> simp_all
        rw [hadd] at h6
        rw [h6]
        have hj2 : j < zs.length := by omega
        simp only [List.getD, List.getElem?_take_of_lt hj, List.getElem?_eq_getElem hj2, Option.getD_some]

theorem bytes5 : Try.prog.bytesOf 5 = 1 := by kernel_rfl
theorem bytes3 : Try.prog.bytesOf 3 = 8 := by kernel_rfl
theorem laidOut : laidOutB Try.prog = true := by kernel_rfl
theorem add_none (b off j : Nat) : (⟨b, off, none⟩ : Addr).add j = ⟨b, off + j, none⟩ := by unfold Addr.add; split <;> simp_all
theorem cells_bytes : Try.prog.cellsOf 48 = 1 := by kernel_rfl
theorem bytes_bytes : Try.prog.bytesOf 48 = 24 := by kernel_rfl

theorem weights_all {H : Type} {P : Program} {e : TypeId} : ∀ {l : List (DataW H)} {d : DataW H}, d ∈ l → ∀ x ∈ d.weights P e, x ∈ DataW.weightsAll P e l
  | y :: r, d, h, x, hx => by
    rw [DataW.weightsAll]
    rcases List.mem_cons.1 h with h1 | h1
    · subst h1; exact List.mem_append_left _ hx
    · exact List.mem_append_right _ (weights_all h1 x hx)

/-- a slice of bytes within another datum -/
theorem open_bytes {H : Type} {enc : TypeId × Value → H} {W : World} {k : Nat} {v : Value} {d : DataW H} {q : List MemPlace} (h : DataW.trod enc Try.prog W 0 (fun _ => true) true k 48 [v] = some (d, q))
    (hw : ∀ x ∈ d.weights Try.prog 48, x ≤ reachBytes) : ∃ bs, Sees W v bs ∧ bs.length ≤ 140737488351232 := by
  rcases open_ints Try.underlying48 Try.underlying5 (by kernel_rfl) h with ⟨hcs, _⟩ | ⟨x, l, c, zs, hcs, _, hl, hm, hz, hxx, hcell, hwz⟩
  · simp at hcs
    subst hcs
    exact ⟨[], ⟨none, 0, rfl, by simp, by simp [maxLen], by simp, Or.inl rfl⟩, by simp⟩
  · simp at hcs
    subst hcs
    obtain ⟨hxd, _⟩ := Prod.mk.inj hxx
    have hz2 : zs.length = c := by simpa using hz
    obtain ⟨bs, h1, h2⟩ := sees_of_isRow (.inr ⟨x, rfl, hl, hm, hz2, hcell, hwz⟩)
    refine ⟨bs, h1, ?_⟩
    have h3 := hw (((lits (H := H) .u8 (zs.take l)).length + (lits (H := H) .u8 (zs.drop l)).length) * Try.prog.bytesOf 5) (by rw [hxd]; simp [DataW.weights, Try.underlying48])
    rw [bytes5] at h3
    simp only [lits, List.length_map, List.length_take, List.length_drop, reachBytes] at h3
    omega

/-- a slice of slices of bytes that came in -/
theorem open_parts {H : Type} {enc : TypeId × Value → H} {W : World} {k : Nat} {a : Option Addr} {n cap : Nat} {d : DataW H} {q : List MemPlace} (h : DataW.trod enc Try.prog W 0 (fun _ => true) true k 46 [.slice a n cap] = some (d, q))
    (hw : ∀ x ∈ d.weights Try.prog 46, x ≤ reachBytes) : ∃ ps, ListsA W (.slice a n cap) ps ∧ ps.length = n ∧ n * 24 ≤ 140737488351232 ∧ ∀ p ∈ ps, p.2.length ≤ 140737488351232 := by
  rcases Go.Deep.open_slice1 Try.underlying46 cells_bytes h with ⟨hcs, _⟩ | ⟨x, len, cap', m, k', V, D, Pl, hcs, _, hl, hm, hmm, hxx, hall⟩
  · simp at hcs
    obtain ⟨rfl, rfl, rfl⟩ := hcs
    exact ⟨[], ⟨none, 0, rfl, by simp, by simp [maxLen], by simp, Or.inl rfl⟩, rfl, by omega, by simp⟩
  · simp at hcs
    obtain ⟨rfl, rfl, rfl⟩ := hcs
    obtain ⟨hxd, _⟩ := Prod.mk.inj hxx
    have hmc : m = cap := by simpa using hmm
    subst hmc
    have hin : ∀ i, i < n → ∀ y ∈ (D i).weights Try.prog 48, y ≤ reachBytes := by
      intro i hi y hy
      refine hw y ?_
      rw [hxd]
      simp only [DataW.weights, Try.underlying46]
      refine List.mem_cons_of_mem _ (List.mem_append_left _ (weights_all (d := D i) ?_ y hy))
      exact List.mem_map.2 ⟨i, by simpa using hi, rfl⟩
    have hex : ∀ i, ∃ b : List Nat, i < n → Sees W (V i) b ∧ b.length ≤ 140737488351232 := by
      intro i
      by_cases hi : i < n
      · obtain ⟨b, h1, h2⟩ := open_bytes (hall i (by omega)).2 (hin i hi)
        exact ⟨b, fun _ => ⟨h1, h2⟩⟩
      · exact ⟨[], fun h => absurd h hi⟩
    obtain ⟨f, hf⟩ := Classical.axiomOfChoice hex
    have hlen : ((List.range n).map fun i => (V i, f i)).length = n := by simp
    refine ⟨(List.range n).map fun i => (V i, f i), ⟨some x, m, by rw [hlen], by rw [hlen]; exact hl, hm, ?_, ?_⟩, hlen, ?_, ?_⟩
    · intro p hp
      obtain ⟨i, hi, rfl⟩ := List.mem_map.1 hp
      exact hf i (by simpa using hi)
    · by_cases h0 : n = 0
      · left; subst h0; rfl
      · right
        have h6 := (hall 0 (by omega)).1
        have e0 : x.add 0 = x := by simp [Addr.add]
        rw [e0] at h6
        have hsp := World.cell?_spot h6
        have hbl := World.block_lt_of_cell? W _ h6
        obtain ⟨b, off, sp⟩ := x
        simp only at hsp hbl
        subst hsp
        refine ⟨b, off, rfl, hbl, fun j p hp => ?_⟩
        have hj : j < n := by have := (List.getElem?_eq_some_iff.1 hp).1; simpa using this
        have h7 := (hall j (by omega)).1
        rw [add_none] at h7
        rw [h7]
        simp [hj] at hp
        rw [← hp]
    · have h3 := hw ((((List.range n).map D).length + ((List.range (m - n)).map fun j => D (n + j)).length) * Try.prog.bytesOf 48) (by rw [hxd]; simp [DataW.weights, Try.underlying46])
      rw [bytes_bytes] at h3
      simp only [List.length_map, List.length_range, reachBytes] at h3
      omega
    · intro p hp
      obtain ⟨i, hi, rfl⟩ := List.mem_map.1 hp
      exact (hf i (by simpa using hi)).2
end Go.Proofs.Ytbpeeifgfjpghaa
