/- A text of the base. -/
import Derived.Test.YtfhfkpgfnlmfhaaGreatDoorPkG
import Derived.Shelf.Spec.SlicesInsert
import Derived.Deep.RegionLaw
import Derived.Lib.AppendZerosOnto
/- slices.Insert at []byte, of a slice that is owned, of bytes in other memory. -/
namespace Go.Proofs.YtfhfkpgfnlmfhaaGreatDoor
open Go.RowKit

theorem blk_setCells {b : Nat} {t : TypeId} : ∀ (vs : List Value) (o : Nat) (w : World) (cur : Array Value), Blk w b cur t → ∃ cur', Blk (w.setCells b o vs) b cur' t ∧ cur'.size = cur.size
  | [], _, _, cur, h => ⟨cur, h, rfl⟩
  | v :: r, o, w, cur, h => by
    obtain ⟨c', h1, h2⟩ := blk_setCells r (o + 1) (w.setCell ⟨b, o, none⟩ v) _ (h.set o v)
    exact ⟨c', h1, by rw [h2]; simp⟩

theorem kept_setCells {F : List Nat} {a : World} {b : Nat} (hb : b ∈ F ∨ a.heap.size ≤ b) : ∀ (vs : List Value) (o : Nat) (w : World), Kept F a w → Kept F a (w.setCells b o vs)
  | [], _, _, h => h
  | v :: r, o, _, h => kept_setCells hb r (o + 1) _ (h.setCell (p := ⟨b, o, none⟩) hb v)

/-- A block whose first cells are known cell by cell owns them. -/
theorem own_of_cells {w : World} {g : Nat} {cur : Array Value} (hb : Blk w g cur 5) (bs : List Nat) (cap : Nat) (hs : cur.size = cap) (hn : bs.length ≤ cap) (hm : cap ≤ maxLen)
    (hc : ∀ j, j < bs.length → w.cell? ⟨g, j, none⟩ = some (.int .u8 (bs.getD j 0 : Nat))) :
    w.ownsRow 0 5 1 (.slice (some ⟨g, 0, none⟩) bs.length cap) bs.length (u8s bs) := by
  refine ⟨by simp [u8s], Or.inr ⟨g, cap, cur, rfl, Nat.zero_le _, hb, hn, hm, by omega, ?_⟩⟩
  apply List.ext_getElem?
  intro j
  by_cases hj : j < bs.length
  · have := hc j hj
    rw [hb.cell] at this
    rw [List.getElem?_take, if_pos (by omega), Array.getElem?_toList, this]
    simp [u8s, List.getElem?_eq_getElem hj]
  · rw [List.getElem?_eq_none (by simp; omega), List.getElem?_eq_none (by simp [u8s]; omega)]

theorem getD_ins (bs fs : List Nat) (i j : Nat) (hi : i ≤ bs.length) :
    (bs.take i ++ fs ++ bs.drop i).getD j 0 = if j < i then bs.getD j 0 else if j < i + fs.length then fs.getD (j - i) 0 else bs.getD (j - fs.length) 0 := by
  simp only [List.getD, List.append_assoc, List.getElem?_append, List.length_take, List.getElem?_take, List.getElem?_drop]
  rw [Nat.min_eq_left hi]
  by_cases h1 : j < i
  · simp [h1]
  · by_cases h2 : j < i + fs.length
    · simp [h1, h2, show j - i < fs.length by omega]
    · simp [h1, h2, show ¬ j - i < fs.length by omega, show i + (j - i - fs.length) = j - fs.length by omega]

theorem u8_get {bs : List Nat} {j : Nat} {v : Value} (h : (u8s bs)[j]? = some v) : j < bs.length ∧ v = .int .u8 (bs.getD j 0 : Nat) := by
  have hj : j < bs.length := by have := (List.getElem?_eq_some_iff.1 h).1; simpa [u8s] using this
  refine ⟨hj, ?_⟩
  simp [u8s, List.getElem?_eq_getElem hj] at h
  rw [← h]; simp [List.getElem?_eq_getElem hj]

theorem Tryz.z5 (w : World) : (Go.sizeOf 5).run Tryz.prog w = .ok 1 w := by kernel_rfl

end Go.Proofs.YtfhfkpgfnlmfhaaGreatDoor
