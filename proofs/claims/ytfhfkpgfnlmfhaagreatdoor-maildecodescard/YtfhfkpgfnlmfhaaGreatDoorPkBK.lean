/- A text of the base. -/
import Derived.Test.YtfhfkpgfnlmfhaaGreatDoorPkY
import Derived.Laws.BytesArg
/- Strings of bytes. -/
namespace Go.Proofs.YtfhfkpgfnlmfhaaGreatDoor
open Go.RowKit

def strB (bs : List Nat) : ByteArray := strOfNums (bs.map fun x : Nat => (x : Int))
theorem strB_inj {a b : List Nat} (ha : ∀ x ∈ a, x < 256) (hb : ∀ x ∈ b, x < 256) (h : strB a = strB b) : a = b := by
  have h1 : ∀ l : List Nat, (strB l).data.toList = l.map fun x => UInt8.ofNat x := fun l => by
    unfold strB strOfNums
    simp [List.map_map, Function.comp_def]
  have h2 : (a.map fun x => UInt8.ofNat x) = b.map fun x => UInt8.ofNat x := by rw [← h1, ← h1, h]
  have h3 : ∀ l : List Nat, (∀ x ∈ l, x < 256) → (l.map fun x => UInt8.ofNat x).map UInt8.toNat = l := fun l hl => by
    rw [List.map_map]
    conv => rhs; rw [← List.map_id l]
    apply List.map_congr_left
    intro x hx
    have := hl x hx
    simp [Nat.mod_eq_of_lt this]
  rw [← h3 a ha, ← h3 b hb, h2]
theorem conv_wide {w : World} {v : Value} {bs : List Nat} (h : Wide w v bs) : (convert 22 9 v).run Tryz.prog w = .ok (.string (strB bs)) w := by
  rcases h with (⟨rfl, rfl⟩ | ⟨b, off, cap, rfl, _, _, _, hc⟩) | ⟨a, rfl, rfl⟩
  · exact run_convert_bytes_nil w 22 5 Tryz.underlying22 Tryz.underlying5 0 0 9 Tryz.underlying9
  · refine run_convert_bytes_arg w 22 5 Tryz.underlying22 Tryz.underlying5 b off bs.length cap (bs.map fun x : Nat => (x : Int)) (by simp) (fun i hi => ?_) 9 Tryz.underlying9
    rw [hc i hi]
    congr 2
    simp [List.getD, List.getElem?_map, List.getElem?_eq_getElem hi]
  · have hl : (loadCells a 0).run Tryz.prog w = .ok (([] : List Int).map (Value.int .u8)).toArray w := by
      have := run_loadCells_list (P := Tryz.prog) w a [] (fun j v hj => by simp at hj)
      simpa using this
    rw [run_convert_bytes_string w 22 9 5 _ 0 0 Tryz.underlying22 Tryz.underlying5 Tryz.underlying9, run_bytesToString w _ 0 0 [] hl, foldl_push_bytes]
    simp [strB, strOfNums, ByteArray.empty, ByteArray.emptyWithCapacity]
    rfl
end Go.Proofs.YtfhfkpgfnlmfhaaGreatDoor
