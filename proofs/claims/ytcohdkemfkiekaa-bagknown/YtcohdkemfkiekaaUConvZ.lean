/- Bytes as texts, texts as bytes. -/
import Derived.Test.YtcohdkemfkiekaaUSmZ
import Derived.Laws.BytesArg
import Derived.Lib.ConvBytes
namespace Go.Proofs.Ytcohdkemfkiekaa
open Go.RowKit

theorem strB_list (l : List Nat) : (strB l).data.toList = l.map fun x => UInt8.ofNat x := by
  unfold strB strOfNums
  simp
theorem strB_size (l : List Nat) : (strB l).size = l.length := by
  have := congrArg List.length (strB_list l)
  rw [List.length_map, Array.length_toList] at this
  exact this
theorem strB_inj {a b : List Nat} (ha : ∀ x ∈ a, x < 256) (hb : ∀ x ∈ b, x < 256) (h : strB a = strB b) : a = b := by
  have h2 : a.map (fun x => UInt8.ofNat x) = b.map (fun x => UInt8.ofNat x) := by rw [← strB_list, ← strB_list, h]
  have h3 : ∀ l : List Nat, (∀ x ∈ l, x < 256) → (l.map (fun x => UInt8.ofNat x)).map UInt8.toNat = l := fun l hl => by
    rw [List.map_map]
    conv => rhs; rw [← List.map_id l]
    apply List.map_congr_left
    intro x hx
    have := hl x hx
    simp [Nat.mod_eq_of_lt this]
  rw [← h3 a ha, ← h3 b hb, h2]
/-- a text's bytes -/
def byts (s : ByteArray) : List Nat := s.data.toList.map UInt8.toNat
theorem byts_len (s : ByteArray) : (byts s).length = s.size := by unfold byts; rw [List.length_map, Array.length_toList]; rfl
theorem byts_lt (s : ByteArray) : ∀ x ∈ byts s, x < 256 := by
  intro x hx
  obtain ⟨u, -, rfl⟩ := List.mem_map.1 hx
  exact u.toNat_lt
theorem byts_strB {l : List Nat} (h : ∀ x ∈ l, x < 256) : byts (strB l) = l := by
  unfold byts
  rw [strB_list, List.map_map]
  conv => rhs; rw [← List.map_id l]
  apply List.map_congr_left
  intro x hx
  have := h x hx
  simp [Nat.mod_eq_of_lt this]
theorem conv_sees {w : World} {v : Value} {bs : List Nat} (h : Sees w v bs) : (convert 29 9 v).run Try.prog w = .ok (.string (strB bs)) w := by
  obtain ⟨a, cap, rfl, h1, h2, h3, h4⟩ := h
  rcases h4 with rfl | ⟨b, off, rfl, hb, hc⟩
  · cases a with
    | none => exact run_convert_bytes_nil w 29 5 Try.underlying29 Try.underlying5 0 cap 9 Try.underlying9
    | some a =>
      have hl : (loadCells a 0).run Try.prog w = .ok (([] : List Int).map (Value.int .u8)).toArray w := by
        have := run_loadCells_list (P := Try.prog) w a [] (fun j v hj => by simp at hj)
        simpa using this
      have := run_convert_bytes_string w 29 9 5 a 0 cap Try.underlying29 Try.underlying5 Try.underlying9
      rw [List.length_nil, this, run_bytesToString w _ 0 cap [] hl, foldl_push_bytes]
      simp [strB, strOfNums, ByteArray.empty, ByteArray.emptyWithCapacity]
      rfl
  · refine run_convert_bytes_arg w 29 5 Try.underlying29 Try.underlying5 b off bs.length cap (bs.map fun x : Nat => (x : Int)) (by simp) (fun i hi => ?_) 9 Try.underlying9
    rw [hc i (by simpa using hi)]
    congr 2
    simp [List.getD, List.getElem?_eq_getElem hi]
/-- new bytes -/
def NewS (w : World) (v : Value) (bs : List Nat) (w' : World) : Prop := Sees w' v bs ∧ ∀ k, v.ownBlock = some k → w.heap.size ≤ k
theorem kept_conv (w : World) (s : ByteArray) : Kept [] w (Lib.bytesWorld w 5 s) :=
  ⟨rfl, rfl, rfl, by rw [Lib.bytesWorld_size]; omega, fun k hk _ => Lib.bytesWorld_at_old w _ s k hk⟩
theorem run_bytes (w : World) (s : ByteArray) : (convert 9 29 (.string s)).run Try.prog w = .ok (.slice (some ⟨w.heap.size, 0, none⟩) s.size (grownCap w s.size 0 5)) (Lib.bytesWorld w 5 s) :=
  Lib.run_convert_string_bytes w 9 29 5 s Try.underlying9 Try.underlying29 Try.underlying5
end Go.Proofs.Ytcohdkemfkiekaa
