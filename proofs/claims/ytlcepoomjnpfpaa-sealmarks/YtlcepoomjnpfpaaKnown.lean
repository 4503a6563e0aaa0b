/- Streams; sums that the document names. -/
import Derived.Test.YtlcepoomjnpfpaaMark
import Derived.Lib.SlBytesConst
namespace Go.Proofs.Ytlcepoomjnpfpaa
open Go.RowKit

/-- Bytes as cells. -/
def u8s (l : List Nat) : List Value := l.map fun b : Nat => Value.int .u8 (b : Int)
theorem u8s_length (l : List Nat) : (u8s l).length = l.length := by simp [u8s]
theorem u8s_at (l : List Nat) {j : Nat} (hj : j < l.length) : (u8s l)[j]? = some (.int .u8 (l.getD j 0 : Nat)) := by
  simp [u8s, List.getElem?_eq_getElem hj]

theorem Sees.of_blk {w : World} {b : Nat} {t : TypeId} {bs : List Nat} {n : Nat} (hn : bs.length = n) (h : Blk w b (u8s bs).toArray t) (hb : ∀ x ∈ bs, x < 256) (cap : Nat) (h1 : n ≤ cap) (h2 : cap ≤ 9223372036854775807) :
    Sees w (.slice (some ⟨b, 0, none⟩) n cap) bs := by
  subst hn
  refine ⟨_, cap, rfl, h1, by unfold maxLen; omega, hb, Or.inr ⟨b, 0, rfl, h.lt, fun j hj => ?_⟩⟩
  rw [h.cell, Nat.zero_add]
  simpa using u8s_at bs hj

theorem Sees.of_row {w : World} {b : Nat} {t : TypeId} {fr : Nat × Nat} {bs : List Nat} {n : Nat} (hn : bs.length = n) (h : w.heap[b]? = some (.cells (u8s bs).toArray t fr)) (hb : ∀ x ∈ bs, x < 256) (cap : Nat) (h1 : n ≤ cap) (h2 : cap ≤ 9223372036854775807) :
    Sees w (.slice (some ⟨b, 0, none⟩) n cap) bs := by
  subst hn
  refine ⟨_, cap, rfl, h1, by unfold maxLen; omega, hb, Or.inr ⟨b, 0, rfl, (Array.getElem?_eq_some_iff.1 h).1, fun j hj => ?_⟩⟩
  rw [cell_of_row w b (0 + j) _ t fr h, Nat.zero_add]
  simpa using u8s_at bs hj

theorem num_crc9 : crc [49, 50, 51, 52, 53, 54, 55, 56, 57] = 3808858755 := by decide +kernel
theorem num_crc0 : crc [] = 0 := by decide +kernel
theorem num_fnv : marks fnv0 [97, 98, 99] = 16654208175385433931 := by decide +kernel

theorem Parts.of2 {w : World} {b : Nat} {t : TypeId} {v0 v1 : Value} {l0 l1 : List Nat} (h : Blk w b #[v0, v1] t) (h0 : Sees w v0 l0) (h1 : Sees w v1 l1) : Parts w (.slice (some ⟨b, 0, none⟩) 2 2) [(v0, l0), (v1, l1)] := by
  refine ⟨_, 2, rfl, by simp, by simp [maxLen], ?_, Or.inr ⟨b, 0, rfl, h.lt, ?_⟩⟩
  · intro p hp
    simp at hp
    rcases hp with rfl | rfl
    · exact h0
    · exact h1
  · intro j p hp
    rw [h.cell, Nat.zero_add]
    match j, hp with
    | 0, hp => simp at hp; subst hp; rfl
    | 1, hp => simp at hp; subst hp; rfl
    | j + 2, hp => simp at hp

theorem heap_old {w : World} {k : Nat} {x : Obj} (h : w.heap[k]? = some x) (o : Obj) : (w.alloc o).heap[k]? = some x :=
  (Below.heap_alloc _ _ _ (Array.getElem?_eq_some_iff.1 h).1).trans h
theorem heap2 (w : World) (o1 o2 : Obj) : ((w.alloc o1).alloc o2).heap[w.heap.size + 1]? = some o2 := by
  have := heap_alloc_new (w.alloc o1) o2
  simpa using this
theorem heap3 (w : World) (o1 o2 o3 : Obj) : (((w.alloc o1).alloc o2).alloc o3).heap[w.heap.size + 1 + 1]? = some o3 := by
  have := heap2 (w.alloc o1) o2 o3
  simpa using this
theorem heap4 (w : World) (o1 o2 o3 o4 : Obj) : ((((w.alloc o1).alloc o2).alloc o3).alloc o4).heap[w.heap.size + 1 + 1 + 1]? = some o4 := by
  have := heap3 (w.alloc o1) o2 o3 o4
  simpa using this
theorem conv1 (w : World) (C : Array Value) (n c : Nat) : (convert 29 29 (.slice (some ⟨w.heap.size, 0, none⟩) n c)).run Try.prog (w.alloc (.cells C 5)) = .ok (.slice (some ⟨w.heap.size, 0, none⟩) n c) (w.alloc (.cells C 5 (C.size, C.size + 1))) :=
  Go.Lib.run_convert_bytes_const w 29 5 C n c Try.underlying29 Try.underlying5
theorem conv2 (w : World) (o : Obj) (C : Array Value) (n c : Nat) : (convert 29 29 (.slice (some ⟨w.heap.size + 1, 0, none⟩) n c)).run Try.prog ((w.alloc o).alloc (.cells C 5)) = .ok (.slice (some ⟨w.heap.size + 1, 0, none⟩) n c) ((w.alloc o).alloc (.cells C 5 (C.size, C.size + 1))) := by
  have := conv1 (w.alloc o) C n c
  simpa using this
theorem conv3 (w : World) (o o2 : Obj) (C : Array Value) (n c : Nat) : (convert 29 29 (.slice (some ⟨w.heap.size + 1 + 1, 0, none⟩) n c)).run Try.prog (((w.alloc o).alloc o2).alloc (.cells C 5)) = .ok (.slice (some ⟨w.heap.size + 1 + 1, 0, none⟩) n c) (((w.alloc o).alloc o2).alloc (.cells C 5 (C.size, C.size + 1))) := by
  have := conv2 (w.alloc o) o2 C n c
  simpa using this

end Go.Proofs.Ytlcepoomjnpfpaa
