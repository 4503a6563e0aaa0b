/- Streams; sums that the document names. -/
import Derived.Test.YtlcepoomjnpfpaaDoorMark
import Derived.Lib.SlBytesConst
namespace Go.Proofs.YtlcepoomjnpfpaaDoor
open Go.RowKit

/-- Bytes as cells. -/
def u8s (l : List Nat) : List Value := l.map fun b : Nat => Value.int .u8 (b : Int)
theorem u8s_length (l : List Nat) : (u8s l).length = l.length := by simp [u8s]
theorem u8s_at (l : List Nat) {j : Nat} (hj : j < l.length) : (u8s l)[j]? = some (.int .u8 (l.getD j 0 : Nat)) := by
  simp [u8s, List.getElem?_eq_getElem hj]

theorem Sees.of_blk {w : World} {b : Nat} {t : TypeId} {bs : List Nat} {n : Nat} (hn : bs.length = n) (h : Blk w b (u8s bs).toArray t) (hb : ∀ x ∈ bs, x < 256) (cap : Nat) (h1 : n ≤ cap) (h2 : cap ≤ 9223372036854775807) :
    Sees w (.slice (some ⟨b, 0, none⟩) n cap) bs := by
  subst hn
  refine ⟨_, cap, rfl, h1, by unfold maxLen; omega, hb, Or.inr ⟨b, 0, rfl, h.lt, fun j hj => ?_⟩⟩
  rw [h.cell, Nat.zero_add]
  simpa using u8s_at bs hj

theorem Sees.of_row {w : World} {b : Nat} {t : TypeId} {fr : Nat × Nat} {bs : List Nat} {n : Nat} (hn : bs.length = n) (h : w.heap[b]? = some (.cells (u8s bs).toArray t fr)) (hb : ∀ x ∈ bs, x < 256) (cap : Nat) (h1 : n ≤ cap) (h2 : cap ≤ 9223372036854775807) :
    Sees w (.slice (some ⟨b, 0, none⟩) n cap) bs := by
  subst hn
  refine ⟨_, cap, rfl, h1, by unfold maxLen; omega, hb, Or.inr ⟨b, 0, rfl, (Array.getElem?_eq_some_iff.1 h).1, fun j hj => ?_⟩⟩
  rw [cell_of_row w b (0 + j) _ t fr h, Nat.zero_add]
  simpa using u8s_at bs hj

/-- A stream's object. -/
def Str (w : World) (b s n : Nat) : Prop := Blk w b #[.int .u32 (s : Int), .int .i64 (n : Int)] 52

set_option maxRecDepth 100000 in
set_option maxHeartbeats 400000 in
theorem newStream_any (w : World) :
    Calls Tryd.prog 10 #[] w fun e w' => e = .returned (.pointer (some ⟨w.heap.size, 0, none⟩)) ∧ Str w' w.heap.size 0 0 ∧ Kept [] w w' ∧ w.heap.size < w'.heap.size := by
  go_enter Tryd.func10, Tryd.ntmps10
  go_wp2
  go_ret
  exact ⟨rfl, Blk.new _ _ _, (Kept.refl _ _).alloc _, by simp⟩

set_option maxRecDepth 100000 in
set_option maxHeartbeats 400000 in
theorem write_nil (w : World) (v : Value) :
    Calls Tryd.prog 11 #[.pointer none, v] w fun e w' => e = .returned (.tuple #[]) ∧ w' = w := by
  go_enter Tryd.func11, Tryd.ntmps11
  go_wp2
  refine bodyPost_ret (v := .tuple #[]) (by simp [results, Tryd.results11]) rfl ?_
  exact ⟨rfl, rfl⟩

set_option maxRecDepth 100000 in
set_option maxHeartbeats 400000 in
theorem sum_nil (w : World) :
    Calls Tryd.prog 13 #[.pointer none] w fun e w' => e = .returned (.int .u32 0) ∧ w' = w := by
  go_enter Tryd.func13, Tryd.ntmps13
  go_wp2
  go_ret
  exact ⟨rfl, rfl⟩

set_option maxRecDepth 100000 in
set_option maxHeartbeats 400000 in
theorem len_nil (w : World) :
    Calls Tryd.prog 14 #[.pointer none] w fun e w' => e = .returned (.int .i64 0) ∧ w' = w := by
  go_enter Tryd.func14, Tryd.ntmps14
  go_wp2
  go_ret
  exact ⟨rfl, rfl⟩

set_option maxRecDepth 100000 in
set_option maxHeartbeats 400000 in
theorem sum_any {w : World} {b s n : Nat} (h : Str w b s n) :
    Calls Tryd.prog 13 #[.pointer (some ⟨b, 0, none⟩)] w fun e w' => e = .returned (.int .u32 (s : Int)) ∧ w' = w := by
  have h0 : w.cell? ⟨b, 0, none⟩ = some (.int .u32 (s : Int)) := by rw [Blk.cell h]; rfl
  clear h
  go_enter Tryd.func13, Tryd.ntmps13
  go_wp2
  go_ret
  exact ⟨rfl, rfl⟩

set_option maxRecDepth 100000 in
set_option maxHeartbeats 400000 in
theorem len_any {w : World} {b s n : Nat} (h : Str w b s n) :
    Calls Tryd.prog 14 #[.pointer (some ⟨b, 0, none⟩)] w fun e w' => e = .returned (.int .i64 (n : Int)) ∧ w' = w := by
  have h0 : w.cell? ⟨b, 1, none⟩ = some (.int .i64 (n : Int)) := by rw [Blk.cell h]; rfl
  clear h
  go_enter Tryd.func14, Tryd.ntmps14
  go_wp2
  go_ret
  exact ⟨rfl, rfl⟩

set_option maxRecDepth 100000 in
set_option maxHeartbeats 400000 in
theorem write_any {w : World} {b s n : Nat} {v : Value} {bs : List Nat} (h : Str w b s n) (ht : Tab w) (hv : Sees w v bs) (hs : s < 4294967296) (hn : n + bs.length ≤ 9223372036854775807) :
    Calls Tryd.prog 11 #[.pointer (some ⟨b, 0, none⟩), v] w fun e w' => e = .returned (.tuple #[]) ∧ Str w' b (grown s bs) (n + bs.length) ∧ Kept [b] w w' := by
  have h0 : w.cell? ⟨b, 0, none⟩ = some (.int .u32 (s : Int)) := by rw [Blk.cell h]; rfl
  have h1 : w.cell? ⟨b, 1, none⟩ = some (.int .i64 (n : Int)) := by rw [Blk.cell h]; rfl
  have f0 := Blk.frozen h 0
  have f1 := Blk.frozen h 1
  have HG := hide (grow_any ht hv s hs)
  have HH := hide h
  obtain ⟨a, cap, rfl, _⟩ := hv
  clear h ht
  generalize grown s bs = g at HG
  generalize bs.length = L at HG hn
  go_enter Tryd.func11, Tryd.ntmps11
  go_wp2_with (first | (go_at_call 26; refine (unhide HG).mono ?_; rintro e w1 ⟨rfl, hq⟩; have hq' := hq.symm; subst hq'))
  go_end0
  have k1 := (Blk.set (unhide HH) 0 (.int .u32 (g : Int))).set 1 (.int .i64 ((n : Int) + (L : Int)))
  refine ⟨rfl, ?_, ((Kept.refl [b] w).setCell (Or.inl (by simp)) _).setCell (Or.inl (by simp)) _⟩
  unfold Str
  simpa using k1

theorem num_crc9 : crc [49, 50, 51, 52, 53, 54, 55, 56, 57] = 3808858755 := by decide +kernel
theorem num_crc0 : crc [] = 0 := by decide +kernel
theorem num_fnv : marks fnv0 [97, 98, 99] = 16654208175385433931 := by decide +kernel

theorem Parts.of2 {w : World} {b : Nat} {t : TypeId} {v0 v1 : Value} {l0 l1 : List Nat} (h : Blk w b #[v0, v1] t) (h0 : Sees w v0 l0) (h1 : Sees w v1 l1) : Parts w (.slice (some ⟨b, 0, none⟩) 2 2) [(v0, l0), (v1, l1)] := by
  refine ⟨_, 2, rfl, by simp, by simp [maxLen], ?_, Or.inr ⟨b, 0, rfl, h.lt, ?_⟩⟩
  · intro p hp
    simp at hp
    rcases hp with rfl | rfl
    · exact h0
    · exact h1
  · intro j p hp
    rw [h.cell, Nat.zero_add]
    match j, hp with
    | 0, hp => simp at hp; subst hp; rfl
    | 1, hp => simp at hp; subst hp; rfl
    | j + 2, hp => simp at hp

theorem heap_old {w : World} {k : Nat} {x : Obj} (h : w.heap[k]? = some x) (o : Obj) : (w.alloc o).heap[k]? = some x :=
  (Below.heap_alloc _ _ _ (Array.getElem?_eq_some_iff.1 h).1).trans h
theorem heap2 (w : World) (o1 o2 : Obj) : ((w.alloc o1).alloc o2).heap[w.heap.size + 1]? = some o2 := by
  have := heap_alloc_new (w.alloc o1) o2
  simpa using this
theorem heap3 (w : World) (o1 o2 o3 : Obj) : (((w.alloc o1).alloc o2).alloc o3).heap[w.heap.size + 1 + 1]? = some o3 := by
  have := heap2 (w.alloc o1) o2 o3
  simpa using this
theorem heap4 (w : World) (o1 o2 o3 o4 : Obj) : ((((w.alloc o1).alloc o2).alloc o3).alloc o4).heap[w.heap.size + 1 + 1 + 1]? = some o4 := by
  have := heap3 (w.alloc o1) o2 o3 o4
  simpa using this
theorem conv1 (w : World) (C : Array Value) (n c : Nat) : (convert 22 22 (.slice (some ⟨w.heap.size, 0, none⟩) n c)).run Tryd.prog (w.alloc (.cells C 5)) = .ok (.slice (some ⟨w.heap.size, 0, none⟩) n c) (w.alloc (.cells C 5 (C.size, C.size + 1))) :=
  Go.Lib.run_convert_bytes_const w 22 5 C n c Tryd.underlying22 Tryd.underlying5
theorem conv2 (w : World) (o : Obj) (C : Array Value) (n c : Nat) : (convert 22 22 (.slice (some ⟨w.heap.size + 1, 0, none⟩) n c)).run Tryd.prog ((w.alloc o).alloc (.cells C 5)) = .ok (.slice (some ⟨w.heap.size + 1, 0, none⟩) n c) ((w.alloc o).alloc (.cells C 5 (C.size, C.size + 1))) := by
  have := conv1 (w.alloc o) C n c
  simpa using this
theorem conv3 (w : World) (o o2 : Obj) (C : Array Value) (n c : Nat) : (convert 22 22 (.slice (some ⟨w.heap.size + 1 + 1, 0, none⟩) n c)).run Tryd.prog (((w.alloc o).alloc o2).alloc (.cells C 5)) = .ok (.slice (some ⟨w.heap.size + 1 + 1, 0, none⟩) n c) (((w.alloc o).alloc o2).alloc (.cells C 5 (C.size, C.size + 1))) := by
  have := conv2 (w.alloc o) o2 C n c
  simpa using this

set_option maxRecDepth 100000 in
set_option maxHeartbeats 1000000 in
theorem known_any {w : World} (ht : Tab w) :
    Calls Tryd.prog 15 #[] w fun e w' => e = .returned (.bool true) ∧ Kept [] w w' := by
  have HT := hide ht
  clear ht
  have HC9 : Hid (∀ wx, Kept [] w wx → wx.heap[w.heap.size]? = some (.cells (u8s [49, 50, 51, 52, 53, 54, 55, 56, 57]).toArray 5 (9, 10)) → Calls Tryd.prog 21 #[.slice (some ⟨w.heap.size, 0, none⟩) 9 9] wx fun e w' => e = .returned (.int .u32 3808858755) ∧ w' = wx) := by
    intro wx hk hb
    have := crc_any ((unhide HT).kept hk (by simp)) (Sees.of_row (n := 9) rfl hb (by decide) 9 (by omega) (by omega))
    rw [num_crc9] at this
    exact this
  have HC0 : Hid (∀ wx, Kept [] w wx → Calls Tryd.prog 21 #[.slice none 0 0] wx fun e w' => e = .returned (.int .u32 0) ∧ w' = wx) := by
    intro wx hk
    have := crc_any ((unhide HT).kept hk (by simp)) (Sees.nil wx)
    rw [num_crc0] at this
    exact this
  have HF0 : Hid (∀ wx, Calls Tryd.prog 22 #[.slice none 0 0] wx fun e w' => e = .returned (.int .u64 14695981039346656037) ∧ w' = wx) := fun wx => fnv_any (Parts.nil wx)
  have hcv1 := conv1 w
  have hcv2 := conv2 w
  have hcv3 := conv3 w
  go_enter Tryd.func15, Tryd.ntmps15
  go_wp2_with fail
  refine (unhide HC9 _ ((Kept.refl [] w).alloc _) (heap_alloc_new w _)).mono ?_
  rintro e w1 ⟨rfl, rfl⟩
  go_wp2_with fail
  refine (unhide HC0 _ ((Kept.refl [] w).alloc _)).mono ?_
  rintro e w1 ⟨rfl, rfl⟩
  go_wp2_with fail
  have hfn : ∀ (wx : World), wx.heap[w.heap.size + 1]? = some (.cells (u8s [97]).toArray 5 (1, 2)) → wx.heap[w.heap.size + 1 + 1]? = some (.cells (u8s [98, 99]).toArray 5 (2, 3)) → Blk wx (w.heap.size + 1 + 1 + 1) #[.slice (some ⟨w.heap.size + 1, 0, none⟩) 1 1, .slice (some ⟨w.heap.size + 1 + 1, 0, none⟩) 2 2] 22 →
      Calls Tryd.prog 22 #[.slice (some ⟨w.heap.size + 1 + 1 + 1, 0, none⟩) 2 2] wx fun e w' => e = .returned (.int .u64 16654208175385433931) ∧ w' = wx := by
    intro wx h1 h2 h3
    have := fnv_any (Parts.of2 h3 (Sees.of_row (n := 1) rfl h1 (by decide) 1 (by omega) (by omega)) (Sees.of_row (n := 2) rfl h2 (by decide) 2 (by omega) (by omega)))
    have e : catP [(Value.slice (some ⟨w.heap.size + 1, 0, none⟩) 1 1, [97]), (Value.slice (some ⟨w.heap.size + 1 + 1, 0, none⟩) 2 2, [98, 99])] = [97, 98, 99] := rfl
    rw [e, num_fnv] at this
    exact this
  refine (hfn _ ?_ ?_ ?_).mono ?_
  · exact heap_old (heap_old (heap2 w _ _) _) _
  · exact heap_old (heap3 w _ _ _) _
  · exact heap4 w _ _ _ _
  rintro e w1 ⟨rfl, rfl⟩
  go_wp2_with fail
  refine (unhide HF0 _).mono ?_
  rintro e w1 ⟨rfl, rfl⟩
  go_wp2
  go_ret
  exact ⟨rfl, ((((Kept.refl [] w).alloc _).alloc _).alloc _).alloc _⟩
end Go.Proofs.YtlcepoomjnpfpaaDoor
