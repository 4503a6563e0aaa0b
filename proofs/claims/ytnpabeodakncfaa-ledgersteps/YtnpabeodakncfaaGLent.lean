/- lent and kept. -/
import Derived.Test.YtnpabeodakncfaaGRStep
import Derived.BigRegion
import Derived.Laws.BytesArg
namespace Go.Proofs.Ytnpabeodakncfaa
open Go.RowKit

def mk5 : Array Value := #[.int .u8 7, .int .u8 8, .int .u8 9, .int .u8 201, .int .u8 77]
theorem conv {w : World} {b : Nat} {t : TypeId} (h : Blk w b mk5 t) (o n c : Nat) (xs : List Int) (hn : xs.length = n) (hx : ∀ i, i < n → mk5[o + i]? = some (.int .u8 (xs.getD i 0))) : (convert 31 9 (.slice (some ⟨b, o, none⟩) n c)).run Try.prog w = .ok (.string (strOfNums xs)) w :=
  run_convert_bytes_arg w 31 5 Try.underlying31 Try.underlying5 b o n c xs hn (fun i hi => (h.cell (o + i)).trans (hx i hi)) 9 Try.underlying9
set_option maxRecDepth 100000 in
theorem lent1 (w : World) : Calls Try.prog 27 #[.int .i64 1] w fun e w' => e = .returned (.slice (some ⟨w.heap.size, 2, none⟩) 1 3) ∧ Blk w' w.heap.size mk5 5 ∧ Kept [] w w' := by
  go_enter Try.func27, Try.ntmps27
  go_wp2_with fail
  go_ret
  exact ⟨rfl, Blk.new _ _ _, (Kept.refl _ _).alloc _⟩
set_option maxRecDepth 100000 in
set_option maxHeartbeats 2000000 in
theorem kept1 {w : World} {b : Nat} {t : TypeId} (h : Blk w b mk5 t) : Calls Try.prog 28 #[.slice (some ⟨b, 2, none⟩) 1 3, .int .i64 1] w fun e w' => e = .returned (.bool true) ∧ Kept [] w w' := by
  have hb := h.lt
  have hw3 : IntKind.i64.wrap 3 = 3 := by decide
  have hw4 : IntKind.i64.wrap (3 - 1) = 2 := by decide
  have hw5 : IntKind.i64.wrap 2 = 2 := by decide
  have hd : Blk w.drew b mk5 t := h
  have k1 := conv hd 2 3 3 [9, 201, 77] rfl (by intro i hi; match i, hi with | 0, _ => rfl | 1, _ => rfl | 2, _ => rfl)
  have k2 := conv (hd.alloc (.cells #[.int .u8 7, .int .u8 8, .int .u8 9, .int .u8 201, .int .u8 77] 5)) 2 3 3 [9, 201, 77] rfl (by intro i hi; match i, hi with | 0, _ => rfl | 1, _ => rfl | 2, _ => rfl)
  have k3 : (convert 31 9 (.slice (some ⟨b, 2, none⟩) 3 3)).run Try.prog (w.alloc (.cells #[.int .u8 7, .int .u8 8, .int .u8 9, .int .u8 201, .int .u8 77] 5)).drew = .ok (.string (strOfNums [9, 201, 77])) (w.alloc (.cells #[.int .u8 7, .int .u8 8, .int .u8 9, .int .u8 201, .int .u8 77] 5)).drew := k2
  have k4 := conv (Blk.new w.drew mk5 5) 2 3 3 [9, 201, 77] rfl (by intro i hi; match i, hi with | 0, _ => rfl | 1, _ => rfl | 2, _ => rfl)
  have k5 : (convert 31 9 (.slice (some ⟨w.heap.size, 2, none⟩) 3 3)).run Try.prog (w.drew.alloc (.cells #[.int .u8 7, .int .u8 8, .int .u8 9, .int .u8 201, .int .u8 77] 5)) = .ok (.string (strOfNums [9, 201, 77])) (w.drew.alloc (.cells #[.int .u8 7, .int .u8 8, .int .u8 9, .int .u8 201, .int .u8 77] 5)) := k4
  have k6 : (convert 31 9 (.slice (some ⟨w.heap.size, 2, none⟩) 3 3)).run Try.prog (w.alloc (.cells #[.int .u8 7, .int .u8 8, .int .u8 9, .int .u8 201, .int .u8 77] 5)).drew = .ok (.string (strOfNums [9, 201, 77])) (w.alloc (.cells #[.int .u8 7, .int .u8 8, .int .u8 9, .int .u8 201, .int .u8 77] 5)).drew := k4
  clear h hd k4
  go_enter Try.func28, Try.ntmps28
  go_wp2_with fail
  go_region
  all_goals
    go_wp2
    go_ret
    exact ⟨rfl, ((Kept.refl _ _).alloc _).drew⟩
set_option maxRecDepth 100000 in
theorem lent2 (w : World) : Calls Try.prog 27 #[.int .i64 2] w fun e w' => e = .returned (.slice (some ⟨w.heap.size, 1, none⟩) 2 4) ∧ Blk w' w.heap.size mk5 5 ∧ Kept [] w w' := by
  go_enter Try.func27, Try.ntmps27
  go_wp2_with fail
  go_ret
  exact ⟨rfl, Blk.new _ _ _, (Kept.refl _ _).alloc _⟩
set_option maxRecDepth 100000 in
set_option maxHeartbeats 2000000 in
theorem kept2 {w : World} {b : Nat} {t : TypeId} (h : Blk w b mk5 t) : Calls Try.prog 28 #[.slice (some ⟨b, 1, none⟩) 2 4, .int .i64 2] w fun e w' => e = .returned (.bool true) ∧ Kept [] w w' := by
  have hb := h.lt
  have hw3 : IntKind.i64.wrap 4 = 4 := by decide
  have hw4 : IntKind.i64.wrap (3 - 2) = 1 := by decide
  have hw5 : IntKind.i64.wrap 1 = 1 := by decide
  have hd : Blk w.drew b mk5 t := h
  have k1 := conv hd 1 4 4 [8, 9, 201, 77] rfl (by intro i hi; match i, hi with | 0, _ => rfl | 1, _ => rfl | 2, _ => rfl | 3, _ => rfl)
  have k2 := conv (hd.alloc (.cells #[.int .u8 7, .int .u8 8, .int .u8 9, .int .u8 201, .int .u8 77] 5)) 1 4 4 [8, 9, 201, 77] rfl (by intro i hi; match i, hi with | 0, _ => rfl | 1, _ => rfl | 2, _ => rfl | 3, _ => rfl)
  have k3 : (convert 31 9 (.slice (some ⟨b, 1, none⟩) 4 4)).run Try.prog (w.alloc (.cells #[.int .u8 7, .int .u8 8, .int .u8 9, .int .u8 201, .int .u8 77] 5)).drew = .ok (.string (strOfNums [8, 9, 201, 77])) (w.alloc (.cells #[.int .u8 7, .int .u8 8, .int .u8 9, .int .u8 201, .int .u8 77] 5)).drew := k2
  have k4 := conv (Blk.new w.drew mk5 5) 1 4 4 [8, 9, 201, 77] rfl (by intro i hi; match i, hi with | 0, _ => rfl | 1, _ => rfl | 2, _ => rfl | 3, _ => rfl)
  have k5 : (convert 31 9 (.slice (some ⟨w.heap.size, 1, none⟩) 4 4)).run Try.prog (w.drew.alloc (.cells #[.int .u8 7, .int .u8 8, .int .u8 9, .int .u8 201, .int .u8 77] 5)) = .ok (.string (strOfNums [8, 9, 201, 77])) (w.drew.alloc (.cells #[.int .u8 7, .int .u8 8, .int .u8 9, .int .u8 201, .int .u8 77] 5)) := k4
  have k6 : (convert 31 9 (.slice (some ⟨w.heap.size, 1, none⟩) 4 4)).run Try.prog (w.alloc (.cells #[.int .u8 7, .int .u8 8, .int .u8 9, .int .u8 201, .int .u8 77] 5)).drew = .ok (.string (strOfNums [8, 9, 201, 77])) (w.alloc (.cells #[.int .u8 7, .int .u8 8, .int .u8 9, .int .u8 201, .int .u8 77] 5)).drew := k4
  clear h hd k4
  go_enter Try.func28, Try.ntmps28
  go_wp2_with fail
  go_region
  all_goals
    go_wp2
    go_ret
    exact ⟨rfl, ((Kept.refl _ _).alloc _).drew⟩
set_option maxRecDepth 100000 in
theorem lent3 (w : World) : Calls Try.prog 27 #[.int .i64 3] w fun e w' => e = .returned (.slice (some ⟨w.heap.size, 0, none⟩) 3 5) ∧ Blk w' w.heap.size mk5 5 ∧ Kept [] w w' := by
  go_enter Try.func27, Try.ntmps27
  go_wp2_with fail
  go_ret
  exact ⟨rfl, Blk.new _ _ _, (Kept.refl _ _).alloc _⟩
set_option maxRecDepth 100000 in
set_option maxHeartbeats 2000000 in
theorem kept3 {w : World} {b : Nat} {t : TypeId} (h : Blk w b mk5 t) : Calls Try.prog 28 #[.slice (some ⟨b, 0, none⟩) 3 5, .int .i64 3] w fun e w' => e = .returned (.bool true) ∧ Kept [] w w' := by
  have hb := h.lt
  have hw3 : IntKind.i64.wrap 5 = 5 := by decide
  have hw4 : IntKind.i64.wrap (3 - 3) = 0 := by decide
  have hw5 : IntKind.i64.wrap 0 = 0 := by decide
  have hd : Blk w.drew b mk5 t := h
  have k1 := conv hd 0 5 5 [7, 8, 9, 201, 77] rfl (by intro i hi; match i, hi with | 0, _ => rfl | 1, _ => rfl | 2, _ => rfl | 3, _ => rfl | 4, _ => rfl)
  have k2 := conv (hd.alloc (.cells #[.int .u8 7, .int .u8 8, .int .u8 9, .int .u8 201, .int .u8 77] 5)) 0 5 5 [7, 8, 9, 201, 77] rfl (by intro i hi; match i, hi with | 0, _ => rfl | 1, _ => rfl | 2, _ => rfl | 3, _ => rfl | 4, _ => rfl)
  have k3 : (convert 31 9 (.slice (some ⟨b, 0, none⟩) 5 5)).run Try.prog (w.alloc (.cells #[.int .u8 7, .int .u8 8, .int .u8 9, .int .u8 201, .int .u8 77] 5)).drew = .ok (.string (strOfNums [7, 8, 9, 201, 77])) (w.alloc (.cells #[.int .u8 7, .int .u8 8, .int .u8 9, .int .u8 201, .int .u8 77] 5)).drew := k2
  have k4 := conv (Blk.new w.drew mk5 5) 0 5 5 [7, 8, 9, 201, 77] rfl (by intro i hi; match i, hi with | 0, _ => rfl | 1, _ => rfl | 2, _ => rfl | 3, _ => rfl | 4, _ => rfl)
  have k5 : (convert 31 9 (.slice (some ⟨w.heap.size, 0, none⟩) 5 5)).run Try.prog (w.drew.alloc (.cells #[.int .u8 7, .int .u8 8, .int .u8 9, .int .u8 201, .int .u8 77] 5)) = .ok (.string (strOfNums [7, 8, 9, 201, 77])) (w.drew.alloc (.cells #[.int .u8 7, .int .u8 8, .int .u8 9, .int .u8 201, .int .u8 77] 5)) := k4
  have k6 : (convert 31 9 (.slice (some ⟨w.heap.size, 0, none⟩) 5 5)).run Try.prog (w.alloc (.cells #[.int .u8 7, .int .u8 8, .int .u8 9, .int .u8 201, .int .u8 77] 5)).drew = .ok (.string (strOfNums [7, 8, 9, 201, 77])) (w.alloc (.cells #[.int .u8 7, .int .u8 8, .int .u8 9, .int .u8 201, .int .u8 77] 5)).drew := k4
  clear h hd k4
  go_enter Try.func28, Try.ntmps28
  go_wp2_with fail
  go_region
  all_goals
    go_wp2
    go_ret
    exact ⟨rfl, ((Kept.refl _ _).alloc _).drew⟩
end Go.Proofs.Ytnpabeodakncfaa
