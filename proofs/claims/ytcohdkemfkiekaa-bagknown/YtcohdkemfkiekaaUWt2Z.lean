/- Waiting of any bag. -/
import Derived.Test.YtcohdkemfkiekaaUWtgZ
import Derived.Laws.IdiomRangeMap
namespace Go.Proofs.Ytcohdkemfkiekaa
open Go.RowKit Go.Maps Go.Sort
set_option linter.unusedSimpArgs false

set_option maxRecDepth 100000 in
theorem wait_none {w : World} {b : Nat} {g : Bg} (hr : g.row = []) (hb : Blk w b (bagC (.map none) g) 67) : Calls Try.prog 18 #[.pointer (some ⟨b, 0, none⟩)] w (WaitP w g.row) := by
  rw [hr]
  have c0 := (bag_cells hb).1
  have hl2 := fun ty => Maps.len_nil (w := w) (P := Try.prog) Try.underlying65 ty
  have HB := hide hb
  clear hb hr
  go_enter Try.func18, Try.ntmps18
  go_upto_region 4 with (refine wpList_make_ltrs (w0 := w) _ rfl _ _ rfl 0 (by omega) rfl rfl (Nat.le_refl _) ?_; intro w1 hw1 hk1)
  have hb1 := (unhide HB).kept (unhide hk1) (by simp)
  have c0 := (bag_cells hb1).1
  have hrg := run_range_nilMap (P := Try.prog) w1 65 3 77 Try.underlying65
  have hnx : ∀ ty, (Instr.next (.pointer (some ⟨w1.heap.size, 0, none⟩)) false ty).run Try.prog (w1.alloc (.mapIter none 0 #[] 0)) = _ := fun ty => run_next_nilMap w1 ty 0 0 #[]
  clear hb1 hl2
  go_wp2
  refine wp_loop_rounds 1 ?_
  rw [rounds_succ]
  go_wp2_with (go_at_call 42; refine (sort_none _ _ _ _).mono ?_; rintro e w4 ⟨rfl, hq⟩; subst hq)
  go_ret
  exact ⟨_, [], rfl, rfl, ⟨⟨_, 0, rfl, Nat.le_refl _, Nat.zero_le _, Or.inl rfl⟩, fun x hx => absurd hx (by simp), fun x hx => absurd hx (by simp), by simp⟩, (unhide hk1).alloc _⟩
theorem wait_any {w : World} {b : Nat} {F : List Nat} {g : Bg} (h : Bk w b F g) : Calls Try.prog 18 #[.pointer (some ⟨b, 0, none⟩)] w (WaitP w g.row) := by
  obtain ⟨ho, mv, hb, hm⟩ := h
  rcases hm with ⟨rfl, hr, _⟩ | ⟨mm, rfl, _, _, hown⟩
  · exact wait_none hr hb
  · exact wait_some ho hb hown
end Go.Proofs.Ytcohdkemfkiekaa
