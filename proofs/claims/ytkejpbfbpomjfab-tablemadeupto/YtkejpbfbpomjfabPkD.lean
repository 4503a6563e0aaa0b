/- A text of the base. -/
import Derived.Test.YtkejpbfbpomjfabPkC
import Derived.Laws.ResultCell
import Derived.Laws.Rows
/- Structs as results, in their boxes. -/
namespace Go.Proofs.Ytkejpbfbpomjfab.tre
open Go.RowKit

theorem ret_struct {P : Program} {fn : Func} {R : Ending → World → Prop} {a : Act} {w : World} {p : Tmp} {ty : TypeId} {b : Nat} {cs : Array Value} {fs : Array Field}
    (hr : fn.results = #[.cell p ty]) (hp : a.tmps.getD p undef = .pointer (some ⟨b, 0, none⟩)) (hb : Blk w b cs ty)
    (hu : P.underlying ty = some (.struct fs)) (hi : (P.info? ty).map (·.size) = some cs.size) (hd : a.defers = []) (hR : R (.returned (.agg cs)) w) : bodyPost P fn R .ret a w := by
  refine bodyPost_ret (v := .agg cs) ?_ hd hR
  exact results_cell_row hr a.tmps w b ty cs (0, 0) _ hp hb hu rfl hi
theorem ret_struct_tmp {P : Program} {fn : Func} {R : Ending → World → Prop} {a : Act} {w : World} {p u : Tmp} {ty : TypeId} {b : Nat} {cs : Array Value} {fs : Array Field}
    (hr : fn.results = #[.cell p ty, .tmp u]) (hp : a.tmps.getD p undef = .pointer (some ⟨b, 0, none⟩)) (hb : Blk w b cs ty)
    (hu : P.underlying ty = some (.struct fs)) (hi : (P.info? ty).map (·.size) = some cs.size) (hd : a.defers = []) (hR : R (.returned (.tuple #[.agg cs, a.tmps.getD u undef])) w) : bodyPost P fn R .ret a w := by
  refine bodyPost_ret (v := .tuple #[.agg cs, a.tmps.getD u undef]) ?_ hd hR
  rw [results_cell_tmp hr, hp]
  have h := run_loadVar_row w b ty ty cs (0, 0) (.struct fs) hb hu rfl hi
  simp [asAddr, h, Sem.run_pure, Result.andThen]
theorem results_mid {fn : Func} {p u v : Tmp} {ty : TypeId} (h : fn.results = #[.tmp v, .cell p ty, .tmp u]) (tmps : Array Value) (P : Program) (w : World) :
    (results fn tmps).run P w =
      ((asAddr (tmps.getD p undef)).run P w).andThen fun a w₁ => ((loadVar ty a).run P w₁).andThen fun x w₂ => .ok (.tuple #[tmps.getD v undef, x, tmps.getD u undef]) w₂ := by
  simp only [results, h]
  simp [Sem.run_bind, Result.andThen]
theorem ret_mid {P : Program} {fn : Func} {R : Ending → World → Prop} {a : Act} {w : World} {p u v : Tmp} {ty : TypeId} {b : Nat} {cs : Array Value} {fs : Array Field}
    (hr : fn.results = #[.tmp v, .cell p ty, .tmp u]) (hp : a.tmps.getD p undef = .pointer (some ⟨b, 0, none⟩)) (hb : Blk w b cs ty)
    (hu : P.underlying ty = some (.struct fs)) (hi : (P.info? ty).map (·.size) = some cs.size) (hd : a.defers = []) (hR : R (.returned (.tuple #[a.tmps.getD v undef, .agg cs, a.tmps.getD u undef])) w) : bodyPost P fn R .ret a w := by
  refine bodyPost_ret (v := .tuple #[a.tmps.getD v undef, .agg cs, a.tmps.getD u undef]) ?_ hd hR
  rw [results_mid hr, hp]
  have h := run_loadVar_row w b ty ty cs (0, 0) (.struct fs) hb hu rfl hi
  simp [asAddr, h, Sem.run_pure, Result.andThen]
theorem put2 {w : World} {b : Nat} {x y : Value} {t : TypeId} (h : Blk w b #[x, y] t) (x' y' : Value) : Blk ((w.setCell ⟨b, 0, none⟩ x').setCell ⟨b, 1, none⟩ y') b #[x', y'] t := by
  have h1 := (h.set 0 x').set 1 y'
  exact h1
theorem new2 (w : World) (o : Obj) (cs : Array Value) (t : TypeId) : Blk ((w.alloc o).alloc (.cells cs t)) (w.heap.size + 1) cs t := by
  have h := Blk.new (w.alloc o) cs t
  rw [World.size_alloc] at h
  exact h
theorem two_kept (w : World) (o p : Obj) : Kept [] w ((w.alloc o).alloc p) := ((Kept.refl [] w).alloc o).alloc p
theorem infoCell : (Try.prog.info? 73).map (·.size) = some 2 := by kernel_rfl
end Go.Proofs.Ytkejpbfbpomjfab.tre
