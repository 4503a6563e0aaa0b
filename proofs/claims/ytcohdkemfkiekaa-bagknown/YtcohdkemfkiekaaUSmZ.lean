/- Small calls of a bag: New, next, Len, Counts, find, remove, letter. -/
import Derived.Test.YtcohdkemfkiekaaUBagZ
import Derived.Deep.RegionHeld3
import Derived.Deep.Cut
import Derived.Laws.Rows
namespace Go.Proofs.Ytcohdkemfkiekaa
open Go.RowKit Go.Maps
set_option linter.unusedSimpArgs false

theorem Kept.setRow {F : List Nat} {a w : World} (h : Kept F a w) {g : Nat} (hg : g ∈ F ∨ a.heap.size ≤ g) (cs : Array Value) : Kept F a (w.setRow g cs) := by
  refine h.trans (G := [g]) ⟨rfl, rfl, rfl, by simp, fun k hk hn => ?_⟩ (fun x hx => by simp at hx; subst hx; exact hg)
  exact setRow_other w g k cs (fun e => hn (by simp [e]))
theorem ret_struct {P : Program} {fn : Func} {R : Ending → World → Prop} {a : Act} {w : World} {p : Tmp} {ty : TypeId} {b : Nat} {cs : Array Value} {fs : Array Field}
    (hr : fn.results = #[.cell p ty]) (hp : a.tmps.getD p undef = .pointer (some ⟨b, 0, none⟩)) (hb : Blk w b cs ty)
    (hu : P.underlying ty = some (.struct fs)) (hi : (P.info? ty).map (·.size) = some cs.size) (hd : a.defers = []) (hR : R (.returned (.agg cs)) w) : bodyPost P fn R .ret a w := by
  refine bodyPost_ret (v := .agg cs) ?_ hd hR
  exact results_cell_row hr a.tmps w b ty cs (0, 0) _ hp hb hu rfl hi
theorem ret_struct_tmp {P : Program} {fn : Func} {R : Ending → World → Prop} {a : Act} {w : World} {p u : Tmp} {ty : TypeId} {b : Nat} {cs : Array Value} {fs : Array Field}
    (hr : fn.results = #[.cell p ty, .tmp u]) (hp : a.tmps.getD p undef = .pointer (some ⟨b, 0, none⟩)) (hb : Blk w b cs ty)
    (hu : P.underlying ty = some (.struct fs)) (hi : (P.info? ty).map (·.size) = some cs.size) (hd : a.defers = []) (hR : R (.returned (.tuple #[.agg cs, a.tmps.getD u undef])) w) : bodyPost P fn R .ret a w := by
  refine bodyPost_ret (v := .tuple #[.agg cs, a.tmps.getD u undef]) ?_ hd hR
  rw [results_cell_tmp hr, hp]
  have h := run_loadVar_row w b ty ty cs (0, 0) (.struct fs) hb hu rfl hi
  simp [asAddr, h, Sem.run_pure, Result.andThen]
theorem Blk.set3 {w : World} {b : Nat} {x0 x1 x2 y0 y1 y2 : Value} {t : TypeId} (h : Blk w b #[x0, x1, x2] t) : Blk (((w.setCell ⟨b, 0, none⟩ y0).setCell ⟨b, 1, none⟩ y1).setCell ⟨b, 2, none⟩ y2) b #[y0, y1, y2] t := by
  simpa using ((h.set 0 y0).set 1 y1).set 2 y2
theorem Blk.set4 {w : World} {b : Nat} {x0 x1 x2 x3 y0 y1 y2 y3 : Value} {t : TypeId} (h : Blk w b #[x0, x1, x2, x3] t) : Blk ((((w.setCell ⟨b, 0, none⟩ y0).setCell ⟨b, 1, none⟩ y1).setCell ⟨b, 2, none⟩ y2).setCell ⟨b, 3, none⟩ y3) b #[y0, y1, y2, y3] t := by
  simpa using (((h.set 0 y0).set 1 y1).set 2 y2).set 3 y3
theorem Blk.set5 {w : World} {b : Nat} {x0 x1 x2 x3 x4 y0 y1 y2 y3 y4 : Value} {t : TypeId} (h : Blk w b #[x0, x1, x2, x3, x4] t) : Blk (((((w.setCell ⟨b, 0, none⟩ y0).setCell ⟨b, 1, none⟩ y1).setCell ⟨b, 2, none⟩ y2).setCell ⟨b, 3, none⟩ y3).setCell ⟨b, 4, none⟩ y4) b #[y0, y1, y2, y3, y4] t := by
  simpa using ((((h.set 0 y0).set 1 y1).set 2 y2).set 3 y3).set 4 y4
theorem infoTrf : (Try.prog.info? 57).map (·.size) = some 5 := by kernel_rfl
theorem infoMsg : (Try.prog.info? 77).map (·.size) = some 3 := by kernel_rfl
theorem infoLtr : (Try.prog.info? 48).map (·.size) = some 4 := by kernel_rfl
theorem Bg.ok.wrap {g : Bg} (h : g.ok) : IntKind.i64.wrap (g.sent + g.twice) = g.next ∧ 0 ≤ g.next ∧ g.next ≤ 4611686018427387904 := by
  obtain ⟨p1, p2, p3, p4, p5⟩ := h.pos
  have := h.big
  unfold Bg.next
  rw [IntKind.wrap_i64]
  omega
theorem Bg.ok.wrap1 {g : Bg} (h : g.ok) : ∀ n : Int, (n = g.sent ∨ n = g.twice ∨ n = g.deliv ∨ n = g.drop ∨ n = g.lost) → IntKind.i64.wrap (n + 1) = n + 1 ∧ wrap64 (n + 1) = n + 1 := by
  obtain ⟨p1, p2, p3, p4, p5⟩ := h.pos
  have := h.big
  intro n hn
  unfold wrap64
  rw [IntKind.wrap_i64]
  omega
theorem bag_cells {w : World} {b : Nat} {mv : Value} {g : Bg} (h : Blk w b (bagC mv g) 67) : w.cell? ⟨b, 0, none⟩ = some mv ∧ w.cell? ⟨b, 1, none⟩ = some (.int .i64 g.sent) ∧ w.cell? ⟨b, 2, none⟩ = some (.int .i64 g.twice) ∧ w.cell? ⟨b, 3, none⟩ = some (.int .i64 g.deliv) ∧ w.cell? ⟨b, 4, none⟩ = some (.int .i64 g.drop) ∧ w.cell? ⟨b, 5, none⟩ = some (.int .i64 g.lost) :=
  ⟨h.cell 0, h.cell 1, h.cell 2, h.cell 3, h.cell 4, h.cell 5⟩
theorem newB_ok : newB.ok := ⟨List.Pairwise.nil, fun p hp => absurd hp (by simp [newB]), by decide, by decide, by decide, fun p hp => absurd hp (by simp [newB]), fun p hp => absurd hp (by simp [newB])⟩
set_option maxRecDepth 100000 in
theorem new_any (w : World) : Calls Try.prog 8 #[] w fun e w' => ∃ b, e = .returned (.pointer (some ⟨b, 0, none⟩)) ∧ Bk w' b [b] newB ∧ Kept [] w w' ∧ w.heap.size ≤ b := by
  go_enter Try.func8, Try.ntmps8
  go_wp2_with fail
  go_ret
  exact ⟨w.heap.size, rfl, ⟨newB_ok, .map none, Blk.new _ _ _, Or.inl ⟨rfl, rfl, rfl⟩⟩, (Kept.refl [] w).alloc _, Nat.le_refl _⟩
set_option maxRecDepth 100000 in
theorem next_any {w : World} {b : Nat} {mv : Value} {g : Bg} (h : Blk w b (bagC mv g) 67) (ho : g.ok) : Calls Try.prog 50 #[.pointer (some ⟨b, 0, none⟩)] w fun e w' => e = .returned (.int .i64 g.next) ∧ ∃ n, w' = w.drewN n := by
  obtain ⟨c0, c1, c2, c3, c4, c5⟩ := bag_cells h
  have e1 := ho.wrap.1
  clear h ho
  go_enter Try.func50, Try.ntmps50
  go_wp2_with fail
  go_region_held3 (fun W => W.cell? ⟨b, 1, none⟩ = some (.int .i64 g.sent) ∧ W.cell? ⟨b, 2, none⟩ = some (.int .i64 g.twice)) (go_keep) (fail)
  all_goals
    go_wp2_with fail
    go_ret
    exact ⟨rfl, ⟨_, rfl⟩⟩
theorem MapAt.len {w : World} {b : Nat} {F : List Nat} {mv : Value} {row : List (Int × Ms)} (h : MapAt w b F mv row) (ty : TypeId) : (Builtin.len_ #[65] ty #[mv]).run Try.prog w = .ok (.int .i64 row.length) w := by
  rcases h with ⟨rfl, rfl, _⟩ | ⟨m, rfl, _, _, h⟩
  · exact Maps.len_nil Try.underlying65 ty
  · have := h.len Try.underlying65 ty
    rw [Dof_size] at this
    exact this
theorem MapAt.lkup {w : World} {b : Nat} {F : List Nat} {mv : Value} {row : List (Int × Ms)} (h : MapAt w b F mv row) {n : Int} (h1 : -9223372036854775808 ≤ n) (h2 : n ≤ 9223372036854775807) : (Instr.lookup 65 mv (.int .i64 n) true).run Try.prog w = .ok (.tuple #[msV ((look row n).getD zeroMs), .bool (look row n).isSome]) w := by
  rcases h with ⟨rfl, rfl, _⟩ | ⟨m, rfl, _, _, h⟩
  · exact Maps.look_nil true keyedI Try.underlying65 (zeroM_run w) (keyI h1 h2)
  · obtain ⟨v, ps, hrun, hv⟩ := h.look_ok keyedI Try.underlying65 (zeroM_run w) (RM_mk zeroMs) (keyI h1 h2)
    obtain ⟨_, hz⟩ := RM_inv hv
    rw [Dof_at] at hz
    rw [Dof_has] at hrun
    rw [hrun]
    cases hl : look row n with
    | none =>
      rw [hl] at hz
      simp at hz
      rw [← hz.1]
      rfl
    | some m2 =>
      rw [hl] at hz
      simp at hz
      rw [← hz.1]
      rfl
set_option maxRecDepth 100000 in
theorem len_any {w : World} {b : Nat} {F : List Nat} {g : Bg} (h : Bk w b F g) : Calls Try.prog 12 #[.pointer (some ⟨b, 0, none⟩)] w fun e w' => e = .returned (.int .i64 g.row.length) ∧ Kept [] w w' := by
  obtain ⟨ho, mv, hb, hm⟩ := h
  have c0 := (bag_cells hb).1
  have hl := fun ty => hm.len ty
  clear hb hm ho
  go_enter Try.func12, Try.ntmps12
  go_wp2_with fail
  go_ret
  exact ⟨rfl, Kept.refl _ _⟩
set_option maxRecDepth 100000 in
theorem nlen (w : World) : Calls Try.prog 12 #[.pointer none] w fun e w' => e = .returned (.int .i64 0) ∧ Kept [] w w' := by
  go_enter Try.func12, Try.ntmps12
  go_wp2_with fail
  go_ret
  exact ⟨rfl, Kept.refl _ _⟩
/-- The counts. -/
def trfV (g : Bg) : Value := .agg #[.int .i64 g.sent, .int .i64 g.twice, .int .i64 g.deliv, .int .i64 g.drop, .int .i64 g.lost]
set_option maxRecDepth 100000 in
theorem counts_any {w : World} {b : Nat} {F : List Nat} {g : Bg} (h : Bk w b F g) : Calls Try.prog 24 #[.pointer (some ⟨b, 0, none⟩)] w fun e w' => e = .returned (trfV g) ∧ Kept [] w w' := by
  obtain ⟨ho, mv, hb, hm⟩ := h
  have hb2 := hb.alloc (.cells #[.int .i64 0, .int .i64 0, .int .i64 0, .int .i64 0, .int .i64 0] 57)
  obtain ⟨c0, c1, c2, c3, c4, c5⟩ := bag_cells hb2
  clear hb hm ho hb2
  go_enter Try.func24, Try.ntmps24
  go_wp2_with fail
  refine ret_struct (b := w.heap.size) rfl rfl (Blk.new w _ _) Try.underlying57 infoTrf rfl ?_
  exact ⟨rfl, (Kept.refl [] w).alloc _⟩
set_option maxRecDepth 100000 in
theorem ncounts (w : World) : Calls Try.prog 24 #[.pointer none] w fun e w' => e = .returned (trfV newB) ∧ Kept [] w w' := by
  go_enter Try.func24, Try.ntmps24
  go_wp2_with fail
  refine ret_struct (b := w.heap.size) rfl rfl (Blk.new w _ _) Try.underlying57 infoTrf rfl ?_
  exact ⟨rfl, (Kept.refl [] w).alloc _⟩
theorem strB_nil : strB [] = ByteArray.empty := by simp [strB, strOfNums]; rfl
set_option maxRecDepth 100000 in
theorem find_no0 {w : World} {b : Nat} {mv : Value} {g : Bg} (hb : Blk w b (bagC mv g) 67) {n : Int} (hl : ∀ X, Kept [] w X → (Instr.lookup 65 mv (.int .i64 n) true).run Try.prog X = .ok (.tuple #[.agg #[.int .i64 0, .int .i64 0, .string ByteArray.empty], .bool false]) X) : Calls Try.prog 40 #[.pointer (some ⟨b, 0, none⟩), .int .i64 n] w fun e w' => e = .returned (.tuple #[.agg #[.int .i64 0, .int .i64 0, .string ByteArray.empty], .int .i64 200]) ∧ Kept [] w w' := by
  have HB := hide hb
  have HL := hide hl
  clear hb hl
  go_enter Try.func40, Try.ntmps40
  go_upto_region 1 with fail
  refine world_at (R := fun X => Kept [] w X ∧ Blk X w.heap.size #[.int .i64 0, .int .i64 0, .string ByteArray.empty] 77) ⟨(Kept.refl [] w).alloc _, Blk.new _ _ _⟩ ?_
  rintro X ⟨hk, hr⟩
  have c0 := (bag_cells ((unhide HB).kept hk (by simp))).1
  have hl := unhide HL X hk
  have d0 := hr.cell 0
  have d1 := hr.cell 1
  have d2 := hr.cell 2
  have f0 := hr.frozen 0
  have f1 := hr.frozen 1
  have f2 := hr.frozen 2
  simp only [List.getElem?_toArray, List.getElem?_cons_zero, List.getElem?_cons_succ] at d0 d1 d2
  have HR := hide hr
  have HK := hide hk
  clear hk hr HB HL
  go_wp2_with (refine wpList_store_row rfl 77 _ _ rfl w.heap.size _ rfl rfl 77 _ ((unhide HR).alloc _) infoMsg rfl (by simp [Value.oneCell']) ?_)
  refine ret_struct_tmp rfl rfl (setRow_heap _ _ _ _ _ _ ((unhide HR).alloc _)) Try.underlying77 infoMsg rfl ?_
  exact ⟨rfl, ((unhide HK).alloc _).setRow (Or.inr (Nat.le_refl _)) _⟩
set_option maxRecDepth 100000 in
theorem find_yes0 {w : World} {b : Nat} {mv : Value} {g : Bg} (hb : Blk w b (bagC mv g) 67) {n : Int} {f t : Int} {s : ByteArray} (hl : ∀ X, Kept [] w X → (Instr.lookup 65 mv (.int .i64 n) true).run Try.prog X = .ok (.tuple #[.agg #[.int .i64 f, .int .i64 t, .string s], .bool true]) X) : Calls Try.prog 40 #[.pointer (some ⟨b, 0, none⟩), .int .i64 n] w fun e w' => e = .returned (.tuple #[.agg #[.int .i64 f, .int .i64 t, .string s], .int .i64 0]) ∧ Kept [] w w' := by
  have HB := hide hb
  have HL := hide hl
  clear hb hl
  go_enter Try.func40, Try.ntmps40
  go_upto_region 1 with fail
  refine world_at (R := fun X => Kept [] w X ∧ Blk X w.heap.size #[.int .i64 0, .int .i64 0, .string ByteArray.empty] 77) ⟨(Kept.refl [] w).alloc _, Blk.new _ _ _⟩ ?_
  rintro X ⟨hk, hr⟩
  have c0 := (bag_cells ((unhide HB).kept hk (by simp))).1
  have hl := unhide HL X hk
  have d0 := hr.cell 0
  have d1 := hr.cell 1
  have d2 := hr.cell 2
  have f0 := hr.frozen 0
  have f1 := hr.frozen 1
  have f2 := hr.frozen 2
  simp only [List.getElem?_toArray, List.getElem?_cons_zero, List.getElem?_cons_succ] at d0 d1 d2
  have HR := hide hr
  have HK := hide hk
  clear hk hr HB HL
  go_wp2_with (refine wpList_store_row rfl 77 _ _ rfl w.heap.size _ rfl rfl 77 _ ((unhide HR).alloc _) infoMsg rfl (by simp [Value.oneCell']) ?_)
  refine ret_struct_tmp rfl rfl (setRow_heap _ _ _ _ _ _ ((unhide HR).alloc _)) Try.underlying77 infoMsg rfl ?_
  exact ⟨rfl, ((unhide HK).alloc _).setRow (Or.inr (Nat.le_refl _)) _⟩
theorem find_any {w : World} {b : Nat} {F : List Nat} {g : Bg} (h : Bk w b F g) {n : Int} (h1 : -9223372036854775808 ≤ n) (h2 : n ≤ 9223372036854775807) : Calls Try.prog 40 #[.pointer (some ⟨b, 0, none⟩), .int .i64 n] w fun e w' => e = .returned (.tuple #[msV ((look g.row n).getD zeroMs), .int .i64 (if (look g.row n).isSome then 0 else 200)]) ∧ Kept [] w w' := by
  obtain ⟨ho, mv, hb, hm⟩ := h
  have hl := fun X (k : Kept [] w X) => (hm.kept k (by simp)).lkup h1 h2
  cases hlk : look g.row n with
  | none =>
    rw [hlk] at hl
    have hz : msV zeroMs = .agg #[.int .i64 0, .int .i64 0, .string ByteArray.empty] := by unfold msV zeroMs; simp only [strB_nil]
    simp only [Option.getD_none, Option.isSome_none, hz] at hl ⊢
    exact find_no0 hb hl
  | some m =>
    rw [hlk] at hl
    exact find_yes0 hb hl
end Go.Proofs.Ytcohdkemfkiekaa
