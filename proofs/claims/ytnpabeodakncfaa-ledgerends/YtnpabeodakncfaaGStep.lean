/- Step and what it asks. -/
import Derived.Test.YtnpabeodakncfaaGValid
import Derived.Laws.ResultCell
namespace Go.Proofs.Ytnpabeodakncfaa
open Go.RowKit

theorem box11 {W : World} {b : Nat} {x0 x1 x2 x3 x4 x5 x6 x7 x8 x9 x10 : Value} {t : TypeId} (h : Blk W b #[x0, x1, x2, x3, x4, x5, x6, x7, x8, x9, x10] t) : W.cell? ⟨b, 0, none⟩ = some x0 ∧ W.cell? ⟨b, 1, none⟩ = some x1 ∧ W.cell? ⟨b, 2, none⟩ = some x2 ∧ W.cell? ⟨b, 3, none⟩ = some x3 ∧ W.cell? ⟨b, 4, none⟩ = some x4 ∧ W.cell? ⟨b, 5, none⟩ = some x5 ∧ W.cell? ⟨b, 6, none⟩ = some x6 ∧ W.cell? ⟨b, 7, none⟩ = some x7 ∧ W.cell? ⟨b, 8, none⟩ = some x8 ∧ W.cell? ⟨b, 9, none⟩ = some x9 ∧ W.cell? ⟨b, 10, none⟩ = some x10 :=
  ⟨h.cell 0, h.cell 1, h.cell 2, h.cell 3, h.cell 4, h.cell 5, h.cell 6, h.cell 7, h.cell 8, h.cell 9, h.cell 10⟩
theorem new2 (w : World) (o : Obj) (cs : Array Value) (t : TypeId) : Blk ((w.alloc o).alloc (.cells cs t)) (w.heap.size + 1) cs t := by
  have h := Blk.new (w.alloc o) cs t
  rw [World.size_alloc] at h
  exact h

set_option maxRecDepth 100000 in
theorem refusal_any (w : World) (s : Int) (l : Ld) (r : Rc) : Calls Try.prog 37 #[.int .i64 s, lv l, rv r] w fun e w' => e = .returned (.int .i64 (rfs s l r.kind r.epoch r.peer)) ∧ Kept [] w w' := by
  have HV := fun W => valid_any W s l
  have HP := fun W x y => hasPlace_any W x y
  have HE := fun W => emb_any W l r
  have HQ := fun W => pmb_any W s r
  unfold lv rv at *
  go_enter Try.func37, Try.ntmps37
  go_wp2_with (first
    | (go_at_call 32; refine (HV _).mono ?_; rintro e w3 ⟨rfl, hk⟩; have hb := ((Blk.new w _ _).alloc _).kept hk (by simp); have hr := (new2 w _ _ _).kept hk (by simp); have hk3 := (((Kept.refl [] w).alloc _).alloc _).step hk; obtain ⟨c0, c1, c2⟩ := box3 hb; obtain ⟨e0, e1, e2, e3, e4, e5, e6, e7, e8, e9, e10⟩ := box11 hr)
    | (go_at_call 57; refine (HP _ _ _).mono ?_; rintro e w5 ⟨rfl, hq⟩; have hq2 := hq.symm; subst hq2)
    | (go_at_call 58; refine (HE _).mono ?_; rintro e w4 ⟨rfl, hk⟩; have hb4 := hb.kept hk (by simp); have hr4 := hr.kept hk (by simp); have hk4 := hk3.step hk; obtain ⟨a0, a1, a2⟩ := box3 hb4; obtain ⟨f0, f1, f2, f3, f4, f5, f6, f7, f8, f9, f10⟩ := box11 hr4)
    | (go_at_call 59; refine (HQ _).mono ?_; rintro e w6 ⟨rfl, hk⟩; have hk6 := hk4.step hk))
  all_goals
    go_ret
    refine ⟨ret_int ?_, ?_⟩
    · simp_all [rfs]; try omega
    first | exact hk6 | exact hk4 | exact hk3

theorem ret_ld {a b c : Int} {l : Ld} (h1 : a = l.ph) (h2 : b = l.ep) (h3 : c = l.pe) : Ending.returned (.agg #[.int .i64 a, .int .i64 b, .int .i64 c]) = Ending.returned (lv l) := by rw [h1, h2, h3]; rfl
theorem ret_struct {P : Program} {fn : Func} {R : Ending → World → Prop} {a : Act} {w : World} {p : Tmp} {ty : TypeId} {b : Nat} {cs : Array Value} {fs : Array Field}
    (hr : fn.results = #[.cell p ty]) (hp : a.tmps.getD p undef = .pointer (some ⟨b, 0, none⟩)) (hb : Blk w b cs ty)
    (hu : P.underlying ty = some (.struct fs)) (hi : (P.info? ty).map (·.size) = some cs.size) (hd : a.defers = []) (hR : R (.returned (.agg cs)) w) : bodyPost P fn R .ret a w := by
  refine bodyPost_ret (v := .agg cs) ?_ hd hR
  exact results_cell_row hr a.tmps w b ty cs (0, 0) _ hp hb hu rfl hi
theorem ret_struct_tmp {P : Program} {fn : Func} {R : Ending → World → Prop} {a : Act} {w : World} {p u : Tmp} {ty : TypeId} {b : Nat} {cs : Array Value} {fs : Array Field}
    (hr : fn.results = #[.cell p ty, .tmp u]) (hp : a.tmps.getD p undef = .pointer (some ⟨b, 0, none⟩)) (hb : Blk w b cs ty)
    (hu : P.underlying ty = some (.struct fs)) (hi : (P.info? ty).map (·.size) = some cs.size) (hd : a.defers = []) (hR : R (.returned (.tuple #[.agg cs, a.tmps.getD u undef])) w) : bodyPost P fn R .ret a w := by
  refine bodyPost_ret (v := .tuple #[.agg cs, a.tmps.getD u undef]) ?_ hd hR
  rw [results_cell_tmp hr, hp]
  have h := run_loadVar_row w b ty ty cs (0, 0) (.struct fs) hb hu rfl hi
  simp [asAddr, h, Sem.run_pure, Result.andThen]
theorem put3 {w : World} {b : Nat} {x y z : Value} {t : TypeId} (h : Blk w b #[x, y, z] t) (x' y' z' : Value) : Blk (((w.setCell ⟨b, 0, none⟩ x').setCell ⟨b, 1, none⟩ y').setCell ⟨b, 2, none⟩ z') b #[x', y', z'] t := by
  have h1 := ((h.set 0 x').set 1 y').set 2 z'
  exact h1
theorem froz {w : World} {b : Nat} {cs : Array Value} {t : TypeId} (h : Blk w b cs t) : w.frozen? ⟨b, 0, none⟩ = false ∧ w.frozen? ⟨b, 1, none⟩ = false ∧ w.frozen? ⟨b, 2, none⟩ = false := ⟨h.frozen 0, h.frozen 1, h.frozen 2⟩
theorem infoLed : (Try.prog.info? 25).map (·.size) = some 3 := by kernel_rfl
theorem new3 (w : World) (o p : Obj) (cs : Array Value) (t : TypeId) : Blk (((w.alloc o).alloc p).alloc (.cells cs t)) (w.heap.size + 1 + 1) cs t := by
  have h := Blk.new ((w.alloc o).alloc p) cs t
  rw [World.size_alloc, World.size_alloc] at h
  exact h
set_option maxRecDepth 100000 in
theorem behind_any (w : World) (s : Int) (l : Ld) (r : Rc) (hl : -1 ≤ l.ep ∧ l.ep ≤ 1073741824) : Calls Try.prog 38 #[.int .i64 s, lv l, rv r] w fun e w' => e = .returned (lv (bhd s l r.kind r.epoch r.peer)) ∧ Kept [] w w' := by
  unfold rv
  rw [show lv l = .agg #[.int .i64 l.ph, .int .i64 l.ep, .int .i64 l.pe] from rfl]
  have hwr : IntKind.i64.wrap (l.ep + 1) = l.ep + 1 := by rw [IntKind.wrap_i64]; omega
  go_enter Try.func38, Try.ntmps38
  go_wp2_with fail
  all_goals
    refine ret_struct (b := w.heap.size + 1 + 1) rfl rfl (new3 _ _ _ _ _) Try.underlying25 infoLed rfl ⟨?_, ?_⟩
    · refine ret_ld ?_ ?_ ?_ <;> simp_all [bhd]
    · refine Kept.alloc (Kept.alloc (Kept.alloc (Kept.refl _ _) _) _) _
set_option maxRecDepth 100000 in
theorem step_any (w : World) (s : Int) (l : Ld) (r : Rc) : Calls Try.prog 10 #[.int .i64 s, lv l, rv r] w fun e w' => e = .returned (.tuple #[lv (stp s l r.kind r.epoch r.peer), .int .i64 (rfs s l r.kind r.epoch r.peer)]) ∧ Kept [] w w' := by
  have HR := fun W => refusal_any W s l r
  have HB := fun W hl => behind_any W s l r hl
  have hl : rfs s l r.kind r.epoch r.peer = 0 → -1 ≤ l.ep ∧ l.ep ≤ 1073741824 := by
    intro h
    unfold rfs at h
    by_cases hv : vld s l = true
    · simp [vld] at hv; omega
    · simp [hv] at h
  rw [show stp s l r.kind r.epoch r.peer = if rfs s l r.kind r.epoch r.peer = 0 then bhd s l r.kind r.epoch r.peer else ⟨0, 0, 0⟩ from rfl]
  generalize hE : rfs s l r.kind r.epoch r.peer = E at *
  generalize hX : bhd s l r.kind r.epoch r.peer = X at *
  clear hE hX
  rw [show lv l = .agg #[.int .i64 l.ph, .int .i64 l.ep, .int .i64 l.pe] from rfl] at *
  rw [show lv X = .agg #[.int .i64 X.ph, .int .i64 X.ep, .int .i64 X.pe] from rfl] at HB
  unfold rv at *
  have HL := hide hl
  by_cases h0 : E = 0
  · subst h0
    have HB2 := fun W => HB W (hl rfl)
    clear HB hl HL
    go_enter Try.func10, Try.ntmps10
    go_wp2_with (first
      | (go_at_call 37; refine (HR _).mono ?_; rintro e w3 ⟨rfl, hk⟩; have hb := (((Blk.new w _ _).alloc _).alloc _).kept hk (by simp); have hr := ((new2 w _ _ _).alloc _).kept hk (by simp); have ho := (new3 w _ _ _ _).kept hk (by simp); have hk3 := ((((Kept.refl [] w).alloc _).alloc _).alloc _).step hk; obtain ⟨c0, c1, c2⟩ := box3 hb; obtain ⟨e0, e1, e2, e3, e4, e5, e6, e7, e8, e9, e10⟩ := box11 hr; obtain ⟨o0, o1, o2⟩ := box3 ho; obtain ⟨z0, z1, z2⟩ := froz ho)
      | (go_at_call 38; refine (HB2 _).mono ?_; rintro e w4 ⟨rfl, hk4⟩; have ho4 := ho.kept hk4 (by simp); have hk5 := hk3.step hk4; obtain ⟨p0, p1, p2⟩ := box3 ho4; obtain ⟨y0, y1, y2⟩ := froz ho4))
    refine ret_struct_tmp (b := w.heap.size + 1 + 1) rfl rfl (put3 ho4 _ _ _) Try.underlying25 infoLed rfl ⟨rfl, ?_⟩
    exact Kept.setCell (Kept.setCell (Kept.setCell hk5 (Or.inr (by simp; omega)) _) (Or.inr (by simp; omega)) _) (Or.inr (by simp; omega)) _
  · clear HB hl HL
    go_enter Try.func10, Try.ntmps10
    go_wp2_with (first
      | (go_at_call 37; refine (HR _).mono ?_; rintro e w3 ⟨rfl, hk⟩; have hb := (((Blk.new w _ _).alloc _).alloc _).kept hk (by simp); have hr := ((new2 w _ _ _).alloc _).kept hk (by simp); have ho := (new3 w _ _ _ _).kept hk (by simp); have hk3 := ((((Kept.refl [] w).alloc _).alloc _).alloc _).step hk; obtain ⟨c0, c1, c2⟩ := box3 hb; obtain ⟨e0, e1, e2, e3, e4, e5, e6, e7, e8, e9, e10⟩ := box11 hr; obtain ⟨o0, o1, o2⟩ := box3 ho; obtain ⟨z0, z1, z2⟩ := froz ho))
    refine ret_struct_tmp (b := w.heap.size + 1 + 1) rfl rfl (put3 ho _ _ _) Try.underlying25 infoLed rfl ⟨rfl, ?_⟩
    exact Kept.setCell (Kept.setCell (Kept.setCell hk3 (Or.inr (by simp; omega)) _) (Or.inr (by simp; omega)) _) (Or.inr (by simp; omega)) _
end Go.Proofs.Ytnpabeodakncfaa
