/- Write. -/
import Derived.Test.YtfaoblnghkiibaaQSync
import Derived.Test.YtfaoblnghkiibaaQRead
import Derived.BigRegion
import Derived.Deep.RegionLaw
namespace Go.Proofs.Ytfaoblnghkiibaa
open Go.RowKit

set_option maxRecDepth 100000 in
theorem write_no1 {w : World} {b : Nat} {F : List Nat} {d : Dm} (h : Dk w b F d) {x : Int} (hx : rE d x ≠ 0) (v : Value) :
    Calls Try.prog 19 #[.pointer (some ⟨b, 0, none⟩), .int .i64 x, v] w fun e w' => e = .returned (.int .i64 (rE d x : Nat)) ∧ w' = w := by
  obtain ⟨g, pa, pc, h, -⟩ := h
  have HP := hide (refusal_any h x)
  clear h
  generalize rE d x = r at *
  have t1 : ((r : Int) == 0) = false := by simp; omega
  clear hx
  go_enter Try.func19, Try.ntmps19
  go_wp2_with (first | (go_at_call 40; refine (unhide HP).mono ?_; rintro e w' ⟨rfl, hq⟩; subst hq; clear HP))
  go_ret
  exact ⟨rfl, rfl⟩
set_option maxRecDepth 100000 in
theorem nwrite (w : World) (x : Int) (v : Value) : Calls Try.prog 19 #[.pointer none, .int .i64 x, v] w fun e w' => e = .returned (.int .i64 1) ∧ w' = w := by
  have HP := hide (nrefusal w x)
  go_enter Try.func19, Try.ntmps19
  go_wp2_with (first | (go_at_call 40; refine (unhide HP).mono ?_; rintro e w' ⟨rfl, hq⟩; subst hq; clear HP))
  go_ret
  exact ⟨rfl, rfl⟩
set_option maxRecDepth 100000 in
theorem write_no2 {w : World} {b : Nat} {F : List Nat} {d : Dm} (h : Dk w b F d) {x : Int} (hx : rE d x = 0) {v : Value} {l : List Nat} (hv : Sees w v l) (hl : l.length ≠ 64) :
    Calls Try.prog 19 #[.pointer (some ⟨b, 0, none⟩), .int .i64 x, v] w fun e w' => e = .returned (.int .i64 82) ∧ w' = w := by
  obtain ⟨g, pa, pc, h, -⟩ := h
  have HP := hide (refusal_any h x)
  rw [hx] at HP
  obtain ⟨va, vc, rfl, -⟩ := hv
  clear h hx
  generalize l.length = L at *
  have t1 : ((L : Int) == 64) = false := by simp; omega
  clear hl
  go_enter Try.func19, Try.ntmps19
  go_wp2_with (first | (go_at_call 40; refine (unhide HP).mono ?_; rintro e w' ⟨rfl, hq⟩; subst hq; clear HP))
  go_ret
  exact ⟨rfl, rfl⟩

theorem build79 (w : World) (k : Int) (cs : List Value) (hl : cs.length = 64) : (Instr.build 79 #[(0, .int .i64 k), (1, .agg cs.toArray)]).run Try.prog w = .ok (.agg (Value.int .i64 k :: cs).toArray) w := by
  iterate 64 (rcases cs with _ | ⟨_, cs⟩; · simp at hl)
  rcases cs with _ | ⟨_, cs⟩
  · kernel_rfl
  · simp at hl
theorem slice79 (w : World) (cs : List Value) (hl : cs.length = 65) : (Instr.buildSlice 66 1 #[(0, .agg cs.toArray)]).run Try.prog w = .ok (.slice (some ⟨w.heap.size, 0, none⟩) 1 1) (w.alloc (.cells cs.toArray 79)) := by
  iterate 65 (rcases cs with _ | ⟨_, cs⟩; · simp at hl)
  rcases cs with _ | ⟨_, cs⟩
  · kernel_rfl
  · simp at hl

theorem fold79 (k : Int) (cs : List Value) (hl : cs.length = 64) : List.foldl (fun (cs : Array Value) (x : Value × Nat) => cs.setIfInBounds (1 + x.snd) x.fst) (z79.toArray.setIfInBounds 0 (.int .i64 k)) cs.zipIdx = (Value.int .i64 k :: cs).toArray := by
  iterate 64 (rcases cs with _ | ⟨_, cs⟩; · simp at hl)
  rcases cs with _ | ⟨_, cs⟩
  · kernel_rfl
  · simp at hl

theorem fold_zip : ∀ (vs : List Value) (j : Nat) (arr : Array Value), j + vs.length ≤ arr.size → (List.foldl (fun (cs : Array Value) (x : Value × Nat) => cs.setIfInBounds x.snd x.fst) arr (vs.zipIdx j)).toList = arr.toList.take j ++ vs ++ arr.toList.drop (j + vs.length)
  | [], j, arr, h => by simp
  | v :: r, j, arr, h => by
    rw [List.zipIdx_cons, List.foldl_cons, fold_zip r (j + 1) _ (by simp at h ⊢; omega)]
    have hj : j < arr.toList.length := by simp at h ⊢; omega
    simp only [Array.toList_setIfInBounds]
    rw [take_succ_at (x := v) (by rw [List.getElem?_set_self hj]), List.take_set_of_le (by omega), List.drop_set_of_lt (by omega)]
    simp [Nat.add_comm 1, Nat.add_assoc]
theorem fold_full (cx : List Value) (arr : Array Value) (h : arr.size = cx.length) : List.foldl (fun (cs : Array Value) (x : Value × Nat) => cs.setIfInBounds x.snd x.fst) arr cx.zipIdx = cx.toArray := by
  have := fold_zip cx 0 arr (by omega)
  apply Array.ext'
  rw [this]
  simp [h]

/-- 'append' as one step of a region that draws, by its run -/
theorem step_append_runE {P : Program} {ops : Array Oper} {o : Oper} {a : Act} {w : World} {K : Act → World → Prop} {Q : Exit → Act → World → Prop} {E : Prop}
    (hg : o.guard = none) (d x : Operand) (dT sT : TypeId) (hop : o.op = Op.call { callee := Callee.builtin Builtin.append, args := #[d, x], argTypes := #[dT, sT] })
    (v u : Value) (hd : a.eval d = v) (hx : a.eval x = u) {v' : Value} {w' : World} (hr : (Builtin.append_ #[dT, sT] o.type #[v, u]).run P w = .ok v' w') (hK : K (a.put o.dst v') w') :
    if Region.wanted o (yielded ops a.tmps) = true then Oper.wp P o a w K Q else E := by
  have hw : Region.wanted o (yielded ops a.tmps) = true := by simp [Region.wanted, hg]
  rw [if_pos hw]
  unfold Oper.wp
  simp [execOp, hop, resolve, invoke, builtin, hd, hx, hr, Result.andThen]
  exact hK

theorem step_load_mid {P : Program} {ops : Array Oper} {o : Oper} {a : Act} {w : World} {K : Act → World → Prop} {Q : Exit → Act → World → Prop} {E : Prop}
    (hg : o.guard = none) (t : TypeId) (x : Operand) (hop : o.op = .load t x) (b off : Nat) (cs : List Value) (hx : a.eval x = .pointer (some ⟨b, off, none⟩))
    (hr : (Instr.loadAt t (.pointer (some ⟨b, off, none⟩))).run P w = .ok (.agg cs.toArray) w) (hK : K (a.put o.dst (.agg cs.toArray)) w) :
    if Region.wanted o (yielded ops a.tmps) = true then Oper.wp P o a w K Q else E := by
  have hw : Region.wanted o (yielded ops a.tmps) = true := by simp [Region.wanted, hg]
  rw [if_pos hw]
  unfold Oper.wp
  simp only [execOp, hop, hx, hr, Sem.run_bind, Sem.run_pure, Result.andThen_ok]
  exact hK
theorem exec_build {P : Program} {o : Oper} {a : Act} (t : TypeId) (parts : Array (Nat × Operand)) (hop : o.op = .build t parts) {v' : Value} (ps : Array (Nat × Value)) (hp : (parts.map fun (i, x) => (i, a.eval x)) = ps) (hr : ∀ w, (Instr.build t ps).run P w = .ok v' w) (w : World) : (execOp a.eval o).run P w = .ok (.value v') w := by
  simp only [execOp, hop, hp, hr, Sem.run_bind, Sem.run_pure, Result.andThen_ok]
theorem exec_arr {P : Program} {o : Oper} {a : Act} (t : TypeId) (x : Operand) (hop : o.op = .sliceToArrayPointer t x) {u v' : Value} (hx : a.eval x = u) (hr : ∀ w, (Instr.arrayAt t u).run P w = .ok v' w) (w : World) : (execOp a.eval o).run P w = .ok (.value v') w := by
  simp only [execOp, hop, hx, hr, Sem.run_bind, Sem.run_pure, Result.andThen_ok]
theorem step_bslice {P : Program} {ops : Array Oper} {o : Oper} {a : Act} {w : World} {K : Act → World → Prop} {Q : Exit → Act → World → Prop} {E : Prop}
    (hg : o.guard = none) (t : TypeId) (n : Nat) (parts : Array (Nat × Operand)) (hop : o.op = .buildSlice t n parts)
    {v' : Value} {w' : World} (ps : Array (Nat × Value)) (hp : (parts.map fun (i, x) => (i, a.eval x)) = ps) (hr : (Instr.buildSlice t n ps).run P w = .ok v' w') (hK : K (a.put o.dst v') w') :
    if Region.wanted o (yielded ops a.tmps) = true then Oper.wp P o a w K Q else E := by
  have hw : Region.wanted o (yielded ops a.tmps) = true := by simp [Region.wanted, hg]
  rw [if_pos hw]
  unfold Oper.wp
  simp only [execOp, hop, hp, hr, Sem.run_bind, Sem.run_pure, Result.andThen_ok]
  exact hK

/-- one more pending write: the append -/
theorem append_write {w : World} {b g pc : Nat} {pa : Option Addr} {d : Dm} (h : Dp w b g pa pc d) {x : Wt} (hx : x.ok d.n) (hpl : (d.pend.length + 1) * 72 ≤ 140737488355328) (ty : TypeId) :
    ∃ a2 c2 w2, (Builtin.append_ #[66, 66] ty #[.slice pa d.pend.length pc, .slice (some ⟨w.heap.size, 0, none⟩) 1 1]).run Try.prog (w.drew.alloc (.cells (wc x).toArray 79)) = .ok (.slice a2 (d.pend.length + 1) c2) w2 ∧
      Dp (w2.setCell ⟨b, 1, none⟩ (.slice a2 (d.pend.length + 1) c2)) b g a2 c2 { d with pend := d.pend ++ [x] } ∧ w2.cell? ⟨b, 1, none⟩ = some (.slice pa d.pend.length pc) ∧ w2.frozen? ⟨b, 1, none⟩ = false ∧
      Kept (b :: g :: (Value.slice pa d.pend.length pc).ownBlock.toList) w w2 ∧ ∀ p, (Value.slice a2 (d.pend.length + 1) c2).ownBlock = some p → (Value.slice pa d.pend.length pc).ownBlock = some p ∨ w.heap.size ≤ p := by
  obtain ⟨i0, hi, hz0, hz1, hz2⟩ := info_parts info79
  have hka : Kept [] w (w.drew.alloc (.cells (wc x).toArray 79)) := (Kept.refl [] w).drew.alloc _
  have hda := h.keep hka (by simp) (by simp) (by simp)
  have hbl : b < w.heap.size := h.head.lt
  have hgl : g < w.heap.size := h.safe.lt
  have hnew : Blk (w.drew.alloc (.cells (wc x).toArray 79)) w.heap.size (wc x).toArray 79 := Blk.new w.drew _ _
  have hwl := wc_len hx
  obtain ⟨v2, w2, hr, ho2, hg2, _, hat2⟩ := run_append_own_at (P := Try.prog) (w.drew.alloc (.cells (wc x).toArray 79)) 0 66 ty 79 i0 _ 65 72 Try.underlying66 hi hz0 hz1 hz2 (by simp [Value.cells, z79_len]) (by omega) _ d.pend.length (flatW d.pend) hda.pend ⟨w.heap.size, 0, none⟩ 1 1 (wc x) (by rw [hwl])
    (fun j u hu => by rw [Addr.add_mid, Nat.zero_add, hnew.cell]; simpa using hu) (wc_one x) (by unfold maxLen; omega) (by omega) (Nat.zero_le _)
  obtain ⟨a2, c2, rfl⟩ := own_len ho2
  have hsz : (w.drew.alloc (.cells (wc x).toArray 79)).heap.size = w.heap.size + 1 := by simp
  have hb2 : Blk w2 b (dcells g d.n (.slice pa d.pend.length pc) d.fuse d.wr d.sy) 68 := by
    have := hg2.block b (by rw [hsz]; omega) (fun e => (h.pb b e.symm).1 rfl)
    exact this.trans hda.head
  have hg3 : Blk w2 g (u8s d.safe).toArray 70 := by
    have := hg2.block g (by rw [hsz]; omega) (fun e => (h.pb g e.symm).2 rfl)
    exact this.trans hda.safe
  have hown : ∀ p, (Value.slice a2 (d.pend.length + 1) c2).ownBlock = some p → (Value.slice pa d.pend.length pc).ownBlock = some p ∨ w.heap.size + 1 = p := by
    intro p hp
    rcases hat2 with e | e
    · left; rw [← e]; exact hp
    · right; rw [hp] at e; injection e with e; rw [hsz] at e; omega
  have hpb : ∀ p, (Value.slice a2 (d.pend.length + 1) c2).ownBlock = some p → p ≠ b ∧ p ≠ g := by
    intro p hp
    rcases hown p hp with e | e
    · exact h.pb p e
    · omega
  have hk3 : Kept [b] w2 (w2.setCell ⟨b, 1, none⟩ (.slice a2 (d.pend.length + 1) c2)) := (Kept.refl _ _).setCell (p := ⟨b, 1, none⟩) (Or.inl (by simp)) _
  refine ⟨a2, c2, w2, hr, ⟨⟨h.ok.one, h.ok.most, h.ok.len, h.ok.byte, ?_, h.ok.fuse⟩, ?_, hg3.kept hk3 (by simp; exact fun e => h.bg e.symm), ?_, h.bg, ?_⟩, ?_, hb2.frozen 1, ?_, ?_⟩
  · intro y hy
    simp only [List.mem_append, List.mem_singleton] at hy
    rcases hy with hy | rfl
    · exact h.ok.pend y hy
    · exact hx
  · have := hb2.set 1 (.slice a2 (d.pend.length + 1) c2)
    simpa [dcells] using this
  · have e1 : flatW (d.pend ++ [x]) = flatW d.pend ++ wc x := by rw [flatW_app]; simp [flatW]
    have e2 : (d.pend ++ [x]).length = d.pend.length + 1 := by simp
    show (w2.setCell ⟨b, 1, none⟩ (.slice a2 (d.pend.length + 1) c2)).ownsRow 0 79 65 (.slice a2 (d.pend ++ [x]).length c2) (d.pend ++ [x]).length (flatW (d.pend ++ [x]))
    rw [e1, e2]
    exact own_kept ho2 hk3 (fun p hp => by simp; exact (hpb p hp).1)
  · intro p hp
    exact hpb p (by simpa using hp)
  · rw [hb2.cell]; simp [dcells]
  · have := (hka.mono (G := (Value.slice pa d.pend.length pc).ownBlock.toList) (fun _ hx => by cases hx)).grown hg2 (fun k hk => Or.inl (by simp [hk]))
    exact this.mono (fun y hy => Or.inl (by simp [hy]))
  · intro p hp
    rcases hown p hp with e | e
    · exact Or.inl e
    · right; omega

end Go.Proofs.Ytfaoblnghkiibaa
