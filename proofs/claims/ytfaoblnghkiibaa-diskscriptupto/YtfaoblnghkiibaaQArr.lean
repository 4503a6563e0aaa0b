/- Sectors and writes as wholes: a load, a store, a new variable. -/
import Derived.Test.YtfaoblnghkiibaaQSmall
import Derived.Deep.RegionHeld3
import Derived.Deep.AppendLies
namespace Go.Proofs.Ytfaoblnghkiibaa
open Go.RowKit

def zb : List Nat := List.replicate 64 0
def z70 : List Value := u8s zb
def z79 : List Value := .int .i64 0 :: u8s zb
theorem info70 : (Try.prog.info? 70).map (fun i => (i.zero, i.size, i.bytes)) = some (some (.agg z70.toArray), 64, 64) := by kernel_rfl
theorem info79 : (Try.prog.info? 79).map (fun i => (i.zero, i.size, i.bytes)) = some (some (.agg z79.toArray), 65, 72) := by kernel_rfl
theorem size70 : (Try.prog.info? 70).map (·.size) = some 64 := by kernel_rfl
theorem size79 : (Try.prog.info? 79).map (·.size) = some 65 := by kernel_rfl
theorem zero70 (w : World) : (zeroValue 70).run Try.prog w = .ok (.agg z70.toArray) w := by kernel_rfl
theorem zero79 (w : World) : (zeroValue 79).run Try.prog w = .ok (.agg z79.toArray) w := by kernel_rfl
theorem z70_len : z70.length = 64 := by simp [z70, zb, u8s_length]
theorem z79_len : z79.length = 65 := by simp [z79, zb, u8s_length]

theorem wpList_alloc_z {P : Program} {w : World} {ops : Array Oper} {rest : List Oper} {o : Oper} {a : Act} {Q : Exit → Act → World → Prop} (t : TypeId) (z : List Value) (ho : o.op = .alloc t) (hgd : o.guard = none)
    (hz : ∀ w, (zeroValue t).run P w = .ok (.agg z.toArray) w)
    (h : wpList P ops Q rest (a.put o.dst (.pointer (some ⟨w.heap.size, 0, none⟩))) (w.alloc (.cells z.toArray t))) : wpList P ops Q (o :: rest) a w := by
  refine wpList_plain hgd fun K hK => ?_
  unfold Oper.wp execOp
  simp [ho, Instr.alloc, hz, newVar, newRow, Value.cells, Result.andThen]
  exact hK _ _ h

/-- a store of a whole value into the variable that was made last -/
theorem wpList_store_new {P : Program} {w : World} {ops : Array Oper} {rest : List Oper} {o : Oper} {a : Act} {Q : Exit → Act → World → Prop} (p x : Operand) (t : TypeId) (z : Array Value) (cs : List Value)
    (ho : o.op = .store t p x) (hgd : o.guard = none) (hp : a.eval p = .pointer (some ⟨w.heap.size, 0, none⟩)) (hx : a.eval x = .agg cs.toArray)
    (hi : (P.info? t).map (·.size) = some cs.length) (hs : z.size = cs.length) (h1 : ∀ v ∈ cs, v.oneCell' = true)
    (hd : o.dst = none) (h : wpList P ops Q rest a (w.alloc (.cells cs.toArray t))) : wpList P ops Q (o :: rest) a (w.alloc (.cells z t)) := by
  have e : a.put o.dst undef = a := by rw [hd]; rfl
  refine wpList_plain hgd fun K hK => ?_
  unfold Oper.wp execOp
  simp only [ho, Sem.run_bind, Sem.run_pure, Result.andThen_ok, hp, hx, run_storeAt_new w t z cs.toArray (by simpa using hi) (by simpa using hs) (all_oneCell_toArray h1)]
  exact hK _ _ (by rw [e]; exact h)

theorem ret_arr {P : Program} {fn : Func} {R : Ending → World → Prop} {a : Act} {w : World} {p : Tmp} {ty e : TypeId} {b n : Nat} {cs : Array Value}
    (hr : fn.results = #[.cell p ty]) (hp : a.tmps.getD p undef = .pointer (some ⟨b, 0, none⟩)) (hb : Blk w b cs ty)
    (hu : P.underlying ty = some (.array n e)) (hi : (P.info? ty).map (·.size) = some cs.size) (hd : a.defers = []) (hR : R (.returned (.agg cs)) w) : bodyPost P fn R .ret a w := by
  refine bodyPost_ret (v := .agg cs) ?_ hd hR
  have hp2 : a.tmps[p]?.getD undef = .pointer (some ⟨b, 0, none⟩) := by simpa using hp
  simp [results, hr, hp2, asAddr, run_loadVar_row w b ty ty cs (0, 0) _ hb hu rfl hi]

theorem kept_setCells {F : List Nat} {a : World} {b : Nat} (hb : b ∈ F ∨ a.heap.size ≤ b) : ∀ (vs : List Value) (o : Nat) (w : World), Kept F a w → Kept F a (w.setCells b o vs)
  | [], _, _, h => h
  | v :: r, o, _, h => kept_setCells hb r (o + 1) _ (h.setCell (p := ⟨b, o, none⟩) hb v)

/-- a range of a block is written over -/
theorem blk_range {g : Nat} {t : TypeId} : ∀ (vs : List Value) (o : Nat) (w : World) (cs : List Value), Blk w g cs.toArray t → o + vs.length ≤ cs.length → Blk (w.setCells g o vs) g (cs.take o ++ vs ++ cs.drop (o + vs.length)).toArray t
  | [], o, w, cs, h, hl => by simpa [World.setCells] using h
  | v :: r, o, w, cs, h, hl => by
    have h1 := h.set o v
    rw [List.setIfInBounds_toArray] at h1
    have h2 := blk_range r (o + 1) _ _ h1 (by simp at hl ⊢; omega)
    have e : (cs.set o v).take (o + 1) ++ r ++ (cs.set o v).drop (o + 1 + r.length) = cs.take o ++ (v :: r) ++ cs.drop (o + (v :: r).length) := by
      have ho : o < cs.length := by simp at hl; omega
      rw [take_succ_at (x := v) (by simp [ho]), List.take_set_of_le (by omega), List.drop_set_of_lt (by omega)]
      simp [Nat.add_comm 1, Nat.add_assoc]
    rw [e] at h2
    exact h2

theorem dp_sect {w : World} {b g pc : Nat} {pa : Option Addr} {d : Dm} (h : Dp w b g pa pc d) {k : Nat} (hk : k < d.n) : w.rangeAt g (k * 64) (u8s (sect d.safe k)) := by
  intro j v hv
  have hj := (List.getElem?_eq_some_iff.1 hv).1
  rw [u8s_length, sect_len h.ok.len hk] at hj
  rw [h.safe.cell]
  simp only [u8s, List.getElem?_map, sect, List.getElem?_take, List.getElem?_drop, if_pos hj, List.getElem?_toArray] at hv ⊢
  rw [← hv, Nat.mul_comm k 64]
theorem dp_pend {w : World} {b g pc : Nat} {pa : Option Addr} {d : Dm} (h : Dp w b g pa pc d) {i : Nat} {x : Wt} (hx : d.pend[i]? = some x) : ∃ p, pa = some ⟨p, 0, none⟩ ∧ w.rangeAt p (i * 65) (wc x) := by
  have hi := (List.getElem?_eq_some_iff.1 hx).1
  rcases h.pend.2 with ⟨_, h0⟩ | ⟨q, cap, cur, hv, _, hg, hc, hm, hs, _⟩
  · omega
  · injection hv with e1 e2 e3
    subst e1
    refine ⟨q, rfl, fun j v hj => ?_⟩
    have := h.pend.cells (g := q) (by rw [e3]; rfl) (i * 65 + j) v (flatW_at h.ok.pend hx hj)
    rwa [Addr.add_mid, Nat.zero_add] at this
theorem range_tail {w : World} {p o : Nat} {v : Value} {cs : List Value} (h : w.rangeAt p o (v :: cs)) : w.rangeAt p (o + 1) cs := fun j u hu => by
  have := h (j + 1) u (by simpa using hu)
  rwa [show o + (j + 1) = o + 1 + j by omega] at this
theorem range_kept {F : List Nat} {w w' : World} {b o : Nat} {l : List Value} (h : w.rangeAt b o l) (hk : Kept F w w') (hb : b < w.heap.size) (hn : b ∉ F) : w'.rangeAt b o l :=
  fun j v hv => (hk.cell (p := ⟨b, o + j, none⟩) hb hn).trans (h j v hv)
theorem there_blk {w : World} {b : Nat} {cs : List Value} {t : TypeId} (h : Blk w b cs.toArray t) {o n : Nat} (hl : o + n ≤ cs.length) : w.there b o n := fun j hj =>
  ⟨by rw [h.cell]; simp; omega, h.frozen _⟩

/-- 'copy' as one step of a region that draws, by its run -/
theorem step_copy_runI {P : Program} {ops : Array Oper} {o : Oper} {a : Act} {w : World} {K : Act → World → Prop} {Q : Exit → Act → World → Prop} {E : Prop}
    (hg : o.guard = none) (d x : Operand) (dT sT : TypeId) (hop : o.op = Op.call { callee := Callee.builtin Builtin.copy, args := #[d, x], argTypes := #[dT, sT] })
    (v u : Value) (hd : a.eval d = v) (hx : a.eval x = u) {v' : Value} {w' : World} (hr : (Builtin.copy_ #[dT, sT] o.type #[v, u]).run P w = .ok v' w') (hK : K (a.put o.dst v') w') :
    if Region.wanted o (yielded ops a.tmps) = true then Oper.wp P o a w K Q else E := by
  have hw : Region.wanted o (yielded ops a.tmps) = true := by simp [Region.wanted, hg]
  rw [if_pos hw]
  unfold Oper.wp
  simp [execOp, hop, resolve, invoke, builtin, hd, hx, hr, Result.andThen]
  exact hK
end Go.Proofs.Ytfaoblnghkiibaa
