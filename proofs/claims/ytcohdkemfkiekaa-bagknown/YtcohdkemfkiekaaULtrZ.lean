/- Letters: rows of them, appended to; sorted by their numbers. -/
import Derived.Test.YtcohdkemfkiekaaUCal2Z
import Derived.Test.YtcohdkemfkiekaaUSfnZ
import Derived.LoopN
namespace Go.Proofs.Ytcohdkemfkiekaa
open Go.RowKit Go.Maps Go.Sort
set_option linter.unusedSimpArgs false

/-- A letter: its number, its message, where its data lie. -/
structure Lx where
  n : Int
  m : Ms
  g : Nat
  c : Nat
instance : Inhabited Lx := ⟨⟨0, ⟨0, 0, []⟩, 0, 0⟩⟩
def slL (x : Lx) : Value := .slice (some ⟨x.g, 0, none⟩) x.m.dat.length x.c
def ltrC (x : Lx) : List Value := [.int .i64 x.n, .int .i64 x.m.frm, .int .i64 x.m.dst, slL x]
def flatL (l : List Lx) : List Value := l.flatMap ltrC
theorem flatL_len (l : List Lx) : (flatL l).length = l.length * 4 := by
  unfold flatL
  rw [List.length_flatMap]
  induction l with
  | nil => rfl
  | cons x l ih => simp [ltrC] at ih ⊢; omega
theorem flatL_app (l m : List Lx) : flatL (l ++ m) = flatL l ++ flatL m := by simp [flatL]
theorem flatL_at : ∀ (d : List Lx) (i r : Nat), i < d.length → r < 4 → (flatL d)[i * 4 + r]? = (ltrC (d.getD i default))[r]?
  | [], i, r, h, _ => by simp at h
  | x :: d, 0, r, _, hr => by
    have e : flatL (x :: d) = ltrC x ++ flatL d := rfl
    rw [e, List.getElem?_append_left (by simp [ltrC]; omega)]
    simp
  | x :: d, i + 1, r, h, hr => by
    have e : flatL (x :: d) = ltrC x ++ flatL d := rfl
    have e2 : (i + 1) * 4 + r = (ltrC x).length + (i * 4 + r) := by simp [ltrC]; omega
    rw [e, e2, List.getElem?_append_right (by omega), Nat.add_sub_cancel_left, flatL_at d i r (by simpa using h) hr]
    simp
theorem holds_ltrs {w : World} {base g cap : Nat} {d : List Lx} (h : w.ownsRow base 48 4 (.slice (some ⟨g, 0, none⟩) d.length cap) d.length (flatL d)) : HoldsK ltrC 4 w g 0 d.toArray := by
  intro t ht
  rw [size_flatK] at ht
  have ht' : t < d.length * 4 := by simpa using ht
  rw [get_flatK _ _ _ _ ht]
  have hq : t / 4 < d.length := by omega
  have hd : d.toArray[t / 4]! = d.getD (t / 4) default := by
    rw [getElem!_pos _ _ (by simpa using hq)]
    simp [List.getElem?_eq_getElem hq]
  rw [hd]
  have hx := flatL_at d (t / 4) (t % 4) hq (Nat.mod_lt _ (by omega))
  rw [show t / 4 * 4 + t % 4 = t by omega] at hx
  have hl : t < (flatL d).length := by rw [flatL_len]; exact ht'
  have hc := h.cells (g := g) rfl t (flatL d)[t] (List.getElem?_eq_getElem hl)
  have hadd : (⟨g, 0, none⟩ : Addr).add t = ⟨g, t, none⟩ := by unfold Addr.add; split <;> simp_all
  rw [hadd] at hc
  have hf : w.frozen? ⟨g, t, none⟩ = false := by
    rcases h.2 with ⟨h1, _⟩ | ⟨g', cap', cur, hv, hb, hg, _⟩
    · cases h1
    · cases hv; exact Blk.frozen hg t
  rw [Nat.zero_add]
  refine ⟨?_, hf⟩
  rw [hc, ← List.getElem?_eq_getElem hl, hx]
  have h4 : t % 4 < (ltrC (d.getD (t / 4) default)).length := by simp [ltrC]; omega
  rw [List.getElem?_eq_getElem h4, getElem!_pos (ltrC (d.getD (t / 4) default)) (t % 4) h4]
  rfl
theorem info_ltr : (Try.prog.info? 48).map (fun i => (i.zero, i.size, i.bytes)) = some (some (.agg #[.int .i64 0, .int .i64 0, .int .i64 0, .slice none 0 0]), 4, 48) := by kernel_rfl
/-- Letters under way: a row of the call's own, each one's data in a block of its own. -/
structure Lts (w0 w : World) (v : Value) (l : List Lx) : Prop where
  own : w.ownsRow w0.heap.size 48 4 v l.length (flatL l)
  dat : ∀ x ∈ l, DatP w w0.heap.size (slL x) x.m.dat
  ap : ∀ x ∈ l, v.ownBlock ≠ some x.g
  nd : (l.map Lx.g).Nodup
theorem Lts.kept {w0 w w' : World} {v : Value} {l : List Lx} {F : List Nat} (h : Lts w0 w v l) (k : Kept F w w') (h1 : ∀ x, v.ownBlock = some x → x ∉ F) (h2 : ∀ x ∈ l, x.g ∉ F) : Lts w0 w' v l :=
  ⟨own_kept h.own k h1, fun x hx => (h.dat x hx).kept k (fun y hy => by simp [slL, Value.ownBlock] at hy; rw [← hy]; exact h2 x hx), h.ap, h.nd⟩
/-- 'append(letters, l)'. -/
theorem wpList_append_ltr {w0 : World} (w : World) {ops : Array Oper} {rest : List Oper} {o : Oper} {a : Act} {Q : Exit → Act → World → Prop} (hgd : o.guard = none) (s x : Operand)
    (ho : o.op = .call { callee := .builtin .append, args := #[s, x], argTypes := #[45, 45] })
    {v : Value} {l : List Lx} (hs : a.eval s = v) (hk : Hid (Kept [] w0 w)) (hown : Hid (Lts w0 w v l))
    {b : Nat} {e : Lx} (hxv : a.eval x = .slice (some ⟨b, 0, none⟩) 1 1) (hb : Hid (Blk w b #[.int .i64 e.n, .int .i64 e.m.frm, .int .i64 e.m.dst, slL e] 48))
    (hd : Hid (DatP w w0.heap.size (slL e) e.m.dat ∧ v.ownBlock ≠ some e.g ∧ ∀ y ∈ l, y.g ≠ e.g)) (hl : Hid (l.length + 1 ≤ 1048576))
    (h : ∀ va' n' vc' w', Hid (n' = l.length + 1) → Hid (Lts w0 w' (.slice va' n' vc') (l ++ [e])) → Hid (Kept [] w0 w') → Hid (∃ row, w.grownBy w' row ∧ ∀ q, row = some q → v.ownBlock = some q) → wpList Try.prog ops Q rest (a.put o.dst (.slice va' n' vc')) w') :
    wpList Try.prog ops Q (o :: rest) a w := by
  obtain ⟨i0, hi, hz0, hz1, hz2⟩ := info_parts info_ltr
  have h1 := (unhide hown).own
  have hk' : Kept [] w0 w := hk
  have hl' : l.length + 1 ≤ 1048576 := hl
  refine wpList_append_own_at w hgd s x 45 ho w0.heap.size 48 i0 _ 4 48 Try.underlying45 hi hz0 hz1 hz2 rfl (by decide) v l.length (flatL l) hs h1 ⟨b, 0, none⟩ 1 1 [.int .i64 e.n, .int .i64 e.m.frm, .int .i64 e.m.dst, slL e] hxv (by simp) (fun j y hj => ?_) (by
      intro y hy; simp at hy; rcases hy with rfl | rfl | rfl | rfl <;> rfl) (by unfold maxLen; omega) (by omega) hk'.size ?_
  · have hadd : (⟨b, 0, none⟩ : Addr).add j = ⟨b, j, none⟩ := by unfold Addr.add; split <;> simp_all
    rw [hadd, (unhide hb).cell j]
    simpa using hj
  · intro v' w' q1 q2 q3 q4
    obtain ⟨a', c', rfl⟩ := own_len q1
    obtain ⟨d1, d2, d3⟩ := unhide hd
    have hkg : Kept [] w0 w' := hk'.grown q2 (fun k hkk => Or.inr (h1.lt k hkk).1)
    have hF : Kept v.ownBlock.toList w w' := (Kept.refl _ w).grown q2 (fun k hk => Or.inl (by simp [hk]))
    have hlt : ∀ x ∈ l, x.g < w.heap.size := fun x hx => by obtain ⟨y, e1, _, e3⟩ := ((unhide hown).dat x hx).own; simp [slL, Value.ownBlock] at e1; omega
    have het : e.g < w.heap.size := by obtain ⟨y, e1, _, e3⟩ := d1.own; simp [slL, Value.ownBlock] at e1; omega
    refine h a' (l.length + 1) c' w' rfl ⟨by rw [List.length_append, flatL_app]; exact q1, fun x hx => ?_, fun x hx => ?_, ?_⟩ hkg ⟨_, q2, fun q hq => hq⟩
    · rcases List.mem_append.1 hx with hx | hx
      · refine ((unhide hown).dat x hx).kept hF (fun y hy hm => ?_)
        simp [slL, Value.ownBlock] at hy
        subst hy
        exact (unhide hown).ap x hx (by simpa using hm)
      · simp at hx
        subst hx
        refine d1.kept hF (fun y hy hm => ?_)
        simp [slL, Value.ownBlock] at hy
        subst hy
        exact d2 (by simpa using hm)
    · have hx2 : v.ownBlock ≠ some x.g ∧ x.g < w.heap.size := by
        rcases List.mem_append.1 hx with hx | hx
        · exact ⟨(unhide hown).ap x hx, hlt x hx⟩
        · simp at hx; subst hx; exact ⟨d2, het⟩
      rcases q4 with q4 | q4
      · rw [q4]; exact hx2.1
      · rw [q4]; intro he; have := Option.some.inj he; omega
    · rw [List.map_append, List.nodup_append]
      refine ⟨(unhide hown).nd, by simp, fun a ha b hb => ?_⟩
      obtain ⟨y, hy, rfl⟩ := List.mem_map.1 ha
      simp at hb
      subst hb
      exact d3 y hy
theorem wpList_make_ltrs {w0 : World} (w : World) {ops : Array Oper} {rest : List Oper} {o : Oper} {a : Act} {Q : Exit → Act → World → Prop} (hg : o.guard = none) (l c : Operand) (hop : o.op = Op.makeSlice 45 l c) (n : Nat) (hn : n ≤ 1048576)
    (hl : a.eval l = .int .i64 0) (hc : a.eval c = .int .i64 (n : Int)) (h0 : w0.heap.size ≤ w.heap.size)
    (hK : ∀ w', Hid (Lts w0 w' (.slice (some ⟨w.heap.size, 0, none⟩) 0 n) []) → Hid (Kept [] w w') → wpList Try.prog ops Q rest (a.put o.dst (.slice (some ⟨w.heap.size, 0, none⟩) 0 n)) w') : wpList Try.prog ops Q (o :: rest) a w := by
  obtain ⟨i0, hi, hz0, hz1, hz2⟩ := info_parts info_ltr
  refine wpList_plain hg fun K hK' => ?_
  have hr := run_make (P := Try.prog) w 45 48 i0 _ Try.underlying45 hi hz0 .i64 .i64 0 n (by omega) (by omega) (by rw [hz2]; omega) (by omega)
  simp only [Int.toNat_natCast, hz1] at hr
  unfold Oper.wp
  simp [execOp, hop, hl, hc, hr, Result.andThen]
  refine hK' _ _ (hK _ ⟨⟨by simp [flatL], Or.inr ⟨w.heap.size, n, _, rfl, h0, heap_alloc_new w _, Nat.zero_le _, by unfold maxLen; omega, by rw [size_madeCells], by simp [flatL]⟩⟩, fun x hx => absurd hx (by simp), fun x hx => absurd hx (by simp), by simp⟩ ((Kept.refl [] w).alloc _))
end Go.Proofs.Ytcohdkemfkiekaa
