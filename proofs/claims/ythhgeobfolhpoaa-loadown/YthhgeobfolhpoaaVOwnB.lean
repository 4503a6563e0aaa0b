/- LoadOwn: twins of rows. -/
import Derived.Test.YthhgeobfolhpoaaVOwnA
namespace Go.Proofs.Ythhgeobfolhpoaa
open Go.RowKit

/-- 'append(dst, src...)' of numbers: dst is owned, src is any slice that reads as numbers. -/
theorem run_append_seesF {P : Program} (w : World) (base : Nat) (t ty : TypeId) (i : TypeInfo) (z : Value) (ht : P.underlying t = some (.slice 46)) (hi : P.info? 46 = some i) (hz : i.zero = some z)
    (hsize : i.size = 1) (hby : i.bytes = 8) (hzs : z.cells.size = 1)
    (v : Value) (xs : List Nat) (hown : w.ownsRow base 46 1 v xs.length (flts xs)) (x : Value) (ys : List Nat) (hx : SeesF w x ys)
    (h63 : xs.length + ys.length ≤ 17592186044416) (hbase : base ≤ w.heap.size) :
    ∃ v' w', (Builtin.append_ #[t, t] ty #[v, x]).run P w = .ok v' w' ∧ w'.ownsRow base 46 1 v' (xs ++ ys).length (flts (xs ++ ys)) ∧ w.grownBy w' v.ownBlock ∧ (v'.ownBlock = v.ownBlock ∨ v'.ownBlock = some w.heap.size) := by
  have hmx : xs.length + ys.length ≤ maxLen := by unfold maxLen; omega
  obtain ⟨a, cap, rfl, _, _, h⟩ := hx
  rcases h with rfl | ⟨b, off, rfl, _, hc⟩
  · refine ⟨v, w, ?_, by simpa using hown, ⟨rfl, rfl, rfl, Nat.le_refl _, fun _ _ _ => rfl⟩, Or.inl rfl⟩
    rcases hown.2 with ⟨rfl, h0⟩ | ⟨g, cap, cur, rfl, hbg, hg, hnc, hcm, hcs, htake⟩
    · cases a <;> simp [Builtin.append_, run_underlying ht, sizeOf, typeInfo, hi, Builtin.lenOf, Builtin.firstCells, loadCells, loadCellsFrom]
    · have : xs.length ≤ cap := hnc
      cases a <;> simp [Builtin.append_, run_underlying ht, sizeOf, typeInfo, hi, Builtin.lenOf, Builtin.firstCells, this, storeCells, loadCells, loadCellsFrom]
  · obtain ⟨v', w', hr, h2, h3, _, h5⟩ := run_append_own_at (P := P) w base t ty 46 i z 1 8 ht hi hz hsize hby hzs (by decide) v xs.length (flts xs) hown ⟨b, off, none⟩ ys.length cap (flts ys) (by simp [flts]) (by
      intro j u hu
      have hj : j < ys.length := by
        have := (List.getElem?_eq_some_iff.1 hu).1; simpa [flts] using this
      have hadd : (⟨b, off, none⟩ : Addr).add j = ⟨b, off + j, none⟩ := by unfold Addr.add; split <;> simp_all
      rw [hadd, hc j hj]
      simp [flts, List.getElem?_eq_getElem hj] at hu
      rw [← hu]; simp [List.getElem?_eq_getElem hj]) (flts_one ys) hmx (by omega) hbase
    refine ⟨v', w', hr, ?_, h3, h5⟩
    rw [flts_append, List.length_append]; exact h2

theorem ownF_new_nil (w : World) : (w.alloc (.cells #[] 46)).ownsRow w.heap.size 46 1 (.slice (some ⟨w.heap.size, 0, none⟩) 0 0) ([] : List Nat).length (flts []) := by
  refine ⟨by simp [flts], Or.inr ⟨w.heap.size, 0, #[], rfl, Nat.le_refl _, heap_alloc_new w _, by simp, by simp [maxLen], by simp, by simp [flts]⟩⟩

theorem wpList_append_seesF {P : Program} (w : World) {ops : Array Oper} {rest : List Oper} {o : Oper} {a : Act} {Q : Exit → Act → World → Prop} (hgd : o.guard = none) (s x : Operand) (t : TypeId)
    (ho : o.op = .call { callee := .builtin .append, args := #[s, x], argTypes := #[t, t] })
    (base : Nat) (i : TypeInfo) (z : Value) (ht : P.underlying t = some (.slice 46)) (hi : P.info? 46 = some i) (hz : i.zero = some z)
    (hsize : i.size = 1) (hby : i.bytes = 8) (hzs : z.cells.size = 1)
    (v : Value) (xs : List Nat) (hs : a.eval s = v) (hown : w.ownsRow base 46 1 v xs.length (flts xs)) (xv : Value) (ys : List Nat) (hxv : a.eval x = xv) (hx : SeesF w xv ys)
    (h63 : xs.length + ys.length ≤ 17592186044416) (hbase : base ≤ w.heap.size)
    (h : ∀ v' w', w'.ownsRow base 46 1 v' (xs ++ ys).length (flts (xs ++ ys)) → w.grownBy w' v.ownBlock → (v'.ownBlock = v.ownBlock ∨ v'.ownBlock = some w.heap.size) → wpList P ops Q rest (a.put o.dst v') w') :
    wpList P ops Q (o :: rest) a w := by
  refine wpList_plain hgd fun K hK => ?_
  obtain ⟨v', w', hr, h2, h3, h4⟩ := run_append_seesF (P := P) w base t o.type i z ht hi hz hsize hby hzs v xs hown xv ys hx h63 hbase
  unfold Oper.wp execOp
  simp only [ho, resolve, invoke, builtin, Sem.run_bind, Sem.run_pure, Result.andThen_ok, List.map_toArray, List.map_cons, List.map_nil, hs, hxv, hr]
  exact hK _ _ (h v' w' h2 h3 h4)

/-- 'append([]int{}, p...)': a twin in new memory -/
theorem wpList_twinF {P : Program} {w0 wx : World} {ops : Array Oper} {rest : List Oper} {o : Oper} {a : Act} {Q : Exit → Act → World → Prop} (hgd : Region.wanted o (yielded ops a.tmps) = true) (s x : Operand) (t : TypeId)
    (ho : o.op = .call { callee := .builtin .append, args := #[s, x], argTypes := #[t, t] })
    (i : TypeInfo) (ht : P.underlying t = some (.slice 46)) (hi : P.info? 46 = some i) (hz : i.zero = some (.float .f64 0))
    (hsize : i.size = 1) (hby : i.bytes = 8) (hs : a.eval s = .slice (some ⟨wx.heap.size, 0, none⟩) 0 0) (xv : Value) (ys : List Nat) (hxv : a.eval x = xv) (hk : Kept [] w0 wx) (hx : SeesF w0 xv ys) (L : Nat) (hL : ys.length = L) (hl : L ≤ 17592186044416)
    (h : ∀ a' c' w', w'.ownsRow wx.heap.size 46 1 (.slice a' L c') L (flts ys) → Kept [] wx w' → wpList P ops Q rest (a.put o.dst (.slice a' L c')) w') :
    wpList P ops Q (o :: rest) a (wx.alloc (.cells #[] 46)) := by
  refine wpList_step fun K hK => ?_
  rw [if_pos hgd]
  have hka : Kept [] w0 (wx.alloc (.cells #[] 46)) := hk.alloc _
  obtain ⟨v', w', hr, h2, h3, h4⟩ := run_append_seesF (P := P) (wx.alloc (.cells #[] 46)) wx.heap.size t o.type i (.float .f64 0) ht hi hz hsize hby rfl _ [] (ownF_new_nil wx) xv ys (hx.kept hka (Or.inr (by simp))) (by simp; omega) (by simp)
  have hkx : Kept [] wx w' := ((Kept.refl [] wx).alloc _).grown h3 (fun k hk' => Or.inr (by simp [Value.ownBlock] at hk'; subst hk'; exact Nat.le_refl _))
  have h2' : w'.ownsRow wx.heap.size 46 1 v' ys.length (flts ys) := h2
  rw [hL] at h2'
  obtain ⟨a', c', rfl⟩ := own_len h2'
  unfold Oper.wp execOp
  simp only [ho, resolve, invoke, builtin, Sem.run_bind, Sem.run_pure, Result.andThen_ok, List.map_toArray, List.map_cons, List.map_nil, hs, hxv, hr]
  exact hK _ _ (h a' c' w' h2' hkx)
theorem own_types {w : World} {base base' : Nat} {e e' : TypeId} {s s' : Nat} {v v' : Value} {n n' : Nat} {xs xs' : List Value} (h : w.ownsRow base e s v n xs) (h' : w.ownsRow base' e' s' v' n' xs') (hne : e ≠ e') : ∀ k, v.ownBlock = some k → v'.ownBlock ≠ some k := by
  intro k hk hk'
  rcases h.2 with ⟨e1, e2⟩ | ⟨g, cap, cur, e1, _, hh, _⟩
  · rw [e1] at hk; cases hk
  · rcases h'.2 with ⟨d1, d2⟩ | ⟨g', cap', cur', d1, _, hh', _⟩
    · rw [d1] at hk'; cases hk'
    · rw [e1] at hk
      rw [d1] at hk'
      cases hk
      cases hk'
      rw [hh] at hh'
      simp at hh'
      exact hne hh'.2
theorem Mid.grown {B : Nat} {W0 w w' : World} {G C : Nat → Nat} {n i : Nat} {F : List Nat} (h : Mid B W0 w G C n i) (hB : W0.heap.size = B) (hk : Kept F w w') (hF : ∀ x, x ∈ F → B ≤ x) : Mid B W0 w' G C n i := by
  have hup := h.up
  refine ⟨fun r hr k hk' => ?_, fun r hr hir => (h.un r hr hir).kept hk (fun hm => ?_), h.low, Nat.le_trans h.up hk.size, h.kept.trans hk (fun x hx => Or.inr (by rw [hB]; exact hF x hx))⟩
  · have hlow := h.low r hr
    rw [hk.cell (p := ⟨G r, k, none⟩) (by show G r < _; omega) (fun hm => by have := hF _ hm; simp only at this; omega)]
    exact h.old r hr k hk'
  · have := hF _ hm
    have hlow := h.low r hr
    omega
theorem Gr.kept {B : Nat} {w w' : World} {G : Nat → Nat} {n i j : Nat} {v : Value} {F : List Nat} (h : Gr B w G n i j v) (hk : Kept F w w') (hf : ∀ b, v.ownBlock = some b → b ∉ F) : Gr B w' G n i j v := ⟨own_kept h.own hk hf, h.blk⟩
theorem infoSf : (Try.prog.info? 43).map (fun i => (i.zero, i.size, i.bytes)) = some (some (.slice none 0 0), 1, 24) := by kernel_rfl
theorem finX (i k : Nat) (hi : i < 3) (hk : k < 64) : (FloatKind.f64.format.order (wX i k) (wX i k) != some Ordering.eq) = false := by
  have h : ∀ i : Nat, i < 3 → ∀ k : Nat, k < 64 → (FloatKind.f64.format.order (floatOfInt .f64 (-1000 * (i : Int) - (k : Int) - 1)) (floatOfInt .f64 (-1000 * (i : Int) - (k : Int) - 1)) != some Ordering.eq) = false := by decide +kernel
  exact h i hi k hk
theorem finY (i k : Nat) (hi : i < 3) (hk : k < 80) : (FloatKind.f64.format.order (wY i k) (wY i k) != some Ordering.eq) = false := by
  have h : ∀ i : Nat, i < 3 → ∀ k : Nat, k < 80 → (FloatKind.f64.format.order (floatOfInt .f64 (1000 * (i : Int) + (k : Int) + 7)) (floatOfInt .f64 (1000 * (i : Int) + (k : Int) + 7)) != some Ordering.eq) = false := by decide +kernel
  exact h i hi k hk
end Go.Proofs.Ythhgeobfolhpoaa
