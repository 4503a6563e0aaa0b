/- Twins of rows of weights; a weight written over. -/
import Derived.Test.YtoibkgjnnneagabDOwnA
namespace Go.Proofs.Ytoibkgjnnneagab
open Go.RowKit

theorem flts_one (l : List Nat) : ∀ u ∈ flts l, u.oneCell' = true := by
  intro u hu; obtain ⟨_, _, rfl⟩ := List.mem_map.1 hu; rfl

/-- 'append(dst, src...)' of numbers: dst is owned, src is any slice that reads as numbers. -/
theorem run_append_seesF {P : Program} (w : World) (base : Nat) (t ty : TypeId) (i : TypeInfo) (z : Value) (ht : P.underlying t = some (.slice 41)) (hi : P.info? 41 = some i) (hz : i.zero = some z)
    (hsize : i.size = 1) (hby : i.bytes = 8) (hzs : z.cells.size = 1)
    (v : Value) (xs : List Nat) (hown : w.ownsRow base 41 1 v xs.length (flts xs)) (x : Value) (ys : List Nat) (hx : SeesF w x ys)
    (h63 : xs.length + ys.length ≤ 17592186044416) (hbase : base ≤ w.heap.size) :
    ∃ v' w', (Builtin.append_ #[t, t] ty #[v, x]).run P w = .ok v' w' ∧ w'.ownsRow base 41 1 v' (xs ++ ys).length (flts (xs ++ ys)) ∧ w.grownBy w' v.ownBlock ∧ (v'.ownBlock = v.ownBlock ∨ v'.ownBlock = some w.heap.size) := by
  have hmx : xs.length + ys.length ≤ maxLen := by unfold maxLen; omega
  obtain ⟨a, cap, rfl, _, _, h⟩ := hx
  rcases h with rfl | ⟨b, off, rfl, _, hc⟩
  · refine ⟨v, w, ?_, by simpa using hown, ⟨rfl, rfl, rfl, Nat.le_refl _, fun _ _ _ => rfl⟩, Or.inl rfl⟩
    rcases hown.2 with ⟨rfl, h0⟩ | ⟨g, cap, cur, rfl, hbg, hg, hnc, hcm, hcs, htake⟩
    · cases a <;> simp [Builtin.append_, run_underlying ht, sizeOf, typeInfo, hi, Builtin.lenOf, Builtin.firstCells, loadCells, loadCellsFrom]
    · have : xs.length ≤ cap := hnc
      cases a <;> simp [Builtin.append_, run_underlying ht, sizeOf, typeInfo, hi, Builtin.lenOf, Builtin.firstCells, this, storeCells, loadCells, loadCellsFrom]
  · obtain ⟨v', w', hr, h2, h3, _, h5⟩ := run_append_own_at (P := P) w base t ty 41 i z 1 8 ht hi hz hsize hby hzs (by decide) v xs.length (flts xs) hown ⟨b, off, none⟩ ys.length cap (flts ys) (by simp [flts]) (by
      intro j u hu
      have hj : j < ys.length := by
        have := (List.getElem?_eq_some_iff.1 hu).1; simpa [flts] using this
      have hadd : (⟨b, off, none⟩ : Addr).add j = ⟨b, off + j, none⟩ := by unfold Addr.add; split <;> simp_all
      rw [hadd, hc j hj]
      simp [flts, List.getElem?_eq_getElem hj] at hu
      rw [← hu]; simp [List.getElem?_eq_getElem hj]) (flts_one ys) hmx (by omega) hbase
    refine ⟨v', w', hr, ?_, h3, h5⟩
    rw [flts_append, List.length_append]; exact h2

theorem ownF_new_nil (w : World) : (w.alloc (.cells #[] 41)).ownsRow w.heap.size 41 1 (.slice (some ⟨w.heap.size, 0, none⟩) 0 0) ([] : List Nat).length (flts []) := by
  refine ⟨by simp [flts], Or.inr ⟨w.heap.size, 0, #[], rfl, Nat.le_refl _, heap_alloc_new w _, by simp, by simp [maxLen], by simp, by simp [flts]⟩⟩

theorem wpList_append_seesF {P : Program} (w : World) {ops : Array Oper} {rest : List Oper} {o : Oper} {a : Act} {Q : Exit → Act → World → Prop} (hgd : o.guard = none) (s x : Operand) (t : TypeId)
    (ho : o.op = .call { callee := .builtin .append, args := #[s, x], argTypes := #[t, t] })
    (base : Nat) (i : TypeInfo) (z : Value) (ht : P.underlying t = some (.slice 41)) (hi : P.info? 41 = some i) (hz : i.zero = some z)
    (hsize : i.size = 1) (hby : i.bytes = 8) (hzs : z.cells.size = 1)
    (v : Value) (xs : List Nat) (hs : a.eval s = v) (hown : w.ownsRow base 41 1 v xs.length (flts xs)) (xv : Value) (ys : List Nat) (hxv : a.eval x = xv) (hx : SeesF w xv ys)
    (h63 : xs.length + ys.length ≤ 17592186044416) (hbase : base ≤ w.heap.size)
    (h : ∀ v' w', w'.ownsRow base 41 1 v' (xs ++ ys).length (flts (xs ++ ys)) → w.grownBy w' v.ownBlock → (v'.ownBlock = v.ownBlock ∨ v'.ownBlock = some w.heap.size) → wpList P ops Q rest (a.put o.dst v') w') :
    wpList P ops Q (o :: rest) a w := by
  refine wpList_plain hgd fun K hK => ?_
  obtain ⟨v', w', hr, h2, h3, h4⟩ := run_append_seesF (P := P) w base t o.type i z ht hi hz hsize hby hzs v xs hown xv ys hx h63 hbase
  unfold Oper.wp execOp
  simp only [ho, resolve, invoke, builtin, Sem.run_bind, Sem.run_pure, Result.andThen_ok, List.map_toArray, List.map_cons, List.map_nil, hs, hxv, hr]
  exact hK _ _ (h v' w' h2 h3 h4)

/-- 'append([]int{}, p...)': a twin in new memory -/
theorem wpList_twinF {P : Program} {w0 wx : World} {ops : Array Oper} {rest : List Oper} {o : Oper} {a : Act} {Q : Exit → Act → World → Prop} (hgd : Region.wanted o (yielded ops a.tmps) = true) (s x : Operand) (t : TypeId)
    (ho : o.op = .call { callee := .builtin .append, args := #[s, x], argTypes := #[t, t] })
    (i : TypeInfo) (ht : P.underlying t = some (.slice 41)) (hi : P.info? 41 = some i) (hz : i.zero = some (.float .f64 0))
    (hsize : i.size = 1) (hby : i.bytes = 8) (hs : a.eval s = .slice (some ⟨wx.heap.size, 0, none⟩) 0 0) (xv : Value) (ys : List Nat) (hxv : a.eval x = xv) (hk : Kept [] w0 wx) (hx : SeesF w0 xv ys) (L : Nat) (hL : ys.length = L) (hl : L ≤ 17592186044416)
    (h : ∀ a' c' w', w'.ownsRow wx.heap.size 41 1 (.slice a' L c') L (flts ys) → Kept [] wx w' → wpList P ops Q rest (a.put o.dst (.slice a' L c')) w') :
    wpList P ops Q (o :: rest) a (wx.alloc (.cells #[] 41)) := by
  refine wpList_step fun K hK => ?_
  rw [if_pos hgd]
  have hka : Kept [] w0 (wx.alloc (.cells #[] 41)) := hk.alloc _
  obtain ⟨v', w', hr, h2, h3, h4⟩ := run_append_seesF (P := P) (wx.alloc (.cells #[] 41)) wx.heap.size t o.type i (.float .f64 0) ht hi hz hsize hby rfl _ [] (ownF_new_nil wx) xv ys (hx.kept hka (Or.inr (by simp))) (by simp; omega) (by simp)
  have hkx : Kept [] wx w' := ((Kept.refl [] wx).alloc _).grown h3 (fun k hk' => Or.inr (by simp [Value.ownBlock] at hk'; subst hk'; exact Nat.le_refl _))
  have h2' : w'.ownsRow wx.heap.size 41 1 v' ys.length (flts ys) := h2
  rw [hL] at h2'
  obtain ⟨a', c', rfl⟩ := own_len h2'
  unfold Oper.wp execOp
  simp only [ho, resolve, invoke, builtin, Sem.run_bind, Sem.run_pure, Result.andThen_ok, List.map_toArray, List.map_cons, List.map_nil, hs, hxv, hr]
  exact hK _ _ (h a' c' w' h2' hkx)


theorem FRow.at {w : World} {base g cap : Nat} {l : List Nat} (h : FRow w base g cap l) {j : Nat} (hj : j < l.length) : w.cell? ⟨g, j, none⟩ = some (.float .f64 (l.getD j 0)) := by
  have := h.cells (g := g) rfl j (.float .f64 (l.getD j 0)) (by rw [flts_append, List.getElem?_append_left (by rw [flts_length]; exact hj)]; exact flts_at l hj)
  have hadd : (⟨g, 0, none⟩ : Addr).add j = ⟨g, j, none⟩ := by unfold Addr.add; split <;> simp_all
  rwa [hadd] at this
theorem FRow.frozen {w : World} {base g cap : Nat} {l : List Nat} (h : FRow w base g cap l) (k : Nat) : w.frozen? ⟨g, k, none⟩ = false := by
  rcases h.2 with ⟨h1, _⟩ | ⟨g', cap', cur, hv, hb, hg, _⟩
  · cases h1
  · cases hv
    exact Blk.frozen hg k
theorem FRow.lt {w : World} {base g cap : Nat} {l : List Nat} (h : FRow w base g cap l) : base ≤ g ∧ g < w.heap.size := by
  have h' : w.ownsRow base 41 1 (.slice (some ⟨g, 0, none⟩) (l.length + 1) cap) (l.length + 1) (flts (l ++ [13842939354630062080])) := h
  exact own_lt h' rfl
theorem FRow.keep {w w' : World} {base g cap : Nat} {l : List Nat} {F : List Nat} (h : FRow w base g cap l) (hk : Kept F w w') (hn : g ∉ F) : FRow w' base g cap l := by
  have h' : w.ownsRow base 41 1 (.slice (some ⟨g, 0, none⟩) (l.length + 1) cap) (l.length + 1) (flts (l ++ [13842939354630062080])) := h
  exact own_kept h' hk (by intro k e; cases e; exact hn)
theorem FRow.cap {w : World} {base g cap : Nat} {l : List Nat} (h : FRow w base g cap l) : l.length + 1 ≤ cap := by
  rcases h.2 with ⟨h1, _⟩ | ⟨g', cap', cur, hv, hb, hg, hc, _⟩
  · cases h1
  · cases hv; exact hc
theorem FRow.set {w : World} {base g cap : Nat} {l : List Nat} (h : FRow w base g cap l) {k : Nat} (hk : k < l.length) (y : Nat) : FRow (w.setCell ⟨g, k, none⟩ (.float .f64 y)) base g cap (l.set k y) := by
  unfold FRow
  rw [List.length_set]
  refine ⟨by rw [flts_length, List.length_append, List.length_set]; simp, ?_⟩
  rcases h.2 with ⟨h1, _⟩ | ⟨g', cap', cur, hv, hb, hg, hc, hm, hs, ht⟩
  · cases h1
  · cases hv
    refine Or.inr ⟨g, cap, cur.setIfInBounds k (.float .f64 y), rfl, hb, Blk.set hg k _, hc, hm, by simpa using hs, ?_⟩
    have e : flts (l.set k y ++ [13842939354630062080]) = (flts (l ++ [13842939354630062080])).set k (.float .f64 y) := by
      rw [flts_append, flts_append, List.set_append_left _ _ (by rw [flts_length]; exact hk)]
      simp [flts, List.map_set]
    rw [e, ← ht, Array.toList_setIfInBounds, List.take_set]

theorem SeesF.of_own {w : World} {base : Nat} {v : Value} {l : List Nat} (h : w.ownsRow base 41 1 v l.length (flts l)) : SeesF w v l := by
  rcases h.2 with ⟨h1, h2⟩ | ⟨g, cap, cur, hv, hg0, hg, hc, hm, hs, ht⟩
  · have : l = [] := List.eq_nil_of_length_eq_zero h2
    subst this
    rw [h1]; exact ⟨none, 0, rfl, by simp, by simp [maxLen], Or.inl rfl⟩
  · refine ⟨some ⟨g, 0, none⟩, cap, hv, hc, hm, Or.inr ⟨g, 0, rfl, (Array.getElem?_eq_some_iff.1 hg).1, fun j hj => ?_⟩⟩
    have := h.cells (g := g) (by rw [hv]; rfl) j (.float .f64 (l.getD j 0)) (flts_at l hj)
    have hadd : (⟨g, 0, none⟩ : Addr).add j = ⟨g, j, none⟩ := by unfold Addr.add; split <;> simp_all
    rw [hadd] at this
    rw [Nat.zero_add]; exact this
theorem run_store_float {P : Program} {w : World} {a : Addr} {m : Mode} (y : Nat) : (store a (.float .f64 y) m).run P w = stored P w a (.float .f64 y) m := run_store P w a _ m rfl
/-- a pick hangs on the weights and on the state alone -/
theorem pick_det (ws : List Nat) (s : Nat) (hb : ∀ j, j < ws.length → ws.getD j 0 < 18446744073709551616) (hl : ws.length ≤ 1099511627776) :
    ∃ (K E : Int) (t : Nat), ∀ (w : World) (b : Nat) (v : Value), Dc w b s → SeesF w v ws → (∀ k, v.ownBlock = some k → k ≠ b) →
      Calls Try.prog 14 #[.pointer (some ⟨b, 0, none⟩), v] w fun e w' => e = .returned (.tuple #[.int .i64 K, .int .i64 E]) ∧ Dc w' b t ∧ Kept [b] w w' := by
  by_cases hr : right ws
  · exact ⟨_, _, _, fun w b v hd hv hn => pick_yes hd hv hn hr hl⟩
  · refine ⟨0, 2, s, fun w b v hd hv _ => (pick_no hv hb hr hl).mono ?_⟩
    rintro e w' ⟨rfl, rfl⟩
    exact ⟨rfl, hd, Kept.refl _ _⟩
theorem of_int_lt (i : Nat) : floatOfInt .f64 (i : Int) < 18446744073709551616 := by
  rw [of_nat]
  have := near_good i 0
  unfold good at this
  omega
theorem set_all {l : List Nat} {n i y : Nat} (h : l.length = n ∧ ∀ j, j < n → l.getD j 0 < 18446744073709551616) (hy : y < 18446744073709551616) : (l.set i y).length = n ∧ ∀ j, j < n → (l.set i y).getD j 0 < 18446744073709551616 := by
  refine ⟨by rw [List.length_set]; exact h.1, fun j hj => ?_⟩
  simp only [List.getD]
  rw [List.getElem?_set]
  split
  · split
    · exact hy
    · simp
  · exact h.2 j hj
end Go.Proofs.Ytoibkgjnnneagab
