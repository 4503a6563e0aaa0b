/- lentInts, keptInts: numbers in memory of their own, with two marks behind them. -/
import Derived.Test.YtiafnfjgmfnnoaaJRRank
namespace Go.Proofs.Ytiafnfjgmfnnoaa
open Go.RowKit Go.Sort Go.Shelf

theorem ints_one (l : List Int) : ∀ u ∈ ints l, u.oneCell' = true := by
  intro u hu; obtain ⟨_, _, rfl⟩ := List.mem_map.1 hu; rfl

/-- 'append(dst, src...)' of numbers: dst is owned, src is any slice that reads as numbers. -/
theorem run_append_seesI {P : Program} (w : World) (base : Nat) (t ty : TypeId) (i : TypeInfo) (z : Value) (ht : P.underlying t = some (.slice 3)) (hi : P.info? 3 = some i) (hz : i.zero = some z)
    (hsize : i.size = 1) (hby : i.bytes = 8) (hzs : z.cells.size = 1)
    (v : Value) (xs : List Int) (hown : w.ownsRow base 3 1 v xs.length (ints xs)) (x : Value) (ys : List Int) (hx : SeesI w x ys)
    (h63 : xs.length + ys.length ≤ 17592186044416) (hbase : base ≤ w.heap.size) :
    ∃ v' w', (Builtin.append_ #[t, t] ty #[v, x]).run P w = .ok v' w' ∧ w'.ownsRow base 3 1 v' (xs ++ ys).length (ints (xs ++ ys)) ∧ w.grownBy w' v.ownBlock ∧ (v'.ownBlock = v.ownBlock ∨ v'.ownBlock = some w.heap.size) := by
  have hmx : xs.length + ys.length ≤ maxLen := by unfold maxLen; omega
  obtain ⟨a, cap, rfl, _, _, h⟩ := hx
  rcases h with rfl | ⟨b, off, rfl, _, hc⟩
  · refine ⟨v, w, ?_, by simpa using hown, ⟨rfl, rfl, rfl, Nat.le_refl _, fun _ _ _ => rfl⟩, Or.inl rfl⟩
    rcases hown.2 with ⟨rfl, h0⟩ | ⟨g, cap, cur, rfl, hbg, hg, hnc, hcm, hcs, htake⟩
    · cases a <;> simp [Builtin.append_, run_underlying ht, sizeOf, typeInfo, hi, Builtin.lenOf, Builtin.firstCells, loadCells, loadCellsFrom]
    · have : xs.length ≤ cap := hnc
      cases a <;> simp [Builtin.append_, run_underlying ht, sizeOf, typeInfo, hi, Builtin.lenOf, Builtin.firstCells, this, storeCells, loadCells, loadCellsFrom]
  · obtain ⟨v', w', hr, h2, h3, _, h5⟩ := run_append_own_at (P := P) w base t ty 3 i z 1 8 ht hi hz hsize hby hzs (by decide) v xs.length (ints xs) hown ⟨b, off, none⟩ ys.length cap (ints ys) (by simp [ints]) (by
      intro j u hu
      have hj : j < ys.length := by
        have := (List.getElem?_eq_some_iff.1 hu).1; simpa [ints] using this
      have hadd : (⟨b, off, none⟩ : Addr).add j = ⟨b, off + j, none⟩ := by unfold Addr.add; split <;> simp_all
      rw [hadd, hc j hj]
      simp [ints, List.getElem?_eq_getElem hj] at hu
      rw [← hu]; simp [List.getElem?_eq_getElem hj]) (ints_one ys) hmx (by omega) hbase
    refine ⟨v', w', hr, ?_, h3, h5⟩
    rw [ints_append, List.length_append]; exact h2

theorem ownI_new_nil (w : World) : (w.alloc (.cells #[] 3)).ownsRow w.heap.size 3 1 (.slice (some ⟨w.heap.size, 0, none⟩) 0 0) ([] : List Int).length (ints []) := by
  refine ⟨by simp [ints], Or.inr ⟨w.heap.size, 0, #[], rfl, Nat.le_refl _, heap_alloc_new w _, by simp, by simp [maxLen], by simp, by simp [ints]⟩⟩

theorem wpList_append_seesI {P : Program} (w : World) {ops : Array Oper} {rest : List Oper} {o : Oper} {a : Act} {Q : Exit → Act → World → Prop} (hgd : o.guard = none) (s x : Operand) (t : TypeId)
    (ho : o.op = .call { callee := .builtin .append, args := #[s, x], argTypes := #[t, t] })
    (base : Nat) (i : TypeInfo) (z : Value) (ht : P.underlying t = some (.slice 3)) (hi : P.info? 3 = some i) (hz : i.zero = some z)
    (hsize : i.size = 1) (hby : i.bytes = 8) (hzs : z.cells.size = 1)
    (v : Value) (xs : List Int) (hs : a.eval s = v) (hown : w.ownsRow base 3 1 v xs.length (ints xs)) (xv : Value) (ys : List Int) (hxv : a.eval x = xv) (hx : SeesI w xv ys)
    (h63 : xs.length + ys.length ≤ 17592186044416) (hbase : base ≤ w.heap.size)
    (h : ∀ v' w', w'.ownsRow base 3 1 v' (xs ++ ys).length (ints (xs ++ ys)) → w.grownBy w' v.ownBlock → (v'.ownBlock = v.ownBlock ∨ v'.ownBlock = some w.heap.size) → wpList P ops Q rest (a.put o.dst v') w') :
    wpList P ops Q (o :: rest) a w := by
  refine wpList_plain hgd fun K hK => ?_
  obtain ⟨v', w', hr, h2, h3, h4⟩ := run_append_seesI (P := P) w base t o.type i z ht hi hz hsize hby hzs v xs hown xv ys hx h63 hbase
  unfold Oper.wp execOp
  simp only [ho, resolve, invoke, builtin, Sem.run_bind, Sem.run_pure, Result.andThen_ok, List.map_toArray, List.map_cons, List.map_nil, hs, hxv, hr]
  exact hK _ _ (h v' w' h2 h3 h4)

/-- 'append([]int{}, p...)': a twin in new memory -/
theorem wpList_twinI {P : Program} {w0 wx : World} {ops : Array Oper} {rest : List Oper} {o : Oper} {a : Act} {Q : Exit → Act → World → Prop} (hgd : Region.wanted o (yielded ops a.tmps) = true) (s x : Operand) (t : TypeId)
    (ho : o.op = .call { callee := .builtin .append, args := #[s, x], argTypes := #[t, t] })
    (i : TypeInfo) (ht : P.underlying t = some (.slice 3)) (hi : P.info? 3 = some i) (hz : i.zero = some (.int .i64 0))
    (hsize : i.size = 1) (hby : i.bytes = 8) (hs : a.eval s = .slice (some ⟨wx.heap.size, 0, none⟩) 0 0) (xv : Value) (ys : List Int) (hxv : a.eval x = xv) (hk : Kept [] w0 wx) (hx : SeesI w0 xv ys) (L : Nat) (hL : ys.length = L) (hl : L ≤ 17592186044416)
    (h : ∀ a' c' w', w'.ownsRow wx.heap.size 3 1 (.slice a' L c') L (ints ys) → Kept [] wx w' → wpList P ops Q rest (a.put o.dst (.slice a' L c')) w') :
    wpList P ops Q (o :: rest) a (wx.alloc (.cells #[] 3)) := by
  refine wpList_step fun K hK => ?_
  rw [if_pos hgd]
  have hka : Kept [] w0 (wx.alloc (.cells #[] 3)) := hk.alloc _
  obtain ⟨v', w', hr, h2, h3, h4⟩ := run_append_seesI (P := P) (wx.alloc (.cells #[] 3)) wx.heap.size t o.type i (.int .i64 0) ht hi hz hsize hby rfl _ [] (ownI_new_nil wx) xv ys (hx.kept hka (Or.inr (by simp))) (by simp; omega) (by simp)
  have hkx : Kept [] wx w' := ((Kept.refl [] wx).alloc _).grown h3 (fun k hk' => Or.inr (by simp [Value.ownBlock] at hk'; subst hk'; exact Nat.le_refl _))
  have h2' : w'.ownsRow wx.heap.size 3 1 v' ys.length (ints ys) := h2
  rw [hL] at h2'
  obtain ⟨a', c', rfl⟩ := own_len h2'
  unfold Oper.wp execOp
  simp only [ho, resolve, invoke, builtin, Sem.run_bind, Sem.run_pure, Result.andThen_ok, List.map_toArray, List.map_cons, List.map_nil, hs, hxv, hr]
  exact hK _ _ (h a' c' w' h2' hkx)

theorem rowI_of_own {w : World} {base n : Nat} {v : Value} {l : List Int} (h : w.ownsRow base 3 1 v n (ints l)) (hn : 0 < n) :
    ∃ g cap, v = .slice (some ⟨g, 0, none⟩) n cap ∧ base ≤ g ∧ g < w.heap.size ∧ n ≤ cap ∧ cap ≤ maxLen := by
  rcases h.2 with ⟨_, h2⟩ | ⟨g, cap, cur, hv, hb, hg, hc, hm, _⟩
  · omega
  · exact ⟨g, cap, hv, hb, (Array.getElem?_eq_some_iff.1 hg).1, hc, hm⟩
theorem ownI_cell {w : World} {base n g cap : Nat} {l : List Int} (h : w.ownsRow base 3 1 (.slice (some ⟨g, 0, none⟩) n cap) n (ints l)) {k : Nat} (hk : k < l.length) :
    w.cell? ⟨g, k, none⟩ = some (.int .i64 (l.getD k 0)) := by
  have := h.cells (g := g) rfl k (.int .i64 (l.getD k 0)) (ints_at l hk)
  have hadd : (⟨g, 0, none⟩ : Addr).add k = ⟨g, k, none⟩ := by unfold Addr.add; split <;> simp_all
  rw [hadd] at this
  exact this
theorem ownI_frozen {w : World} {base n g cap : Nat} {xs : List Value} (h : w.ownsRow base 3 1 (.slice (some ⟨g, 0, none⟩) n cap) n xs) (k : Nat) : w.frozen? ⟨g, k, none⟩ = false := by
  rcases h.2 with ⟨h1, _⟩ | ⟨g', cap', cur, hv, hb, hg, _⟩
  · cases h1
  · cases hv
    exact Blk.frozen hg k
theorem ownI_set {w : World} {base n g cap : Nat} {l : List Int} (h : w.ownsRow base 3 1 (.slice (some ⟨g, 0, none⟩) n cap) n (ints l)) (k : Nat) (y : Int) :
    (w.setCell ⟨g, k, none⟩ (.int .i64 y)).ownsRow base 3 1 (.slice (some ⟨g, 0, none⟩) n cap) n (ints (l.set k y)) := by
  refine ⟨by rw [ints_length, List.length_set, ← ints_length]; exact h.1, ?_⟩
  rcases h.2 with ⟨h1, _⟩ | ⟨g', cap', cur, hv, hb, hg, hc, hm, hs, ht⟩
  · cases h1
  · cases hv
    refine Or.inr ⟨g, cap, cur.setIfInBounds k (.int .i64 y), rfl, hb, Blk.set hg k _, hc, hm, by simpa using hs, ?_⟩
    rw [ints_set, ← ht]
    rw [Array.toList_setIfInBounds, List.take_set]

def twoI : List Int := [-201, -202]
/-- the numbers lie in block g, two marks behind them -/
def LentI (w : World) (base g cap L : Nat) (l : List Int) : Prop :=
  l.length = L ∧ w.ownsRow base 3 1 (.slice (some ⟨g, 0, none⟩) (L + 2) cap) (L + 2) (ints (l ++ twoI))
theorem LentI.kept {F : List Nat} {w w' : World} {base g cap L : Nat} {l : List Int} (h : LentI w base g cap L l) (hk : Kept F w w') (hn : g ∉ F) : LentI w' base g cap L l :=
  ⟨h.1, own_kept h.2 hk (fun k hk' => by simp [Value.ownBlock] at hk'; subst hk'; exact hn)⟩
theorem LentI.caps {w : World} {base g cap L : Nat} {l : List Int} (h : LentI w base g cap L l) : L + 2 ≤ cap ∧ cap ≤ 9223372036854775807 ∧ base ≤ g ∧ g < w.heap.size := by
  obtain ⟨g', cap', hv, h1, h2, h3, h4⟩ := rowI_of_own h.2 (by omega)
  cases hv
  unfold maxLen at h4
  exact ⟨h3, by omega, h1, h2⟩
theorem LentI.cell {w : World} {base g cap L : Nat} {l : List Int} (h : LentI w base g cap L l) {k : Nat} (hk : k < L) : w.cell? ⟨g, k, none⟩ = some (.int .i64 (l.getD k 0)) := by
  have h1 := ownI_cell h.2 (show k < (l ++ twoI).length by rw [List.length_append, h.1]; omega)
  rw [h1, List.getD, List.getD, List.getElem?_append_left (by rw [h.1]; exact hk)]
theorem LentI.mark {w : World} {base g cap L : Nat} {l : List Int} (h : LentI w base g cap L l) {k : Nat} (hk : k < 2) : w.cell? ⟨g, L + k, none⟩ = some (.int .i64 (twoI.getD k 0)) := by
  have h1 := ownI_cell h.2 (show L + k < (l ++ twoI).length by rw [List.length_append, h.1]; simp [twoI]; omega)
  rw [h1, List.getD, List.getD, List.getElem?_append_right (by rw [h.1]; omega), h.1, show L + k - L = k by omega]
theorem LentI.frozen {w : World} {base g cap L : Nat} {l : List Int} (h : LentI w base g cap L l) (k : Nat) : w.frozen? ⟨g, k, none⟩ = false := ownI_frozen h.2 k
theorem LentI.sees {w : World} {base g cap L : Nat} {l : List Int} (h : LentI w base g cap L l) : SeesI w (.slice (some ⟨g, 0, none⟩) L cap) l := by
  obtain ⟨h1, h2, h3, h4⟩ := h.caps
  refine ⟨_, cap, by rw [h.1], by rw [h.1]; omega, by unfold maxLen; omega, Or.inr ⟨g, 0, rfl, h4, fun j hj => ?_⟩⟩
  rw [Nat.zero_add]
  exact h.cell (by rw [← h.1]; exact hj)
theorem LentI.set {w : World} {base g cap L : Nat} {l : List Int} (h : LentI w base g cap L l) {k : Nat} (y : Int) (hk : k < L) : LentI (w.setCell ⟨g, k, none⟩ (.int .i64 y)) base g cap L (l.set k y) := by
  refine ⟨by rw [List.length_set]; exact h.1, ?_⟩
  have h1 := ownI_set h.2 k y
  rwa [List.set_append_left _ _ (by rw [h.1]; exact hk)] at h1

set_option maxRecDepth 100000 in
set_option maxHeartbeats 1000000 in
theorem lentInts_any {w : World} {v : Value} {l : List Int} (hs : SeesI w v l) (hl : l.length ≤ 17592186043904) :
    Calls Try.prog 24 #[v] w fun e w' => ∃ g cap, e = .returned (.slice (some ⟨g, 0, none⟩) l.length cap) ∧ LentI w' w.heap.size g cap l.length l ∧ Kept [] w w' := by
  obtain ⟨i0, hi, hz0, hz1, hz2⟩ := info_parts info3p
  have HS := hide hs
  obtain ⟨p, pc, hp, -⟩ := hs
  subst hp
  have HI := hide (⟨hi, hz0, hz1, hz2⟩ : _ ∧ _ ∧ _ ∧ _)
  clear hi hz0 hz1 hz2
  generalize hA : l.length = L at *
  have HA := hide hA
  clear hA
  go_enter Try.func24, Try.ntmps24
  go_wp2_with (at_builtin; refine wpList_twinI (w0 := w) rfl _ _ 25 rfl i0 Try.underlying25 (unhide HI).1 (unhide HI).2.1 (unhide HI).2.2.1 (unhide HI).2.2.2 rfl _ l rfl (Kept.refl _ _) (unhide HS) L (unhide HA) (by omega) ?_)
  intro a2 c2 w2 ho2 hk2
  have HK2 := hide hk2
  have HO3 : Hid ((w2.alloc (.cells #[.int .i64 (-201), .int .i64 (-202)] 3)).ownsRow w.heap.size 3 1 (.slice a2 L c2) l.length (ints l)) := by
    unfold Hid
    rw [unhide HA]; exact own_kept ho2 ((Kept.refl [] _).alloc _) (by simp)
  have HS3 : Hid (SeesI (w2.alloc (.cells #[.int .i64 (-201), .int .i64 (-202)] 3)) (.slice (some ⟨w2.heap.size, 0, none⟩) 2 2) twoI) := SeesI.of_blk (n := 2) rfl (Blk.new w2 _ 3) 2 (by omega) (by omega)
  have hle2 := hk2.size
  clear ho2 hk2
  go_wp2_with (at_builtin; refine wpList_append_seesI _ rfl _ _ 25 rfl w.heap.size i0 (.int .i64 0) Try.underlying25 (unhide HI).1 (unhide HI).2.1 (unhide HI).2.2.1 (unhide HI).2.2.2 rfl _ l rfl (unhide HO3) _ twoI rfl (unhide HS3) ?c1 ?c2 ?_)
  case c1 => rw [unhide HA]; simp [twoI]; omega
  case c2 => simp; omega
  intro v3 w3 ho3 hg3 hat3
  have hn3 : l.length + twoI.length = L + 2 := by rw [unhide HA]; rfl
  rw [hn3] at ho3
  obtain ⟨g3, c3, hv3, hg3b, hg3l, hc3, hm3⟩ := rowI_of_own ho3 (by omega)
  subst hv3
  have HO4 := hide ho3
  have HK4 : Hid (Kept [] w w3) := ((unhide HK2).alloc _).grown hg3 (fun k hk => Or.inr ((unhide HO3).lt k hk).1)
  unfold maxLen at hm3
  clear ho3 hg3 hat3
  have t1 : (L : Int) ≤ (c3 : Int) := by omega
  have t2 : L ≤ c3 := by omega
  go_wp2
  go_ret
  exact ⟨g3, c3, rfl, ⟨unhide HA, unhide HO4⟩, unhide HK4⟩

set_option maxRecDepth 100000 in
set_option maxHeartbeats 400000 in
theorem keptInts_any {w : World} {base g cap L : Nat} {v : Value} {l : List Int} (h : LentI w base g cap L l) (hv : SeesI w v l) :
    Calls Try.prog 27 #[.slice (some ⟨g, 0, none⟩) L cap, v] w fun e w' => e = .returned (.bool true) ∧ Quiet w w' := by
  have HS := hide (same_any h.sees hv)
  have m0 := h.mark (k := 0) (by omega)
  have m1 := h.mark (k := 1) (by omega)
  obtain ⟨h1, h2, -, -⟩ := h.caps
  obtain ⟨p, pc, rfl, -⟩ := hv
  rw [h.1] at HS ⊢
  clear h
  simp [twoI] at m0 m1
  have t1 : ((L : Int) + 2 ≤ (cap : Int)) = True := by simp; omega
  have t2 : ((L : Int) + 2).toNat = L + 2 := by omega
  have t3 : ((L : Int) + 1).toNat = L + 1 := by omega
  have t5 : ((0 : Int) ≤ (L : Int) + 2) = True := by simp; omega
  go_enter Try.func27, Try.ntmps27
  go_wp2_with (first | (go_at_call 11; refine (unhide HS).mono ?_; rintro e w' ⟨rfl, m, rfl⟩))
  go_ret
  exact ⟨rfl, (Quiet.refl w).drewN m⟩
end Go.Proofs.Ytiafnfjgmfnnoaa
