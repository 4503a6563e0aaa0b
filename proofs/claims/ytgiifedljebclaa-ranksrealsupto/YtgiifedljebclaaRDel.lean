/- slices.Delete behind the first entry. -/
import Derived.Test.YtgiifedljebclaaRIns
import Derived.Lib.AppendZeros
namespace Go.Proofs.Ytgiifedljebclaa
open Go.RowKit

theorem zeroE (w : World) : (zeroValue 82).run Try.prog w = .ok (.agg #[(.int .i64 0), .int .i64 0, .int .i64 0]) w := by kernel_rfl

/-- 'clear' in a walk, by its run -/
theorem wpList_clear_run {P : Program} (w : World) {ops : Array Oper} {rest : List Oper} {o : Oper} {a : Act} {Q : Exit → Act → World → Prop} (hgd : o.guard = none) (s : Operand) (t : TypeId)
    (ho : o.op = .call { callee := .builtin .clear, args := #[s], argTypes := #[t] }) (v : Value) (hs : a.eval s = v) {v' : Value} {w' : World}
    (hr : (Builtin.clear_ #[t] o.type #[v]).run P w = .ok v' w') (h : wpList P ops Q rest (a.put o.dst v') w') : wpList P ops Q (o :: rest) a w := by
  refine wpList_plain hgd fun K hK => ?_
  unfold Oper.wp execOp
  simp only [ho, resolve, invoke, builtin, Sem.run_bind, Sem.run_pure, Result.andThen_ok, List.map_toArray, List.map_cons, List.map_nil, hs, hr]
  exact hK _ _ h

set_option maxHeartbeats 1000000 in
set_option maxRecDepth 100000 in
theorem del_same {w : World} {g cap L : Nat} (hL : 1 ≤ L) (hc : L ≤ cap) :
    Calls Try.prog 73 #[.slice (some ⟨g, 0, none⟩) L cap, .int .i64 1, .int .i64 1] w fun x w' => x = .returned (.slice (some ⟨g, 0, none⟩) L cap) ∧ w' = w := by
  go_enter Try.func73, Try.ntmps73
  go_wp2
  all_goals go_ret
  all_goals exact ⟨rfl, rfl⟩

/-- 'append' as one step of a region that draws, by its run -/
theorem step_append_runE {P : Program} {ops : Array Oper} {o : Oper} {a : Act} {w : World} {K : Act → World → Prop} {Q : Exit → Act → World → Prop} {E : Prop}
    (hg : o.guard = none) (d x : Operand) (dT sT : TypeId) (hop : o.op = Op.call { callee := Callee.builtin Builtin.append, args := #[d, x], argTypes := #[dT, sT] })
    (v u : Value) (hd : a.eval d = v) (hx : a.eval x = u) {v' : Value} {w' : World} (hr : (Builtin.append_ #[dT, sT] o.type #[v, u]).run P w = .ok v' w') (hK : K (a.put o.dst v') w') :
    if Region.wanted o (yielded ops a.tmps) = true then Oper.wp P o a w K Q else E := by
  have hw : Region.wanted o (yielded ops a.tmps) = true := by simp [Region.wanted, hg]
  rw [if_pos hw]
  unfold Oper.wp
  simp [execOp, hop, resolve, invoke, builtin, hd, hx, hr, Result.andThen]
  exact hK

set_option maxHeartbeats 1000000 in
set_option maxRecDepth 100000 in
theorem del_move {w : World} {g cap L q m : Nat} {cur : Array Value} {dn : List (En Int)} (hg : Blk w g cur 82) (hsz : cur.size = cap * 3) (hq : 2 ≤ q) (hqL : q < L) (hc : L ≤ cap) (hm : cap ≤ 9223372036854775807) (hb : L ≤ 1099511627776)
    (hd : dn.length = m) (hmq : m = L - q) (hcs : ∀ j u, (flatE dn)[j]? = some u → w.cell? ⟨g, q * 3 + j, none⟩ = some u) :
    Calls Try.prog 73 #[.slice (some ⟨g, 0, none⟩) L cap, .int .i64 1, .int .i64 q] w fun x w' => x = .returned (.slice (some ⟨g, 0, none⟩) (1 + m) cap) ∧
      w' = (w.drew.setRow g (cur.toList.take 3 ++ flatE dn ++ cur.toList.drop (3 + m * 3)).toArray).setCells g ((1 + m) * 3) (Builtin.zeroCells (Value.agg #[(.int .i64 0), .int .i64 0, .int .i64 0]).cells (q - 1)).toList := by
  obtain ⟨i0, hi0, hz0, hzs, hzb⟩ := info_parts infoE
  have hfl : (flatE dn).length = m * 3 := by rw [flatE_len, hd]
  have hrl : (cur.toList.take 3 ++ flatE dn ++ cur.toList.drop (3 + m * 3)).toArray.size = cap * 3 := by simp [hfl, hsz]; omega
  have hap : ∀ ty, (Builtin.append_ #[73, 73] ty #[.slice (some ⟨g, 0, none⟩) 1 cap, .slice (some ⟨g, q * 3, none⟩) (L - q) (cap - q)]).run Try.prog w.drew = .ok (.slice (some ⟨g, 0, none⟩) (1 + m) cap) (w.drew.setRow g (cur.toList.take 3 ++ flatE dn ++ cur.toList.drop (3 + m * 3)).toArray) := fun ty => by
    have := run_append_room (P := Try.prog) w.drew 73 ty 82 i0 Try.underlying73 hi0 g 1 cap cur hg ⟨g, q * 3, none⟩ (L - q) (cap - q) (flatE dn) (by rw [hzs, hfl, hmq]) (fun j u hu => by rw [Addr.add_lit]; exact hcs j u hu) (oneE dn) (by omega) (by rw [hzs, hfl]; omega)
    rw [hzs, hfl] at this
    rw [hmq] at this ⊢
    simpa using this
  obtain ⟨W1, hW1⟩ : ∃ W1, W1 = w.drew.setRow g (cur.toList.take 3 ++ flatE dn ++ cur.toList.drop (3 + m * 3)).toArray := ⟨_, rfl⟩
  rw [← hW1] at hap
  have hB1 : Blk W1 g (cur.toList.take 3 ++ flatE dn ++ cur.toList.drop (3 + m * 3)).toArray 82 := by
    rw [hW1]; unfold Blk at hg ⊢; simp [World.setRow, Array.getElem?_modify]; exact ⟨_, hg, rfl⟩
  have hzl : (Builtin.zeroCells (Value.agg #[(.int .i64 0), .int .i64 0, .int .i64 0]).cells (q - 1)).toList.length = (q - 1) * 3 := by
    have h3 : (Value.agg #[(.int .i64 0), .int .i64 0, .int .i64 0]).cells.size = 3 := rfl
    rw [Array.length_toList, size_zeroCells, h3]
  have hz1c : ∀ u ∈ (Builtin.zeroCells (Value.agg #[(.int .i64 0), .int .i64 0, .int .i64 0]).cells (q - 1)).toList, u.oneCell' = true := by
    intro u hu
    obtain ⟨j, hj, rfl⟩ := List.getElem_of_mem hu
    simp [Builtin.zeroCells, Value.cells]
    have : j % 3 = 0 ∨ j % 3 = 1 ∨ j % 3 = 2 := by omega
    rcases this with h | h | h <;> simp [h, Value.oneCell']
  have hcl : ∀ (W : World), (∀ x, W.cell? x = W1.cell? x) → (∀ x, W.frozen? x = W1.frozen? x) → ∀ ty c, (Builtin.clear_ #[73] ty #[.slice (some ⟨g, (1 + m) * 3, none⟩) (q - 1) c]).run Try.prog W = .ok (.tuple #[]) (W.setCells g ((1 + m) * 3) (Builtin.zeroCells (Value.agg #[(.int .i64 0), .int .i64 0, .int .i64 0]).cells (q - 1)).toList) := fun W hWc hWf ty c =>
    run_clear_sliceK W 73 82 ty _ Try.underlying73 zeroE g ((1 + m) * 3) (q - 1) c hz1c
      (fun j hj => by rw [hzl] at hj; rw [hWc, hB1.cell, Array.getElem?_eq_getElem (by rw [hrl]; omega)]; rfl) (fun j hj => by rw [hWf]; exact hB1.frozen _)
  have hLm : L - (1 + m) = q - 1 := by omega
  have hb1 : ¬ (cap = q) := by omega
  have hb4 : (1 : Int) ≤ (cap : Int) := by omega
  have hb5 : (q : Int) ≤ (L : Int) := by omega
  have hb2 : ¬ (cap = 1 + m) := by omega
  have hb3 : (1 : Int) + (m : Int) ≤ (L : Int) := by omega
  have hm2 : m ≤ 1099511627776 := by omega
  clear hfl hrl hB1 hzl hz1c hcs hg hsz hd hmq
  go_enter Try.func73, Try.ntmps73
  go_wp2_with fail
  go_region_law (refine step_append_runE rfl _ _ 73 73 rfl _ _ (by simp [Act.eval, Act.put]) (by simp [Act.eval, Act.put]) (hap _) ?_)
  go_wp2_with fail
  go_ret
  exact ⟨rfl, by rw [List.append_assoc]; rfl⟩

/-- slices.Delete(entries, 1, q): the first entry, and those from q on -/
theorem del_any {w : World} {g cap L q : Nat} {cur : Array Value} {f : En Int} {dn : List (En Int)} (hg : Blk w g cur 82) (hsz : cur.size = cap * 3) (hq : 1 ≤ q) (hqL : q < L) (hc : L ≤ cap) (hm : cap ≤ maxLen) (hb : L ≤ 1099511627776)
    (hd : dn.length = L - q) (hf : ∀ j u, (ecells f)[j]? = some u → w.cell? ⟨g, j, none⟩ = some u) (hcs : ∀ j u, (flatE dn)[j]? = some u → w.cell? ⟨g, q * 3 + j, none⟩ = some u) :
    Calls Try.prog 73 #[.slice (some ⟨g, 0, none⟩) L cap, .int .i64 1, .int .i64 q] w fun x w' => x = .returned (.slice (some ⟨g, 0, none⟩) (f :: dn).length cap) ∧
      w'.ownsRow 0 82 3 (.slice (some ⟨g, 0, none⟩) (f :: dn).length cap) (f :: dn).length (flatE (f :: dn)) ∧ Kept [g] w w' := by
  have hfc : flatE (f :: dn) = ecells f ++ flatE dn := rfl
  have h3 : (ecells f).length = 3 := rfl
  by_cases hq1 : q = 1
  · subst hq1
    have hl : (f :: dn).length = L := by simp; omega
    refine (del_same (by omega) hc).mono ?_
    rintro x w' ⟨rfl, rfl⟩
    refine ⟨by rw [hl], own_of_cells hg (f :: dn) cap hsz (by omega) hm (fun j u hj => ?_), Kept.refl _ _⟩
    rw [hfc, List.getElem?_append, h3] at hj
    split at hj
    · exact hf j u hj
    · have := hcs _ _ hj
      rwa [show 1 * 3 + (j - 3) = j by omega] at this
  · have hl : (f :: dn).length = 1 + (L - q) := by simp; omega
    refine (del_move hg hsz (by omega) hqL hc (by unfold maxLen at hm; omega) hb hd rfl hcs).mono ?_
    rintro x w' ⟨rfl, rfl⟩
    have hdl : (flatE dn).length = (L - q) * 3 := by rw [flatE_len, hd]
    have hB : Blk (w.drew.setRow g (cur.toList.take 3 ++ flatE dn ++ cur.toList.drop (3 + (L - q) * 3)).toArray) g (cur.toList.take 3 ++ flatE dn ++ cur.toList.drop (3 + (L - q) * 3)).toArray 82 := by
      unfold Blk at hg ⊢; simp [World.setRow, Array.getElem?_modify]; exact ⟨_, hg, rfl⟩
    obtain ⟨c2, hb2, hz2⟩ := blk_setCells (Builtin.zeroCells (Value.agg #[(.int .i64 0), .int .i64 0, .int .i64 0]).cells (q - 1)).toList ((1 + (L - q)) * 3) _ _ hB
    have ht3 : (cur.toList.take 3).length = 3 := by simp [hsz]; omega
    refine ⟨by rw [hl], own_of_cells hb2 (f :: dn) cap ?_ (by omega) hm (fun j u hj => ?_), ?_⟩
    · rw [hz2]; simp [hdl, hsz]; omega
    · have hjl := (List.getElem?_eq_some_iff.1 hj).1
      rw [hfc, List.length_append, h3, hdl] at hjl
      rw [World.cell?_setCells_out g _ _ _ _ (fun _ _ => Or.inl (by show j < (1 + (L - q)) * 3; omega)), hB.cell]
      rw [hfc, List.getElem?_append, h3] at hj
      rw [List.getElem?_toArray, List.append_assoc, List.getElem?_append, ht3]
      split at hj
      · next hlt =>
        rw [if_pos hlt, List.getElem?_take, if_pos hlt, Array.getElem?_toList]
        have := hf j u hj
        rwa [hg.cell] at this
      · next hlt =>
        rw [if_neg hlt, List.getElem?_append_left (by omega)]
        exact hj
    · refine kept_setCells (Or.inl (by simp)) _ _ _ ?_
      refine ⟨rfl, rfl, rfl, by simp [World.setRow], fun k hk hn => ?_⟩
      have hne : ¬ g = k := fun e => hn (by simp [e])
      simp [World.setRow, Array.getElem?_modify, hne]
      rfl
end Go.Proofs.Ytgiifedljebclaa
