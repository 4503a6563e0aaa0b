/- turn, turned, Wave. -/
import Derived.Test.YthhgeobfolhpoaaVKnown
import Derived.Test.YthhgeobfolhpoaaVWaveP
import Derived.Laws.ComplexArith
import Derived.Deep.DeepCutAuto
namespace Go.Proofs.Ythhgeobfolhpoaa
open Go.RowKit

/-- a store of a whole value into the variable that was made last -/
theorem wpList_store_newC {P : Program} {w : World} {ops : Array Oper} {rest : List Oper} {o : Oper} {a : Act} {Q : Exit → Act → World → Prop} (p x : Operand) (t : TypeId) (z : Array Value) (cs : List Value)
    (ho : o.op = .store t p x) (hgd : o.guard = none) (hp : a.eval p = .pointer (some ⟨w.heap.size, 0, none⟩)) (hx : a.eval x = .agg cs.toArray)
    (hi : (P.info? t).map (·.size) = some cs.length) (hs : z.size = cs.length) (h1 : ∀ v ∈ cs, v.oneCell' = true)
    (hd : o.dst = none) (h : wpList P ops Q rest a (w.alloc (.cells cs.toArray t))) : wpList P ops Q (o :: rest) a (w.alloc (.cells z t)) := by
  have e : a.put o.dst undef = a := by rw [hd]; rfl
  refine wpList_plain hgd fun K hK => ?_
  unfold Oper.wp execOp
  simp only [ho, Sem.run_bind, Sem.run_pure, Result.andThen_ok, hp, hx, run_storeAt_new w t z cs.toArray (by simpa using hi) (by simpa using hs) (all_oneCell_toArray h1)]
  exact hK _ _ (by rw [e]; exact h)

theorem ret_arr {P : Program} {fn : Func} {R : Ending → World → Prop} {a : Act} {w : World} {p : Tmp} {ty e : TypeId} {b n : Nat} {cs : Array Value}
    (hr : fn.results = #[.cell p ty]) (hp : a.tmps.getD p undef = .pointer (some ⟨b, 0, none⟩)) (hb : Blk w b cs ty)
    (hu : P.underlying ty = some (.array n e)) (hi : (P.info? ty).map (·.size) = some cs.size) (hd : a.defers = []) (hR : R (.returned (.agg cs)) w) : bodyPost P fn R .ret a w := by
  refine bodyPost_ret (v := .agg cs) ?_ hd hR
  have hp2 : a.tmps[p]?.getD undef = .pointer (some ⟨b, 0, none⟩) := by simpa using hp
  simp [results, hr, hp2, asAddr, run_loadVar_row w b ty ty cs (0, 0) _ hb hu rfl hi]

def zc : List Value := List.replicate 8 (.complex .f64 0 0)
def turnsC : List Value := (List.range 8).map fun n => .complex .f64 (reW n) (imW n)
theorem cplx_one (l : List Value) (h : ∀ v ∈ l, ∃ r i, v = .complex .f64 r i) : ∀ v ∈ l, v.oneCell' = true := by
  intro v hv
  obtain ⟨r, i, rfl⟩ := h v hv
  rfl
theorem turnsC_one : ∀ v ∈ turnsC, v.oneCell' = true := cplx_one _ (by
  intro v hv
  obtain ⟨n, _, rfl⟩ := List.mem_map.1 hv
  exact ⟨_, _, rfl⟩)
theorem sizeWave : (Try.prog.info? 51).map (·.size) = some 8 := by kernel_rfl
theorem turnsC_at {n : Nat} (hn : n < 8) : turnsC[n]? = some (.complex .f64 (reW n) (imW n)) := by
  unfold turnsC
  rw [List.getElem?_map, List.getElem?_range hn]; rfl
theorem turnsC_lit : turnsC = [.complex .f64 4607182418800017408 0, .complex .f64 4604544271217802189 4604544271217802189, .complex .f64 0 4607182418800017408, .complex .f64 13827916308072577997 4604544271217802189, .complex .f64 13830554455654793216 0, .complex .f64 13827916308072577997 13827916308072577997, .complex .f64 0 13830554455654793216, .complex .f64 4604544271217802189 13827916308072577997] := by kernel_rfl

set_option maxRecDepth 100000 in
theorem turn_any (w : World) {n : Nat} (hn : n < 8) : Calls Try.prog 45 #[.int .i64 (n : Int)] w fun e w' => e = .returned (.complex .f64 (reW n) (imW n)) ∧ Kept [] w w' := by
  obtain ⟨W, hW⟩ : ∃ W, W = w.alloc (.cells turnsC.toArray 51) := ⟨_, rfl⟩
  have hc : W.cell? ⟨w.heap.size, n, none⟩ = some (.complex .f64 (reW n) (imW n)) := by
    rw [hW, (Blk.new _ _ _).cell]
    simpa using turnsC_at hn
  have HK : Hid (Kept [] w W) := by unfold Hid; rw [hW]; exact (Kept.refl _ _).alloc _
  have HW := hide hW
  have h8 : (n : Int) < 8 := by omega
  clear hW
  generalize reW n = r at *
  generalize imW n = i at *
  go_enter Try.func45, Try.ntmps45
  go_wp2_with (first
    | (guard_target =~ wpList _ _ _ _ _ _; refine wpList_store_newC _ _ 51 _ turnsC rfl rfl rfl (by rw [turnsC_lit]; rfl) sizeWave rfl turnsC_one rfl ?_; rw [← unhide HW]))
  go_ret
  exact ⟨rfl, unhide HK⟩
set_option maxRecDepth 100000 in
theorem turned_any (w : World) {x r i p q : Nat} (h1 : floatBits .mul .f64 x r = some p) (h2 : floatBits .mul .f64 x i = some q) : Calls Try.prog 44 #[.float .f64 x, .complex .f64 r i] w fun e w' => e = .returned (.complex .f64 p q) ∧ w' = w := by
  have hr1 : ∀ t w, (binOp .mul t (.float .f64 x) (.float .f64 r)).run Try.prog w = .ok (.float .f64 p) w := fun t w => run_float_arith w .mul t .f64 _ _ _ h1
  have hr2 : ∀ t w, (binOp .mul t (.float .f64 x) (.float .f64 i)).run Try.prog w = .ok (.float .f64 q) w := fun t w => run_float_arith w .mul t .f64 _ _ _ h2
  clear h1 h2
  go_enter Try.func44, Try.ntmps44
  go_wp2
  go_ret
  exact ⟨rfl, rfl⟩

/-- the array under way: entries ahead of k are done, entry k has its first t windows -/
def ent (l : List Nat) (k t j : Nat) : Value := .complex .f64 (if j < k then wv reW l j 8 else if j = k then wv reW l k t else 0) (if j < k then wv imW l j 8 else if j = k then wv imW l k t else 0)
def waveAt (l : List Nat) (k t : Nat) : List Value := (List.range 8).map (ent l k t)
theorem waveAt_len (l : List Nat) (k t : Nat) : (waveAt l k t).length = 8 := by simp [waveAt]
theorem waveAt_at (l : List Nat) (k t : Nat) {j : Nat} (hj : j < 8) : (waveAt l k t)[j]? = some (ent l k t j) := by
  unfold waveAt
  rw [List.getElem?_map, List.getElem?_range hj]; rfl
theorem waveAt_ext {a : List Value} {l : List Nat} {k t : Nat} (ha : a.length = 8) (h : ∀ j, j < 8 → a[j]? = some (ent l k t j)) : a = waveAt l k t := by
  apply List.ext_getElem?
  intro j
  by_cases hj : j < 8
  · rw [h j hj, waveAt_at _ _ _ hj]
  · rw [List.getElem?_eq_none (by omega), List.getElem?_eq_none (by rw [waveAt_len]; omega)]
theorem waveAt_next (l : List Nat) (k : Nat) : waveAt l k 8 = waveAt l (k + 1) 0 := by
  refine waveAt_ext (waveAt_len _ _ _) fun j hj => ?_
  rw [waveAt_at _ _ _ hj]
  unfold ent
  by_cases h1 : j < k
  · simp only [h1, if_true, show j < k + 1 from by omega]
  · by_cases h2 : j = k
    · subst h2; simp
    · simp only [h1, h2, if_false, show ¬ j < k + 1 from by omega]
      by_cases h3 : j = k + 1
      · simp [h3, wv]
      · simp [h3]
theorem waveAt_set (l : List Nat) {k : Nat} (t : Nat) (hk : k < 8) : (waveAt l k t).set k (.complex .f64 (wv reW l k (t + 1)) (wv imW l k (t + 1))) = waveAt l k (t + 1) := by
  refine waveAt_ext (by rw [List.length_set, waveAt_len]) fun j hj => ?_
  rw [List.getElem?_set]
  by_cases h : k = j
  · subst h; simp [waveAt_len, hk, ent]
  · rw [if_neg h, waveAt_at _ _ _ hj]
    unfold ent
    simp only [show ¬ j = k from fun e => h e.symm, if_false]
theorem waveAt_end (l : List Nat) : waveAt l 8 0 = waveC l := by
  unfold waveAt waveC
  refine List.map_congr_left fun j hj => ?_
  have : j < 8 := by simpa using hj
  simp [ent, this]
theorem waveAt_zero (l : List Nat) : waveAt l 0 0 = [.complex .f64 0 0, .complex .f64 0 0, .complex .f64 0 0, .complex .f64 0 0, .complex .f64 0 0, .complex .f64 0 0, .complex .f64 0 0, .complex .f64 0 0] := by
  symm
  refine waveAt_ext rfl fun j hj => ?_
  rcases (show j = 0 ∨ j = 1 ∨ j = 2 ∨ j = 3 ∨ j = 4 ∨ j = 5 ∨ j = 6 ∨ j = 7 by omega) with rfl | rfl | rfl | rfl | rfl | rfl | rfl | rfl <;> simp [ent, wv]
theorem run_store_cplx {P : Program} {w : World} {a : Addr} {m : Mode} (x y : Nat) : (store a (.complex .f64 x y) m).run P w = stored P w a (.complex .f64 x y) m := run_store P w a _ m rfl
theorem store_cplx {w : World} {b o x y : Nat} {cs : Array Value} {t : TypeId} (h : Blk w b cs t) (ho : o < cs.size) : (store ⟨b, o, none⟩ (.complex .f64 x y)).run Try.prog w = .ok () (w.setCell ⟨b, o, none⟩ (.complex .f64 x y)) := by
  have c := h.cell o
  rw [Array.getElem?_eq_getElem ho] at c
  have f := h.frozen o
  rw [run_store_cplx]; simp [stored, c, f]
theorem sizeWin : (Try.prog.info? 63).map (·.size) = some 8 := by kernel_rfl
theorem Mp.range {w : World} {b g : Nat} {m : Mt} (h : Mp w b g m) : w.rangeAt b 3 (flts m.wins) := fun j v hv => by
  rw [h.head.cell, Nat.add_comm]
  simpa [mcells] using hv

theorem index_flt (W : World) {l : List Nat} {t : Nat} (hl : l.length = 8) (ht : t < 8) : (Instr.index 63 (.agg (flts l).toArray) (.int .i64 (t : Int))).run Try.prog W = .ok (.float .f64 (l.getD t 0)) W := by
  have hfl : (flts l)[t]? = some (.float .f64 (l.getD t 0)) := flts_at _ (by rw [hl]; exact ht)
  obtain ⟨i0, hi, hz0, hz1, hz2⟩ := info_parts infoFp
  have h1 : (0 : Int) ≤ (t : Int) ∧ (t : Int) < 8 := by omega
  simp [Instr.index, asIntOf, run_underlying Try.underlying63, ht, sizeOf, typeInfo, hi, hz1]
  simp [Go.part, hfl]

set_option maxRecDepth 100000 in
set_option maxHeartbeats 4000000 in
theorem wave_any {w : World} {b g : Nat} {m : Mt} (h : Mp w b g m) : Calls Try.prog 22 #[.pointer (some ⟨b, 0, none⟩)] w fun e w' => e = .returned (.agg (waveC m.wins).toArray) ∧ Kept [] w w' := by
  have hbl := h.head.lt
  have HM := hide h
  have hwl := h.ok.wl
  have HWI := hide h.ok.wi
  have HWL := hide hwl
  have HWLF : Hid ((flts m.wins).length = 8) := by unfold Hid; rw [flts_length]; exact hwl
  clear h hwl
  go_enter Try.func22, Try.ntmps22
  go_wp2_with fail
  go_loopw [10] (fun i wr => ∃ k : Nat, k ≤ 8 ∧ i = .int .i64 (k : Int) ∧ Blk wr (w.heap.size + 1) (waveAt m.wins k 0).toArray 51 ∧ Blk wr w.heap.size zc.toArray 51 ∧ Kept [] w wr) (fun i _ => 8 - (intOf i).toNat)
  case atStart => exact ⟨0, by omega, rfl, by rw [waveAt_zero]; have := Blk.new (w.alloc (.cells zc.toArray 51)) zc.toArray 51; rw [show (w.alloc (.cells zc.toArray 51)).heap.size = w.heap.size + 1 by simp] at this; exact this, (Blk.new w zc.toArray 51).alloc _, ((Kept.refl _ _).alloc _).alloc _⟩
  case round =>
    obtain ⟨k, hk, rfl, hb1, hz1, hk1⟩ := hrel
    by_cases hlt : k < 8
    · have HB1 := hide hb1
      have HK1 := hide hk1
      have HZ1 := hide hz1
      have HR := hide (((unhide HM).kept hk1 (by simp) (by simp)).range)
      have h8 : (k : Int) < 8 := by omega
      clear hb1 hk1 hz1
      go_wp2_with (first
        | (guard_target =~ wpList _ _ _ _ _ _; refine wpList_load_mid rfl 63 _ rfl b 3 rfl (flts m.wins) _ (unhide HR) Try.underlying63 rfl (by rw [unhide HWLF]; exact sizeWin) ?_))
      go_loopw [17] (fun i wt => ∃ t : Nat, t ≤ 8 ∧ i = .int .i64 (t : Int) ∧ Blk wt (w.heap.size + 1) (waveAt m.wins k t).toArray 51 ∧ Blk wt w.heap.size zc.toArray 51 ∧ Kept [] w wt) (fun i _ => 8 - (intOf i).toNat)
      case atStart => exact ⟨0, by omega, rfl, unhide HB1, unhide HZ1, unhide HK1⟩
      case round =>
        obtain ⟨t, ht, rfl, hb2, hz2, hk2⟩ := hrel
        by_cases htl : t < 8
        · have hfl : (flts m.wins)[t]? = some (.float .f64 (m.wins.getD t 0)) := flts_at _ (by rw [unhide HWL]; exact htl)
          have hix := fun W => index_flt W (unhide HWL) htl
          have hn8 : k * t % 8 < 8 := Nat.mod_lt _ (by omega)
          have hce : wr.cell? ⟨w.heap.size + 1, k, none⟩ = some (.complex .f64 (wv reW m.wins k t) (wv imW m.wins k t)) := by
            rw [hb2.cell]
            have := waveAt_at m.wins k t hlt
            simpa [ent] using this
          have hlo := unhide HWI t
          have HTD := fun W => hide (turned_any W (mul_part hlo (re_part (k * t % 8))).1 (mul_part hlo (im_part (k * t % 8))).1)
          have HTN := fun W => hide (turn_any W hn8)
          have hcs : cSumBits .add .f64 (wv reW m.wins k t) (wv imW m.wins k t) (mulF (m.wins.getD t 0) (reW (k * t % 8))) (mulF (m.wins.getD t 0) (imW (k * t % 8))) = some (wv reW m.wins k (t + 1), wv imW m.wins k (t + 1)) := by
            unfold cSumBits
            rw [wv_add re_part (unhide HWI) k t, wv_add im_part (unhide HWI) k t]; rfl
          have hrun : ∀ ty W, (binOp .add ty (.complex .f64 (wv reW m.wins k t) (wv imW m.wins k t)) (.complex .f64 (mulF (m.wins.getD t 0) (reW (k * t % 8))) (mulF (m.wins.getD t 0) (imW (k * t % 8))))).run Try.prog W = .ok (.complex .f64 (wv reW m.wins k (t + 1)) (wv imW m.wins k (t + 1))) W := fun ty W => run_complex_sum W .add (Or.inl rfl) ty .f64 _ _ _ _ _ _ hcs
          have HB2 := hide hb2
          have HZ2 := hide hz2
          have HK2 := hide hk2
          have HSET := hide (waveAt_set m.wins t hlt)
          have hwk : IntKind.i64.wrap ((k : Int) * (t : Int)) = ((k * t : Nat) : Int) := by
            have : k * t ≤ 8 * 8 := Nat.mul_le_mul hk ht
            rw [← Int.natCast_mul, IntKind.wrap_i64]; omega
          have hwm : IntKind.i64.wrap (Int.tmod ((k * t : Nat) : Int) 8) = ((k * t % 8 : Nat) : Int) := by
            have e : Int.tmod ((k * t : Nat) : Int) 8 = ((k * t % 8 : Nat) : Int) := by rw [Int.tmod_eq_emod_of_nonneg (by omega)]; rfl
            rw [e, IntKind.wrap_i64]; omega
          have ht8 : (t : Int) < 8 := by omega
          have HAF := hide (fun W (hq : Kept [] wr W) => (⟨(hb2.kept hq (by simp)), (hz2.kept hq (by simp)), hk2.trans hq (fun _ hx => by cases hx)⟩ : Blk W (w.heap.size + 1) (waveAt m.wins k t).toArray 51 ∧ Blk W w.heap.size zc.toArray 51 ∧ Kept [] w W))
          have HCE := hide (fun W (hq : Kept [] wr W) => (hq.cell (p := ⟨w.heap.size + 1, k, none⟩) hb2.lt (by simp)).trans hce)
          have HST := hide (fun W (hq : Kept [] wr W) => store_cplx (x := wv reW m.wins k (t + 1)) (y := wv imW m.wins k (t + 1)) (hb2.kept hq (by simp)) (show k < (waveAt m.wins k t).toArray.size by simp [waveAt_len]; exact hlt))
          clear hb2 hz2 hk2 hfl hcs hlo
          generalize m.wins.getD t 0 = x at *
          generalize wv reW m.wins k t = r0 at *
          generalize wv imW m.wins k t = i0 at *
          generalize wv reW m.wins k (t + 1) = r1 at *
          generalize wv imW m.wins k (t + 1) = i1 at *
          generalize mulF x (reW (k * t % 8)) = pr at *
          generalize mulF x (imW (k * t % 8)) = pi at *
          go_wp2_with fail
          go_region_with (first
            | (go_at_call 45; refine (unhide (HTN _)).mono ?_; rintro e w4 ⟨rfl, hk4⟩; have hq4 : Kept [] wr w4 := (Kept.refl [] wr).drew.trans hk4 (fun _ hx => by cases hx); have c4 := unhide HCE _ hq4; have st4 := unhide HST _ hq4)
            | (go_at_call 44; refine (unhide (HTD _)).mono ?_; rintro e w5 ⟨rfl, hq⟩; have hq' := hq.symm; subst hq'))
          all_goals
            go_wp2_with fail
            obtain ⟨hbx, hzx, hkx⟩ := unhide HAF _ hq4
            refine ⟨⟨t + 1, by omega, by simp, ?_, ?_, ?_⟩, by simp [intOf]; omega⟩
            · have := hbx.set k (.complex .f64 r1 i1)
              rw [List.setIfInBounds_toArray, unhide HSET] at this
              exact this
            · exact hzx.other ⟨w.heap.size + 1, k, none⟩ (by show w.heap.size ≠ w.heap.size + 1; omega) _
            · exact hkx.setCell (p := ⟨w.heap.size + 1, k, none⟩) (Or.inr (by show w.heap.size ≤ w.heap.size + 1; omega)) _
        · obtain rfl : t = 8 := by omega
          have HB3 : Hid (Blk wr (w.heap.size + 1) (waveAt m.wins (k + 1) 0).toArray 51) := by unfold Hid; rw [← waveAt_next]; exact hb2
          have HZ3 := hide hz2
          have HK3 := hide hk2
          clear hb2 hz2 hk2
          go_wp2_with fail
          exact ⟨⟨k + 1, by omega, by simp, unhide HB3, unhide HZ3, unhide HK3⟩, by simp [intOf]; omega⟩
    · obtain rfl : k = 8 := by omega
      have hbC : Blk wr (w.heap.size + 1) (waveC m.wins).toArray 51 := by rw [← waveAt_end]; exact hb1
      have hlC : (waveC m.wins).length = 8 := by simp [waveC]
      have HRC : Hid (wr.rangeAt (w.heap.size + 1) 0 (waveC m.wins)) := fun j v hv => by rw [Nat.zero_add, hbC.cell]; simpa using hv
      have HTH : Hid (wr.there w.heap.size 0 (waveC m.wins).toArray.size) := by
        unfold Hid
        rw [show (waveC m.wins).toArray.size = 8 from hlC]
        exact there_blk hz1 (by simp [zc])
      have HONE : Hid ((waveC m.wins).toArray.all (·.oneCell') = true) := all_oneCell_toArray (cplx_one _ (by
        intro v hv
        obtain ⟨n, _, rfl⟩ := List.mem_map.1 hv
        exact ⟨_, _, rfl⟩))
      have HSZ : Hid ((Try.prog.info? 51).map (·.size) = some (waveC m.wins).toArray.size) := by unfold Hid; rw [show (waveC m.wins).toArray.size = 8 from hlC]; exact sizeWave
      have HSL : Hid ((Try.prog.info? 51).map (·.size) = some (waveC m.wins).length) := by unfold Hid; rw [hlC]; exact sizeWave
      have HFB : Hid (Blk (wr.setCells w.heap.size 0 (waveC m.wins)) w.heap.size (waveC m.wins).toArray 51) := by
        have := blk_range (waveC m.wins) 0 wr zc hz1 (by rw [hlC]; simp [zc])
        rw [hlC, List.take_zero, List.nil_append, List.drop_eq_nil_of_le (by simp [zc]), List.append_nil] at this
        exact this
      have HFK : Hid (Kept [] w (wr.setCells w.heap.size 0 (waveC m.wins))) := kept_setCells (Or.inr (Nat.le_refl _)) _ _ _ hk1
      clear hb1 hk1 hz1 hbC hlC
      generalize hwc : waveC m.wins = wc at *
      have HWC := hide hwc
      clear hwc
      go_wp2_with (first
        | (guard_target =~ wpList _ _ _ _ _ _; refine wpList_load_mid rfl 51 _ rfl (w.heap.size + 1) 0 rfl wc _ (unhide HRC) Try.underlying51 rfl (unhide HSL) ?_)
        | (guard_target =~ wpList _ _ _ _ _ _; refine wpList_store_mid rfl 51 _ _ rfl w.heap.size 0 wc.toArray rfl rfl (unhide HTH) (unhide HSZ) (unhide HONE) ?_))
      refine ret_arr rfl rfl (unhide HFB) Try.underlying51 (unhide HSZ) rfl ?_
      exact ⟨by rw [unhide HWC], unhide HFK⟩
end Go.Proofs.Ythhgeobfolhpoaa
