/- DicePicks: the walk. -/
import Derived.Test.YtoibkgjnnneagabDRight
import Derived.Deep.DeepCutAuto
namespace Go.Proofs.Ytoibkgjnnneagab
open Go.RowKit

set_option maxRecDepth 100000 in
set_option maxHeartbeats 4000000 in
theorem picks_no (w : World) (s : Nat) (lone : Int) (v : Value) (l : List Nat) (hs : s < 18446744073709551616) (hv : SeesU w v l) (hl : l.length ≤ 2097152) (hlt : ∀ j, j < l.length → l.getD j 0 < 18446744073709551616) (hr : ¬ right l) :
    Calls Try.prog 4 #[.int .u64 s, v, .int .i64 lone] w fun e w' => e = .returned (.bool true) ∧ Kept [] w w' := by
  have HA := hide (awake_any w)
  have HN := fun w => hide (new_any w s hs)
  have HFL := fun w1 (hk : Kept [] w w1) => hide (floats_any (hv.kept hk (Or.inr (by simp))) hl)
  have HP := fun w1 b v1 (h1 : SeesF w1 v1 l) => hide (pick_no (b := b) h1 hlt hr (by omega))
  have HRI : Hid (∀ w1 v1, SeesF w1 v1 l → Calls Try.prog 15 #[v1] w1 fun e w' => e = .returned (.bool false) ∧ Kept [] w1 w') := by
    intro w1 v1 h1
    by_cases hf : ∀ j, j < l.length → fair (l.getD j 0)
    · have := lright_yes h1 hf (by omega)
      cases hfi : fine (sumF l l.length) with
      | true => exact absurd ⟨hf, hfi⟩ hr
      | false => rw [hfi] at this; exact this
    · exact lright_no h1 hlt hf (by omega)
  obtain ⟨vp, vc, rfl, -, -, -⟩ := hv
  clear hr hlt
  generalize hLL : l.length = LL at *
  have HLL := hide hLL
  clear hLL
  go_enter Try.func4, Try.ntmps4
  go_wp2_with (first
    | (go_at_call 6; refine (unhide HA).mono ?_; rintro e w1 ⟨rfl, hkp⟩; clear HA; replace hkp := hide hkp)
    | (go_at_call 13; refine (unhide (HFL _ (unhide hkp))).mono ?_; rintro e w2 ⟨gx, cx, rfl, hfr, hk⟩; clear HFL; replace hkp := hide ((unhide hkp).more hk); replace hfr := hide hfr; clear hk)
    | (go_at_call 8; refine (unhide (HN _)).mono ?_; rintro e w3 ⟨b, rfl, hd, hb, hk⟩; clear HN; replace hkp := hide ((unhide hkp).more hk); replace hfr := hide ((unhide hfr).keep hk (by simp)); replace hd := hide hd; clear hb hk)
    | (go_at_call 14; refine (unhide (HP _ _ _ (by have h := (unhide hfr).sees; rw [unhide HLL] at h; exact h))).mono ?_; rintro e w4 ⟨rfl, hq⟩; have hq' := hq.symm; subst hq'; clear HP)
    | (go_at_call 15; refine (unhide HRI _ _ (by have h := (unhide hfr).sees; rw [unhide HLL] at h; exact h)).mono ?_; rintro e w5 ⟨rfl, hk⟩; clear HRI; replace hkp := hide ((unhide hkp).more hk); have HS := hide (state_any ((unhide hd).keep hk (by simp))); clear hk)
    | (go_at_call 10; refine (unhide HS).mono ?_; rintro e w6 ⟨rfl, hq⟩; have hq' := hq.symm; subst hq'; clear HS))
  go_ret
  exact ⟨rfl, unhide hkp⟩

/-- no weight among the first k is small -/
def tm (l : List Nat) : Nat → Bool
  | 0 => true
  | k + 1 => tm l k && !((FloatKind.f64.format.order (l.getD k 0) 0 == some .gt) && (FloatKind.f64.format.order (l.getD k 0) 553942754166571008 == some .lt))
theorem tm_low {l : List Nat} {n : Nat} (hf : ∀ j, j < n → fair (l.getD j 0)) (h : tm l n = true) : ∀ j, j < n → posF (l.getD j 0) = true → 553942754166571008 ≤ l.getD j 0 := by
  induction n with
  | zero => intro j hj; omega
  | succ n ih =>
    intro j hj hp
    have e : tm l (n + 1) = (tm l n && !(posF (l.getD n 0) && (Ieee.double.order (l.getD n 0) 553942754166571008 == some .lt))) := rfl
    rw [e, Bool.and_eq_true] at h
    by_cases hjn : j = n
    · subst hjn
      rw [hp] at h
      have h2 := h.2
      have hlo : l.getD j 0 < 9218868437227405312 := by
        have := (pos_iff (hf j (by omega))).1 hp
        have h3 := hf j (by omega); unfold fair at h3; omega
      rw [order_num hlo (by omega)] at h2
      rcases Nat.lt_or_ge (l.getD j 0) 553942754166571008 with h4 | h4
      · rw [Nat.compare_eq_lt.2 h4] at h2; cases h2
      · exact h4
    · exact ih (fun j hj => hf j (by omega)) h.1 j (by omega) hp
theorem made_flts (n : Nat) : madeCells #[Value.float .f64 0] n = (flts (List.replicate n 0)).toArray := by
  apply Array.ext_getElem?
  intro i
  by_cases hi : i < n
  · simp [madeCells, hi, Nat.mod_one, flts]
  · rw [Array.getElem?_eq_none (by rw [size_madeCells]; omega), Array.getElem?_eq_none (by simp [flts]; omega)]
theorem seesF_blk {w : World} {g n : Nat} {l : List Nat} (h : Blk w g (flts l).toArray 41) (hl : l.length = n) (hn : n ≤ 9223372036854775807) : SeesF w (.slice (some ⟨g, 0, none⟩) n n) l := by
  subst hl
  refine ⟨_, _, rfl, Nat.le_refl _, by unfold maxLen; omega, Or.inr ⟨g, 0, rfl, h.lt, fun j hj => ?_⟩⟩
  rw [Nat.zero_add, h.cell, List.getElem?_toArray]
  exact flts_at l hj
theorem blkF_put {w : World} {g : Nat} {l : List Nat} (h : Blk w g (flts l).toArray 41) (j x : Nat) : Blk (w.setCell ⟨g, j, none⟩ (.float .f64 x)) g (flts (l.set j x)).toArray 41 := by
  have e : (flts l).toArray.setIfInBounds j (.float .f64 x) = (flts (l.set j x)).toArray := by simp [flts, List.map_set]
  rw [← e]; exact h.set j _
theorem blkF_at {w : World} {g : Nat} {l : List Nat} (h : Blk w g (flts l).toArray 41) {j : Nat} (hj : j < l.length) : w.cell? ⟨g, j, none⟩ = some (.float .f64 (l.getD j 0)) := by
  rw [h.cell, List.getElem?_toArray]; exact flts_at l hj
/-- doubled up to i -/
def half (l : List Nat) (i : Nat) : List Nat := (l.take i).map dblM ++ l.drop i
theorem half_length {l : List Nat} {i : Nat} (h : i ≤ l.length) : (half l i).length = l.length := by simp [half]; omega
theorem half_at {l : List Nat} {i : Nat} (h : i < l.length) : (half l i).getD i 0 = l.getD i 0 := by
  unfold half
  simp only [List.getD]
  rw [List.getElem?_append_right (by simp; omega)]
  simp [Nat.min_eq_left (Nat.le_of_lt h)]
theorem half_set {l : List Nat} {i : Nat} (h : i < l.length) : (half l i).set i (dblM (l.getD i 0)) = half l (i + 1) := by
  unfold half
  have e : ((l.take i).map dblM).length = i := by simp; omega
  rw [List.set_append_right _ _ (by omega), e, Nat.sub_self, List.drop_eq_getElem_cons h, List.set_cons_zero, List.take_add_one, List.getElem?_eq_getElem h, Option.toList_some, List.map_append, List.append_assoc]
  simp only [List.map_cons, List.map_nil, List.cons_append, List.nil_append, List.getD, List.getElem?_eq_getElem h, Option.getD_some]
theorem half_zero (l : List Nat) : half l 0 = l := by simp [half]
theorem half_all {l : List Nat} {n : Nat} (h : l.length = n) : half l n = l.map dblM := by subst h; simp [half]

set_option maxRecDepth 1000000 in
set_option maxHeartbeats 8000000 in
theorem picks_yes (w : World) (s : Nat) (lone : Int) (v : Value) (l : List Nat) (hs : s < 18446744073709551616) (hv : SeesU w v l) (hl : l.length ≤ 1048576) (hr : right l) :
    Calls Try.prog 4 #[.int .u64 s, v, .int .i64 lone] w fun e w' => e = .returned (.bool true) ∧ Kept [] w w' := by
  have HA := hide (awake_any w)
  have HN := fun w => hide (new_any w s hs)
  have HN2 := HN
  have HN3 := HN
  have HFL := fun w1 (hk : Kept [] w w1) => hide (floats_any (hv.kept hk (Or.inr (by simp))) (by omega))
  have HFL2 := HFL
  have HP := fun w1 b v1 (h : Dc w1 b s) (h1 : SeesF w1 v1 l) h2 => hide (pick_yes h h1 h2 hr (by omega))
  have HRI : Hid (∀ w1 v1, SeesF w1 v1 l → Calls Try.prog 15 #[v1] w1 fun e w' => e = .returned (.bool true) ∧ Kept [] w1 w') := by
    intro w1 v1 h1
    have := lright_yes h1 hr.1 (by omega)
    rw [hr.2] at this; exact this
  obtain ⟨hK1, hK2⟩ := pick_pos hr s
  have hK3 : (FloatKind.f64.format.order (l.getD (pickF l s) 0) 0 == some .gt) = true := hK2
  have HT := fun w => hide (stepsAt_any w s (on s 1) hs (on_lt _ _))
  rw [steps_on hs] at HT
  obtain ⟨t1, ht1⟩ : ∃ t : Nat, 1 % 18446744073709551616 = t := ⟨_, rfl⟩
  rw [ht1] at HT
  have ht2 : ((t1 : Int) == 1) = true := by rw [← ht1]; rfl
  have ht3 : ((t1 : Int) != 1) = false := by rw [← ht1]; rfl
  clear ht1
  have HRR := hide hr
  obtain ⟨vp, vc, rfl, -, -, -⟩ := hv
  clear hr hK2
  obtain ⟨K, hK⟩ : ∃ K, pickF l s = K := ⟨_, rfl⟩
  have HKK := hide hK
  rw [hK] at HP hK1 hK3
  obtain ⟨wk, hwk⟩ : ∃ x, l.getD K 0 = x := ⟨_, rfl⟩
  have HWK := hide hwk
  rw [hwk] at hK3
  clear hK hwk
  generalize hLL : l.length = LL at *
  have HLL := hide hLL
  clear hLL
  obtain ⟨s1, hs1⟩ : ∃ s1, on s 1 = s1 := ⟨_, rfl⟩
  have HS1 := hide hs1
  rw [hs1] at HP HT
  clear hs1
  obtain ⟨i0, hi, hz0, hz1, hz2⟩ := info_parts infoFp
  have HI := hide (⟨hi, hz0, hz1, hz2⟩ : _ ∧ _ ∧ _ ∧ _)
  clear hi hz0 hz1 hz2
  replace HFL2 := hide HFL2
  replace HN2 := hide HN2
  replace HN3 := hide HN3
  replace HT := hide HT
  replace HP := hide HP
  go_enter Try.func4, Try.ntmps4
  go_upto_region 8 with (first
    | (go_at_call 6; refine (unhide HA).mono ?_; rintro e w1 ⟨rfl, hkp⟩; clear HA; replace hkp := hide hkp)
    | (go_at_call 13; refine (unhide (HFL _ (unhide hkp))).mono ?_; rintro e w2 ⟨gx, cx, rfl, hfr, hk⟩; clear HFL; have gx1 := hide (Nat.le_trans (unhide hkp).size hfr.lt.1); replace hkp := hide ((unhide hkp).more hk); replace hfr := hide hfr; clear hk)
    | (go_at_call 8; refine (unhide (HN _)).mono ?_; rintro e w3 ⟨b, rfl, hd, hb, hk⟩; clear HN; have gb1 := hide (Nat.le_trans (unhide hkp).size hb); have ngb : Hid (gx ≠ b) := (by have := (unhide hfr).lt.2; unfold Hid; omega); replace hkp := hide ((unhide hkp).more hk); replace hfr := hide ((unhide hfr).keep hk (by simp)); replace hd := hide hd; clear hb hk)
    | (go_at_call 14; refine (unhide (unhide HP _ _ _ (unhide hd) (by have h := (unhide hfr).sees; rw [unhide HLL] at h; exact h) (by intro z e; cases e; exact unhide ngb))).mono ?_; rintro e w4 ⟨rfl, hd2, hk⟩; replace hkp := hide ((unhide hkp).push hk (unhide gb1)); replace hfr := hide ((unhide hfr).keep hk (by have := unhide ngb; simpa using this)); replace hd2 := hide hd2; clear hk hd)
    | (go_at_call 15; refine (unhide HRI _ _ (by have h := (unhide hfr).sees; rw [unhide HLL] at h; exact h)).mono ?_; rintro e w5 ⟨rfl, hk⟩; clear HRI; replace hkp := hide ((unhide hkp).more hk); replace hd2 := hide ((unhide hd2).keep hk (by simp)); have HS := hide (state_any (unhide hd2)); replace hfr := hide ((unhide hfr).keep hk (by simp)); have ck := (unhide hfr).at (j := K) (by rw [unhide HLL]; exact hK1); rw [unhide HWK] at ck; clear hk))
  go_cut [77] (fun t wc => t = .bool false ∧ Hid (wc = w5))
  case first =>
    go_wp2_with (first
      | (go_at_call 10; refine (unhide HS).mono ?_; rintro e w6 ⟨rfl, hq⟩; have hq' := hq.symm; subst hq'; clear HS)
      | (go_at_call 11; refine (unhide (unhide HT _)).mono ?_; rintro e w6 ⟨rfl, hq⟩; have hq' := hq.symm; subst hq'; clear HT))
    go_meet
    refine ⟨?_, rfl⟩
    rw [decide_eq_false (show ¬ (K : Int) < 0 by omega), decide_eq_false (show ¬ LL ≤ K by omega)]
    rfl
  case rest =>
    obtain ⟨rfl, hwc⟩ := hcut
    have hwc' := (unhide hwc).symm
    subst hwc'
    clear HT HP ht2 ht3 hK3
    go_wp2_with (first
      | (go_at_call 13; refine (unhide (unhide HFL2 _ (unhide hkp))).mono ?_; rintro e w7 ⟨gt, ct, rfl, hft, hk⟩; clear HFL2; have gt1 := hide (Nat.le_trans (unhide hkp).size hft.lt.1); have ngt : Hid (gx ≠ gt ∧ b ≠ gt) := (by have h1 := (unhide hfr).lt.2; have h2 := (unhide hd2).blk.lt; have h3 := hft.lt.1; exact ⟨by omega, by omega⟩); replace hkp := hide ((unhide hkp).more hk); replace hfr := hide ((unhide hfr).keep hk (by simp)); replace hft := hide hft; clear hk ck hd2)
      | (at_make; refine wpList_make_row _ rfl _ _ 35 rfl 41 i0 (.float .f64 0) Try.underlying35 (unhide HI).1 (unhide HI).2.1 (unhide HI).2.2.1 rfl .i64 .i64 LL rfl rfl ?b2 (by omega) ?_))
    case b2 => rw [(unhide HI).2.2.2]; omega
    rw [made_flts]
    have hm0 : Hid (Blk (w7.alloc (.cells (flts (List.replicate LL 0)).toArray 41)) w7.heap.size (flts (List.replicate LL 0)).toArray 41 ∧ Kept [] w7 (w7.alloc (.cells (flts (List.replicate LL 0)).toArray 41))) := ⟨Blk.new w7 _ _, (Kept.refl _ _).alloc _⟩
    have hlo : Hid (gx < w7.heap.size ∧ gt < w7.heap.size) := ⟨(unhide hfr).lt.2, (unhide hft).lt.2⟩
    have go1 := hide (unhide hkp).size
    generalize w7.heap.size = go at *
    generalize w7.alloc (.cells (flts (List.replicate LL 0)).toArray 41) = w8 at *
    have hfr8 := hide ((unhide hfr).keep (unhide hm0).2 (by simp))
    have hft8 := hide ((unhide hft).keep (unhide hm0).2 (by simp))
    have hkp8 := hide ((unhide hkp).more (unhide hm0).2)
    have hon8 := hide (unhide hm0).1
    clear hfr hft hkp hm0 HI
    have HFA := hide (unhide HRR).1
    rw [unhide HLL] at HFA
    generalize w1.heap.size = base1 at *
    generalize w5.heap.size = base2 at *
    go_wp2_with fail
    go_loopw [11, 12, 15] (fun s11 s12 s15 wr => ∃ t : Nat, t ≤ LL ∧ s15 = .int .i64 t ∧ s12 = .float .f64 (sumF l t) ∧ s11 = .bool (tm l t) ∧ FRow wr base1 gx cx l ∧ FRow wr base2 gt ct (half l t) ∧ Blk wr go (flts (List.replicate LL 0)).toArray 41 ∧ Kept [] w wr) (fun _ _ s15 _ => LL - (intOf s15).toNat)
    case atStart => exact ⟨0, by omega, rfl, rfl, rfl, unhide hfr8, by rw [half_zero]; exact unhide hft8, unhide hon8, unhide hkp8⟩
    case round =>
      obtain ⟨t, ht, rfl, rfl, rfl, hfr, hft, hon, hkp⟩ := hrel
      clear hfr8 hft8 hon8 hkp8
      by_cases hlt : t < LL
      · have hfx := unhide HFA t hlt
        have hadd := (add_eq (sum_good (ws := l) (k := t) fun j hj => unhide HFA j (by omega)) hfx).1
        have hmul := (mul_two hfx).1
        have c1 := hfr.at (j := t) (by rw [unhide HLL]; exact hlt)
        have c2 := hft.at (j := t) (by rw [half_length (by rw [unhide HLL]; omega), unhide HLL]; exact hlt)
        rw [half_at (by rw [unhide HLL]; exact hlt)] at c2
        have f2 := hft.frozen t
        have hset := half_set (l := l) (i := t) (by rw [unhide HLL]; exact hlt)
        have hN := hft.set (k := t) (by rw [half_length (by rw [unhide HLL]; omega), unhide HLL]; exact hlt) (dblM (l.getD t 0))
        rw [hset] at hN
        have hss := sum_succ l t
        have htm : tm l (t + 1) = (tm l t && !((FloatKind.f64.format.order (l.getD t 0) 0 == some .gt) && (FloatKind.f64.format.order (l.getD t 0) 553942754166571008 == some .lt))) := rfl
        generalize l.getD t 0 = x at *
        generalize hS : sumF l t = S at *
        generalize hA : addF S x = A at *
        generalize hY : dblM x = y at *
        have hrun : ∀ t w, (binOp .add t (.float .f64 S) (.float .f64 x)).run Try.prog w = .ok (.float .f64 A) w := fun t w => run_float_arith w .add t .f64 _ _ _ hadd
        have hrun2 : ∀ t w, (binOp .mul t (.float .f64 4611686018427387904) (.float .f64 x)).run Try.prog w = .ok (.float .f64 y) w := fun t w => run_float_arith w .mul t .f64 _ _ _ hmul
        have hst : (store ⟨gt, t, none⟩ (.float .f64 y)).run Try.prog wr = .ok () (wr.setCell ⟨gt, t, none⟩ (.float .f64 y)) := by rw [run_store_float]; simp [stored, c2, f2]
        have hKK : Kept [gt] wr (wr.setCell ⟨gt, t, none⟩ (.float .f64 y)) := (Kept.refl _ _).setCell (p := ⟨gt, t, none⟩) (Or.inl (by simp)) _
        have N1 := hide (hfr.keep hKK (by have := (unhide ngt).1; simpa using this))
        have N2 := hide hN
        have N3 := hide (hon.kept hKK (by have := (unhide hlo).2; simp; omega))
        have N4 := hide (hkp.push hKK (unhide gt1))
        have c3 : (wr.setCell ⟨gt, t, none⟩ (.float .f64 y)).cell? ⟨gx, t, none⟩ = some (.float .f64 x) := by
          rw [hKK.cell (p := ⟨gx, t, none⟩) hfr.lt.2 (by have := (unhide ngt).1; simpa using this)]; exact c1
        have HSS := hide hss
        have HTM := hide htm
        have HF := kf
        clear hfr hft hon hkp hKK hN hset hadd hmul hfx hS hA hY hss htm
        go_upto_region 19 with fail
        clear hst c1 c2 f2 hrun hrun2
        generalize wr.setCell ⟨gt, t, none⟩ (.float .f64 y) = W3 at *
        generalize hP : (FloatKind.f64.format.order x 0 == some Ordering.gt) = P at *
        generalize hQ : (FloatKind.f64.format.order x 553942754166571008 == some Ordering.lt) = Q at *
        generalize hB : tm l t = B at *
        clear hB
        have hdr : Kept [] W3 W3.drew := (Kept.refl _ _).drew
        have M1 := hide ((unhide N1).keep hdr (by simp))
        have M2 := hide ((unhide N2).keep hdr (by simp))
        have M3 := hide ((unhide N3).kept hdr (by simp))
        have M4 := hide ((unhide N4).more hdr)
        clear N1 N2 N3 N4 hdr
        cases P
        · go_region
          cases B
          · go_wp2_with fail
            exact ⟨⟨t + 1, by omega, by simp, by rw [unhide HSS], by rw [unhide HTM]; rfl, unhide M1, unhide M2, unhide M3, unhide M4⟩, by simp [intOf]; omega⟩
          · go_wp2_with fail
            exact ⟨⟨t + 1, by omega, by simp, by rw [unhide HSS], by rw [unhide HTM]; rfl, unhide M1, unhide M2, unhide M3, unhide M4⟩, by simp [intOf]; omega⟩
        · go_region
          cases B
          · go_wp2_with fail
            exact ⟨⟨t + 1, by omega, by simp, by rw [unhide HSS], by rw [unhide HTM]; rfl, unhide M1, unhide M2, unhide M3, unhide M4⟩, by simp [intOf]; omega⟩
          · cases Q
            · go_wp2_with fail
              exact ⟨⟨t + 1, by omega, by simp, by rw [unhide HSS], by rw [unhide HTM]; rfl, unhide M1, unhide M2, unhide M3, unhide M4⟩, by simp [intOf]; omega⟩
            · go_wp2_with fail
              exact ⟨⟨t + 1, by omega, by simp, by rw [unhide HSS], by rw [unhide HTM]; rfl, unhide M1, unhide M2, unhide M3, unhide M4⟩, by simp [intOf]; omega⟩
      · obtain rfl : t = LL := by omega
        rw [half_all (unhide HLL)] at hft
        have hsum := sum_good (ws := l) (k := t) (unhide HFA)
        have HPP : Hid (∃ (K2 E2 : Int) (s2 : Nat), (∀ (w : World) (b : Nat) (v : Value), Dc w b s → SeesF w v (l.map dblM) → (∀ k, v.ownBlock = some k → k ≠ b) →
            Calls Try.prog 14 #[.pointer (some ⟨b, 0, none⟩), v] w fun e w' => e = .returned (.tuple #[.int .i64 K2, .int .i64 E2]) ∧ Dc w' b s2 ∧ Kept [b] w w') ∧
            (tm l t = true → (FloatKind.f64.format.order (sumF l t) 8660422083433463808 == some .lt) = true → K2 = (K : Int) ∧ E2 = 0)) := by
          by_cases hT : tm l t = true ∧ (FloatKind.f64.format.order (sumF l t) 8660422083433463808 == some .lt) = true
          · have hh : sumF l t < 8660422083433463808 := by
              have h1 : (Ieee.double.order (sumF l t) 8660422083433463808 == some .lt) = true := hT.2
              rw [order_good hsum (by unfold good; omega)] at h1
              rcases Nat.lt_or_ge (sumF l t) 8660422083433463808 with h2 | h2
              · exact h2
              · exfalso
                have : compare (sumF l t) 8660422083433463808 ≠ .lt := fun e => by rw [Nat.compare_eq_lt] at e; omega
                cases hc : compare (sumF l t) 8660422083433463808 <;> simp_all
            have hta : Tame l l.length := by rw [unhide HLL]; exact ⟨unhide HFA, tm_low (unhide HFA) hT.1, hh⟩
            obtain ⟨p1, p2⟩ := pick_dbl (unhide HRR) hta s
            refine ⟨((pickF (l.map dblM) s : Nat) : Int), 0, on s 1, fun w b v h1 h2 h3 => pick_yes h1 h2 h3 p1 (by rw [List.length_map, unhide HLL]; omega), fun _ _ => ⟨by rw [p2, unhide HKK], rfl⟩⟩
          · obtain ⟨K2, E2, s2, h⟩ := pick_det (l.map dblM) s (fun j hj => by rw [List.length_map] at hj; rw [dbl_map l hj]; exact (mul_two ((unhide HRR).1 j hj)).2) (by rw [List.length_map, unhide HLL]; omega)
            exact ⟨K2, E2, s2, h, fun h1 h2 => absurd ⟨h1, h2⟩ hT⟩
        obtain ⟨K2, E2, s2, hP2, hP3⟩ := unhide HPP
        have HP2 := hide hP2
        have HP3 := hide hP3
        have HF := kf
        obtain ⟨A, hA, hAl⟩ : ∃ A : Nat, lone % (t : Int) = (A : Int) ∧ A < t := by
          have h1 := Int.emod_nonneg lone (b := (t : Int)) (by omega)
          have h2 := Int.emod_lt_of_pos lone (b := (t : Int)) (by omega)
          exact ⟨(lone % (t : Int)).toNat, by omega, by omega⟩
        have HR := hide (fun w => round_any w lone t (by omega) (by omega))
        rw [hA] at HR
        obtain ⟨u1, u2⟩ := pick_unit hAl s
        have HU := hide (fun w b v (h1 : Dc w b s) (h2 : SeesF w v (unit t A)) h3 => pick_yes h1 h2 h3 u1 (by rw [unit_length]; omega))
        rw [u2] at HU
        replace hfr := hide hfr
        replace hft := hide hft
        replace hon := hide hon
        replace hkp := hide hkp
        generalize hS : sumF l t = S at *
        generalize hB : tm l t = B at *
        generalize hH : (FloatKind.f64.format.order S 8660422083433463808 == some Ordering.lt) = H at *
        clear hP2 hP3 HPP hA u1 u2 hS hB hsum HFA
        have hgo : Hid (∀ W : World, Blk W go (flts (List.replicate t 0)).toArray 41 → W.cell? ⟨go, A, none⟩ = some (.float .f64 ((List.replicate t 0).getD A 0)) ∧ (store ⟨go, A, none⟩ (.float .f64 4607182418800017408)).run Try.prog W = .ok () (W.setCell ⟨go, A, none⟩ (.float .f64 4607182418800017408)) ∧ Blk (W.setCell ⟨go, A, none⟩ (.float .f64 4607182418800017408)) go (flts (unit t A)).toArray 41) := by
          intro W hW
          have h1 := blkF_at hW (j := A) (by simp; exact hAl)
          have h2 := hW.frozen A
          refine ⟨h1, ?_, blkF_put hW A _⟩
          rw [run_store_float]; simp only [stored]; simp [h1, h2]
        have sft : Hid (∀ W : World, FRow W base2 gt ct (l.map dblM) → SeesF W (.slice (some ⟨gt, 0, none⟩) t ct) (l.map dblM)) := fun W h => by
          have := h.sees; rw [List.length_map, unhide HLL] at this; exact this
        have HP4 := hide (unhide HP3)
        cases B
        all_goals cases H
        all_goals (try (obtain ⟨rfl, rfl⟩ := unhide HP4 rfl rfl))
        all_goals clear HP3 HP4
        all_goals go_wp2_with (first
          | (go_at_call 8; refine (unhide (unhide HN2 _)).mono ?_; rintro e w9 ⟨bf, rfl, hdf, hb, hk⟩; clear HN2; have gbf := hide (Nat.le_trans (unhide hkp).size hb); have ngf : Hid (gt ≠ bf ∧ go ≠ bf) := (by have h1 := (unhide hft).lt.2; have h2 := (unhide hon).lt; exact ⟨by omega, by omega⟩); replace hkp := hide ((unhide hkp).more hk); replace hft := hide ((unhide hft).keep hk (by simp)); replace hon := hide ((unhide hon).kept hk (by simp)); replace hdf := hide hdf; clear hb hk hfr)
          | (go_at_call 14; refine (unhide HP2 _ _ _ (unhide hdf) (unhide sft _ (unhide hft)) (by intro z e; cases e; exact (unhide ngf).1)).mono ?_; rintro e w10 ⟨rfl, hdd, hk⟩; clear HP2; replace hkp := hide ((unhide hkp).push hk (unhide gbf)); replace hon := hide ((unhide hon).kept hk (by have := (unhide ngf).2; simpa using this)); obtain ⟨cgo, hsto, hon2⟩ := unhide hgo _ (unhide hon); replace hon2 := hide hon2; have hkp2 : Hid (Kept [] w (w10.setCell ⟨go, A, none⟩ (.float .f64 4607182418800017408))) := ((unhide hkp).setCell (p := ⟨go, A, none⟩) (Or.inr (unhide go1)) _); clear hk hdd hdf hft hgo sft)
          | (go_at_call 7; refine (unhide HR _).mono ?_; rintro e w11 ⟨rfl, hq⟩; have hq' := hq.symm; subst hq'; clear HR)
          | (go_at_call 8; refine (unhide (unhide HN3 _)).mono ?_; rintro e w12 ⟨bh, rfl, hdh, hb, hk⟩; clear HN3; have gbh := hide (Nat.le_trans (unhide hkp2).size hb); have ngh : Hid (go ≠ bh) := (by have h2 := (unhide hon2).lt; unfold Hid; omega); have hkp3 := hide ((unhide hkp2).more hk); have hon3 := hide ((unhide hon2).kept hk (by simp)); replace hdh := hide hdh; clear hb hk hon2 hkp2)
          | (go_at_call 14; refine (unhide HU _ _ _ (unhide hdh) (seesF_blk (unhide hon3) (unit_length _ _) (by omega)) (by intro z e; cases e; exact unhide ngh)).mono ?_; rintro e w13 ⟨rfl, hdd, hk⟩; clear HU; have hkp4 := hide ((unhide hkp3).push hk (unhide gbh)); clear hk hdd hdh hon3 hkp3))
        all_goals first
          | (go_ret; exact ⟨rfl, unhide hkp4⟩)

theorem picks_walk (w : World) (s : Nat) (lone : Int) (v : Value) (l : List Nat) (hs : s < 18446744073709551616) (hv : SeesU w v l) (hl : l.length ≤ 1048576) (hlt : ∀ j, j < l.length → l.getD j 0 < 18446744073709551616) :
    Calls Try.prog 4 #[.int .u64 s, v, .int .i64 lone] w fun e w' => e = .returned (.bool true) ∧ Kept [] w w' := by
  by_cases hr : right l
  · exact picks_yes w s lone v l hs hv hl hr
  · exact picks_no w s lone v l hs hv (by omega) hlt hr
end Go.Proofs.Ytoibkgjnnneagab
