/- LoadBounds returns true. -/
import Derived.Test.YthhgeobfolhpoaaVBndP
import Derived.Deep.DeepCutAuto
namespace Go.Proofs.Ythhgeobfolhpoaa
open Go.RowKit

theorem neg_run (W : World) (x : Nat) : (Op.unary UnOp.neg (.float .f64 x)).run Try.prog W = .ok (.float .f64 (Op.negFloat .f64 x)) W := by simp [Op.unary]
theorem waveC_at (l : List Nat) {t : Nat} (ht : t < 8) : (waveC l)[t]? = some (.complex .f64 (wv reW l t 8) (wv imW l t 8)) := by
  have := waveAt_at l 8 0 ht
  rw [waveAt_end] at this
  simpa [ent, ht] using this
set_option maxRecDepth 100000 in
set_option maxHeartbeats 4000000 in
theorem bounds_no {w : World} {v : Value} {s h : Int} (hx : ¬ fits s h) : Calls Try.prog 6 #[.int .i64 s, .int .i64 h, v] w fun e w' => e = .returned (.bool true) ∧ Kept [] w w' := by
  have HKN := hide (fun W => known_any W)
  have HMD := fun W => hide (made_no (w := W) v hx)
  have HFT := fun W => hide (fit_any W s h)
  rw [decide_eq_false hx] at HFT
  clear hx
  go_enter Try.func6, Try.ntmps6
  go_wp2_with (first
    | (go_at_call 14; refine (unhide HKN _).mono ?_; rintro e w1 ⟨rfl, hk1⟩; have HK1 := hide hk1; clear HKN hk1)
    | (go_at_call 15; refine (unhide (HMD _)).mono ?_; rintro e w2 ⟨rfl, hq⟩; have hq' := hq.symm; subst hq')
    | (go_at_call 16; refine (unhide (HFT _)).mono ?_; rintro e w2 ⟨rfl, hq⟩; have hq' := hq.symm; subst hq'; clear HFT))
  go_ret
  exact ⟨rfl, unhide HK1⟩

set_option maxRecDepth 100000 in
set_option maxHeartbeats 20000000 in
theorem bounds_yes {w : World} {v : Value} {os : List OpM} (hv : Ops w v os) {n0 : Nat} {hf : Int} (hx : fits (n0 : Int) hf) : Calls Try.prog 6 #[.int .i64 (n0 : Int), .int .i64 hf, v] w fun e w' => e = .returned (.bool true) ∧ Kept [] w w' := by
  have HKN := hide (known_any w)
  have HMD := hide (fun W' (hk : Kept [] w W') => made_yes (hv.kept hk) hx)
  unfold fits at hx
  have hlen : (runO (Mt.new (n0 : Int).toNat hf.toNat) os).loads.length = n0 := by
    rw [run_len]; simp [Mt.new]
  have hMok : (runO (Mt.new (n0 : Int).toNat hf.toNat) os).ok := runO_ok (Mt.new_ok (by omega) (by omega) (by omega) (by omega)) os
  have hn0 : n0 ≤ 64 := by omega
  have hn1 : 0 < n0 := by omega
  generalize hM : runO (Mt.new (n0 : Int).toNat hf.toNat) os = M at *
  have HLN := hide hlen
  have HOK := hide hMok
  clear hM hlen hMok hx hv
  go_enter Try.func6, Try.ntmps6
  go_wp2_with (first
    | (go_at_call 14; refine (unhide HKN).mono ?_; rintro e w1 ⟨rfl, hk1⟩; have HK1 := hide hk1; clear HKN hk1)
    | (go_at_call 15; refine (unhide HMD _ (unhide HK1)).mono ?_; rintro e w2 ⟨b, g, rfl, hm2, hk2, hb2, hg2⟩; have HS := hide (show St w w2 b g M from ⟨hm2, (unhide HK1).trans hk2 (fun _ hx => by cases hx), Nat.le_trans (unhide HK1).size hb2, Nat.le_trans (unhide HK1).size hg2⟩); have HRW1 := hide (row_any hm2); rw [unhide HLN] at HRW1; clear HMD HK1 hm2 hk2 hb2 hg2)
    | (go_at_call 17; refine (unhide HRW1).mono ?_; rintro e w5 ⟨v1, rfl, ho1, hk5⟩
       have hs5 := (unhide HS).quiet hk5
       have hv1 : SeesF w5 v1 M.loads := SeesF.of_own (by rw [unhide HLN]; exact ho1)
       obtain ⟨va, vc, rfl⟩ := own_len ho1
       have HV1 := hide hv1
       clear HRW1 ho1 hk5 HS hv1
       have HS := hide hs5
       clear hs5))
  have HLO : Hid (∀ k, low (M.loads.getD k 0)) := (unhide HOK).lo
  have HOF : Hid (∀ k : Nat, k < n0 → M.of (k : Int) = M.loads.getD k 0) := fun k hk => by
    unfold Mt.of
    rw [unhide HLN, if_neg (by omega), Int.toNat_natCast]
  have HSM : Hid (∀ k, mid (sumF M.loads k)) := Mt.sum_mid (unhide HOK)
  go_loopw [10, 11, 12] (fun s t i wr => ∃ k : Nat, k ≤ n0 ∧ i = .int .i64 (k : Int) ∧ s = .float .f64 (sumF M.loads k) ∧ t = .int .i64 ((topF M.loads k : Nat) : Int) ∧ Quiet w5 wr) (fun _ _ i _ => n0 - (intOf i).toNat)
  case atStart => exact ⟨0, by omega, rfl, rfl, rfl, Quiet.refl _⟩
  case round =>
    obtain ⟨k, hk, rfl, rfl, rfl, hq⟩ := hrel
    have HQ := hide hq
    by_cases hlt : k < n0
    · obtain ⟨pa, pcp, hvv, -, -, h4⟩ := (unhide HV1).kept hq.kept (Or.inr (by simp))
      have e1 : va = pa := by cases hvv; rfl
      subst e1
      have hT : topF M.loads k < n0 := by
        by_cases h0 : 0 < k
        · have := topF_lt M.loads h0; omega
        · have : k = 0 := by omega
          subst this; exact hlt
      obtain ⟨bb, oo, e2, hc⟩ := at_flt (k := k) rfl h4 (by rw [unhide HLN]; exact hlt)
      obtain ⟨bb', oo', e3, hc2⟩ := at_flt (k := topF M.loads k) rfl h4 (by rw [unhide HLN]; exact hT)
      subst e2
      have eb : bb = bb' := by injection e3 with e; injection e
      have eo : oo = oo' := by injection e3 with e; injection e
      subst eb
      subst eo
      have hx := unhide HLO k
      have hy := unhide HLO (topF M.loads k)
      have HO1 := hide (fun W (hq2 : Quiet wr W) => of_any ((unhide HS).mp.quiet (hq.trans hq2)) (k : Int))
      rw [unhide HOF k hlt] at HO1
      have HLI := fun W => hide (like_same W hx.good)
      have t1 := ge_good hx.good
      have hadd := (add_eq (unhide HSM k).good hx.fair).1
      have hgt := gt_low hx hy
      have HSS : Hid (sumF M.loads (k + 1) = addF (sumF M.loads k) (M.loads.getD k 0)) := rfl
      have HTT : Hid (topF M.loads (k + 1) = if M.loads.getD (topF M.loads k) 0 < M.loads.getD k 0 then k else topF M.loads k) := rfl
      clear hq h4 hvv HOF HLO HSM hx hy e3
      generalize M.loads.getD (topF M.loads k) 0 = y at *
      generalize topF M.loads k = T at *
      generalize M.loads.getD k 0 = x at *
      generalize sumF M.loads k = S at *
      generalize addF S x = A at *
      have hrun : ∀ t w, (binOp .add t (.float .f64 S) (.float .f64 x)).run Try.prog w = .ok (.float .f64 A) w := fun t w => run_float_arith w .add t .f64 _ _ _ hadd
      clear hadd
      by_cases hxy : y < x
      · rw [decide_eq_true hxy] at hgt
        have HE : Hid (topF M.loads (k + 1) = k) := by unfold Hid; rw [unhide HTT, if_pos hxy]
        clear hxy HTT
        go_wp2_with fail
        go_region_held3 (fun w' => w'.cell? ⟨bb, oo + k, none⟩ = some (.float .f64 x)) (exact hc) (first
          | (go_at_call 20; refine (unhide HO1 _ (by first | exact Quiet.refl _ | exact (Quiet.refl _).drew)).mono ?_; rintro e w8 ⟨rfl, hq⟩; have hq' := hq.symm; subst hq'; clear HO1)
          | (go_at_call 19; refine (unhide (HLI _)).mono ?_; rintro e w8 ⟨rfl, hq⟩; have hq' := hq.symm; subst hq'; clear HLI))
        go_wp2_with fail
        go_region_held3 (fun w' => w'.cell? ⟨bb, oo + k, none⟩ = some (.float .f64 x) ∧ w'.cell? ⟨bb, oo + T, none⟩ = some (.float .f64 y)) (exact ⟨hc, hc2⟩) (fail)
        go_wp2_with fail
        exact ⟨⟨k + 1, by omega, by simp, by rw [unhide HSS], by rw [unhide HE], by first | exact (unhide HQ).drew.drew | exact (unhide HQ).drew | exact unhide HQ⟩, by simp [intOf]; omega⟩
      · rw [decide_eq_false hxy] at hgt
        have HE : Hid (topF M.loads (k + 1) = T) := by unfold Hid; rw [unhide HTT, if_neg hxy]
        clear hxy HTT
        go_wp2_with fail
        go_region_held3 (fun w' => w'.cell? ⟨bb, oo + k, none⟩ = some (.float .f64 x)) (exact hc) (first
          | (go_at_call 20; refine (unhide HO1 _ (by first | exact Quiet.refl _ | exact (Quiet.refl _).drew)).mono ?_; rintro e w8 ⟨rfl, hq⟩; have hq' := hq.symm; subst hq'; clear HO1)
          | (go_at_call 19; refine (unhide (HLI _)).mono ?_; rintro e w8 ⟨rfl, hq⟩; have hq' := hq.symm; subst hq'; clear HLI))
        go_wp2_with fail
        go_region_held3 (fun w' => w'.cell? ⟨bb, oo + k, none⟩ = some (.float .f64 x) ∧ w'.cell? ⟨bb, oo + T, none⟩ = some (.float .f64 y)) (exact ⟨hc, hc2⟩) (fail)
        go_wp2_with fail
        exact ⟨⟨k + 1, by omega, by simp, by rw [unhide HSS], by rw [unhide HE], by first | exact (unhide HQ).drew.drew | exact (unhide HQ).drew | exact unhide HQ⟩, by simp [intOf]; omega⟩
    · have hkn : k = n0 := by omega
      subst hkn
      have hs8 := (unhide HS).quiet hq.kept
      clear HS hq HOF HLO HV1
      have HS := hide hs8
      have HSU := hide (sum_any hs8.mp)
      have HME := hide (mean_any hs8.mp)
      have HTP := hide (top_any hs8.mp)
      have HSP := hide (spread_any hs8.mp)
      have HWV := hide (wave_any hs8.mp)
      rw [unhide HLN] at HTP
      have hsg : good M.sum := (Mt.sum_mid (unhide HOK) _).good
      have HSE : Hid (M.sum = sumF M.loads k) := by unfold Hid Mt.sum; rw [unhide HLN]
      have hmg := Mt.mean_good (unhide HOK)
      have hdiv : floatBits .quo .f64 (sumF M.loads k) (floatOfInt .f64 (k : Int)) = some M.mean := by
        have := (div_ok hsg hn1 hn0).1
        rw [unhide HSE] at this
        rw [this]
        unfold Mt.mean
        rw [unhide HSE, unhide HLN]
      have hspg := Mt.spread_good (unhide HOK)
      have HL1 := fun W => hide (like_same W hsg)
      have HL2 := fun W => hide (like_same W hmg)
      have t1 := ge_good hspg
      have t2 := eq_good hsg
      have hsn := spread_nil (unhide HOK)
      rw [unhide HSE] at HSU HL1 t2 hsn
      have HWW := hide (unhide HOK).wi
      have HO1 := hide (fun W (hm : Mp W b g M) => of_any hm (-1))
      have HO2 := hide (fun W (hm : Mp W b g M) => of_any hm (k : Int))
      have e1 : M.of (-1) = 0 := by unfold Mt.of; rw [if_pos (Or.inl (by omega))]
      have e2 : M.of (k : Int) = 0 := by unfold Mt.of; rw [unhide HLN, if_pos (Or.inr (by omega))]
      rw [e1] at HO1
      rw [e2] at HO2
      clear hs8 hsg hmg hspg HSM HSE e1 e2
      generalize sumF M.loads k = S at *
      generalize topF M.loads k = T at *
      generalize M.mean = mn at *
      generalize M.spread = sp at *
      obtain ⟨y, hy⟩ : ∃ y, floatOfInt .f64 (k : Int) = y := ⟨_, rfl⟩
      rw [hy] at hdiv
      have hrun : ∀ t w, (binOp .quo t (.float .f64 S) (.float .f64 y)).run Try.prog w = .ok (.float .f64 mn) w := fun t w => run_float_arith w .quo t .f64 _ _ _ hdiv
      clear hdiv
      have t3 : (FloatKind.f64.format.order 0 0 == some Ordering.eq) = true := by decide +kernel
      have t4 : (FloatKind.f64.format.order 0 0 != some Ordering.eq) = false := by decide +kernel
      have hcase : (decide (S = 0) = true ∧ (FloatKind.f64.format.order sp 0 != some Ordering.eq) = false) ∨ decide (S = 0) = false := by
        by_cases c : S = 0
        · left
          refine ⟨decide_eq_true c, ?_⟩
          rw [hsn c]; exact t4
        · exact Or.inr (decide_eq_false c)
      clear hsn
      rcases hcase with ⟨c1, c2⟩ | c1
      · rw [c1] at t2
        go_wp2_with (first
          | (go_at_call 26; refine (unhide HSU).mono ?_; rintro e w8 ⟨rfl, hq⟩; have hq' := hq.symm; subst hq'; clear HSU)
          | (go_at_call 19; refine (unhide (HL1 _)).mono ?_; rintro e w8 ⟨rfl, hq⟩; have hq' := hq.symm; subst hq'; clear HL1)
          | (go_at_call 27; refine (unhide HME).mono ?_; rintro e w8 ⟨rfl, hq⟩; have hq' := hq.symm; subst hq'; clear HME)
          | (go_at_call 19; refine (unhide (HL2 _)).mono ?_; rintro e w8 ⟨rfl, hq⟩; have hq' := hq.symm; subst hq'; clear HL2)
          | (go_at_call 28; refine (unhide HTP).mono ?_; rintro e w8 ⟨rfl, hq⟩; have hq' := hq.symm; subst hq'; clear HTP)
          | (go_at_call 23; refine (unhide HSP).mono ?_; rintro e w8 ⟨rfl, hq⟩; have hq' := hq.symm; subst hq'))
        refine (unhide HWV).mono ?_
        rintro e w9 ⟨rfl, hk9⟩
        obtain ⟨W9, hW9⟩ : ∃ W9, W9 = w9.alloc (.cells (waveC M.wins).toArray 51) := ⟨_, rfl⟩
        have hka : Kept [] w9 W9 := by rw [hW9]; exact (Kept.refl _ _).alloc _
        have hs9 := ((unhide HS).quiet hk9).quiet hka
        have hBW : Blk W9 w9.heap.size (waveC M.wins).toArray 51 := by rw [hW9]; exact Blk.new _ _ _
        have HCW : Hid (∀ j, j < 8 → W9.cell? ⟨w9.heap.size, j, none⟩ = some (.complex .f64 (wv reW M.wins j 8) (wv imW M.wins j 8))) := fun j hj => by
          rw [hBW.cell]; simpa using waveC_at M.wins hj
        have d0 := unhide HCW 0 (by omega)
        have d4 := unhide HCW 4 (by omega)
        rw [wv_nil (f := imW) (unhide HWW) (k := 0) 8 im_first] at d0
        rw [wv_nil (f := imW) (unhide HWW) (k := 4) 8 im_fourth] at d4
        have hg0 := ge_fin (wv_fin re_part (unhide HWW) 0 8) (wv_pos (unhide HWW) 8)
        have HON : Hid (∀ v ∈ waveC M.wins, v.oneCell' = true) := cplx_one _ (by
          intro v hv
          obtain ⟨n, _, rfl⟩ := List.mem_map.1 hv
          exact ⟨_, _, rfl⟩)
        have HSL : Hid ((Try.prog.info? 51).map (·.size) = some (waveC M.wins).length) := by unfold Hid; rw [show (waveC M.wins).length = 8 by simp [waveC]]; exact sizeWave
        have HW9 := hide hW9
        clear HWV hk9 HS hW9 hka hBW t1 t2 hrun
        have HS := hide hs9
        clear hs9
        generalize wv reW M.wins 0 8 = r0 at *
        generalize wv reW M.wins 4 8 = r4 at *
        generalize hwc : waveC M.wins = wc at *
        have HZL : Hid (([.complex .f64 0 0, .complex .f64 0 0, .complex .f64 0 0, .complex .f64 0 0, .complex .f64 0 0, .complex .f64 0 0, .complex .f64 0 0, .complex .f64 0 0] : List Value).toArray.size = wc.length) := by unfold Hid; rw [← hwc]; simp [waveC]
        clear hwc
        go_wp2_with (first
          | (guard_target =~ wpList _ _ _ _ _ _; refine wpList_store_newC _ _ 51 _ wc rfl rfl rfl rfl (unhide HSL) (unhide HZL) (unhide HON) rfl ?_; rw [← unhide HW9]))
        clear d0 d4 hg0 HSL HZL HON HW9
        go_loopw [14] (fun i wt => ∃ j : Nat, 1 ≤ j ∧ j ≤ 8 ∧ i = .int .i64 (j : Int) ∧ Quiet W9 wt) (fun i _ => 8 - (intOf i).toNat)
        case atStart => exact ⟨1, by omega, by omega, rfl, Quiet.refl _⟩
        case round =>
          obtain ⟨j, hj1, hj8, rfl, hq⟩ := hrel
          have HQ9 := hide hq
          by_cases hlt : j < 8
          · have dj := (hq.cell ⟨w9.heap.size, j, none⟩).trans (unhide HCW j hlt)
            have d8 := (hq.cell ⟨w9.heap.size, 8 - j, none⟩).trans (unhide HCW (8 - j) (by omega))
            rw [wv_same (f := reW) (l := M.wins) 8 (re_mirror j hlt (by omega))] at d8
            have fr := wv_fin re_part (unhide HWW) j 8
            have fa := wv_fin im_part (unhide HWW) j 8
            have fc := wv_fin im_part (unhide HWW) (8 - j) 8
            have ho := wv_opp im_part (unhide HWW) 8 (im_mirror j hlt (by omega))
            have t5 := ne_fin fr fr rfl
            have t6 := ne_fin fa (neg_word fc).1 (by rw [(neg_word fc).2, ho]; omega)
            have hw8 : IntKind.i64.wrap (8 - (j : Int)) = ((8 - j : Nat) : Int) := by rw [IntKind.wrap_i64]; omega
            have hlt2 : (j : Int) < 8 := by omega
            obtain ⟨i8, hi8⟩ : ∃ i8, 8 - j = i8 := ⟨_, rfl⟩
            have hi8b : (i8 : Int) < 8 := by omega
            have hi8c : i8 < 8 := by omega
            rw [hi8] at d8 hw8 t6
            clear fr fa fc ho hq hi8 HCW HWW
            generalize wv reW M.wins j 8 = r at *
            generalize wv imW M.wins j 8 = a at *
            generalize wv imW M.wins i8 8 = cc at *
            have hneg : ∀ W : World, (Op.unary UnOp.neg (.float .f64 cc)).run Try.prog W = .ok (.float .f64 (Op.negFloat .f64 cc)) W := fun W => neg_run W cc
            generalize Op.negFloat .f64 cc = nn at *
            go_wp2_with fail
            go_region_held3 (fun w' => w'.cell? ⟨w9.heap.size, j, none⟩ = some (.complex .f64 r a) ∧ w'.cell? ⟨w9.heap.size, i8, none⟩ = some (.complex .f64 r cc)) (exact ⟨dj, d8⟩) (fail)
            all_goals go_wp2_with fail
            all_goals exact ⟨⟨j + 1, by omega, by omega, by simp, by first | exact (unhide HQ9).drew | exact unhide HQ9⟩, by simp [intOf]; omega⟩
          · have hj : j = 8 := by omega
            subst hj
            have hs10 := (unhide HS).quiet hq.kept
            have HSA := hide (unhide HO1 _ hs10.mp)
            have HSB := hide (unhide HO2 _ hs10.mp)
            have HKE := hide hs10.kept
            clear hq hs10 HO1 HO2 HS
            go_wp2_with (first
              | (go_at_call 20; refine (unhide HSA).mono ?_; rintro e w11 ⟨rfl, hq⟩; have hq' := hq.symm; subst hq'; clear HSA)
              | (go_at_call 20; refine (unhide HSB).mono ?_; rintro e w11 ⟨rfl, hq⟩; have hq' := hq.symm; subst hq'; clear HSB))
            go_ret
            exact ⟨rfl, unhide HKE⟩
      · rw [c1] at t2
        go_wp2_with (first
          | (go_at_call 26; refine (unhide HSU).mono ?_; rintro e w8 ⟨rfl, hq⟩; have hq' := hq.symm; subst hq'; clear HSU)
          | (go_at_call 19; refine (unhide (HL1 _)).mono ?_; rintro e w8 ⟨rfl, hq⟩; have hq' := hq.symm; subst hq'; clear HL1)
          | (go_at_call 27; refine (unhide HME).mono ?_; rintro e w8 ⟨rfl, hq⟩; have hq' := hq.symm; subst hq'; clear HME)
          | (go_at_call 19; refine (unhide (HL2 _)).mono ?_; rintro e w8 ⟨rfl, hq⟩; have hq' := hq.symm; subst hq'; clear HL2)
          | (go_at_call 28; refine (unhide HTP).mono ?_; rintro e w8 ⟨rfl, hq⟩; have hq' := hq.symm; subst hq'; clear HTP)
          | (go_at_call 23; refine (unhide HSP).mono ?_; rintro e w8 ⟨rfl, hq⟩; have hq' := hq.symm; subst hq'))
        refine (unhide HWV).mono ?_
        rintro e w9 ⟨rfl, hk9⟩
        obtain ⟨W9, hW9⟩ : ∃ W9, W9 = w9.alloc (.cells (waveC M.wins).toArray 51) := ⟨_, rfl⟩
        have hka : Kept [] w9 W9 := by rw [hW9]; exact (Kept.refl _ _).alloc _
        have hs9 := ((unhide HS).quiet hk9).quiet hka
        have hBW : Blk W9 w9.heap.size (waveC M.wins).toArray 51 := by rw [hW9]; exact Blk.new _ _ _
        have HCW : Hid (∀ j, j < 8 → W9.cell? ⟨w9.heap.size, j, none⟩ = some (.complex .f64 (wv reW M.wins j 8) (wv imW M.wins j 8))) := fun j hj => by
          rw [hBW.cell]; simpa using waveC_at M.wins hj
        have d0 := unhide HCW 0 (by omega)
        have d4 := unhide HCW 4 (by omega)
        rw [wv_nil (f := imW) (unhide HWW) (k := 0) 8 im_first] at d0
        rw [wv_nil (f := imW) (unhide HWW) (k := 4) 8 im_fourth] at d4
        have hg0 := ge_fin (wv_fin re_part (unhide HWW) 0 8) (wv_pos (unhide HWW) 8)
        have HON : Hid (∀ v ∈ waveC M.wins, v.oneCell' = true) := cplx_one _ (by
          intro v hv
          obtain ⟨n, _, rfl⟩ := List.mem_map.1 hv
          exact ⟨_, _, rfl⟩)
        have HSL : Hid ((Try.prog.info? 51).map (·.size) = some (waveC M.wins).length) := by unfold Hid; rw [show (waveC M.wins).length = 8 by simp [waveC]]; exact sizeWave
        have HW9 := hide hW9
        clear HWV hk9 HS hW9 hka hBW t1 t2 hrun
        have HS := hide hs9
        clear hs9
        generalize wv reW M.wins 0 8 = r0 at *
        generalize wv reW M.wins 4 8 = r4 at *
        generalize hwc : waveC M.wins = wc at *
        have HZL : Hid (([.complex .f64 0 0, .complex .f64 0 0, .complex .f64 0 0, .complex .f64 0 0, .complex .f64 0 0, .complex .f64 0 0, .complex .f64 0 0, .complex .f64 0 0] : List Value).toArray.size = wc.length) := by unfold Hid; rw [← hwc]; simp [waveC]
        clear hwc
        go_wp2_with (first
          | (guard_target =~ wpList _ _ _ _ _ _; refine wpList_store_newC _ _ 51 _ wc rfl rfl rfl rfl (unhide HSL) (unhide HZL) (unhide HON) rfl ?_; rw [← unhide HW9]))
        clear d0 d4 hg0 HSL HZL HON HW9
        go_loopw [14] (fun i wt => ∃ j : Nat, 1 ≤ j ∧ j ≤ 8 ∧ i = .int .i64 (j : Int) ∧ Quiet W9 wt) (fun i _ => 8 - (intOf i).toNat)
        case atStart => exact ⟨1, by omega, by omega, rfl, Quiet.refl _⟩
        case round =>
          obtain ⟨j, hj1, hj8, rfl, hq⟩ := hrel
          have HQ9 := hide hq
          by_cases hlt : j < 8
          · have dj := (hq.cell ⟨w9.heap.size, j, none⟩).trans (unhide HCW j hlt)
            have d8 := (hq.cell ⟨w9.heap.size, 8 - j, none⟩).trans (unhide HCW (8 - j) (by omega))
            rw [wv_same (f := reW) (l := M.wins) 8 (re_mirror j hlt (by omega))] at d8
            have fr := wv_fin re_part (unhide HWW) j 8
            have fa := wv_fin im_part (unhide HWW) j 8
            have fc := wv_fin im_part (unhide HWW) (8 - j) 8
            have ho := wv_opp im_part (unhide HWW) 8 (im_mirror j hlt (by omega))
            have t5 := ne_fin fr fr rfl
            have t6 := ne_fin fa (neg_word fc).1 (by rw [(neg_word fc).2, ho]; omega)
            have hw8 : IntKind.i64.wrap (8 - (j : Int)) = ((8 - j : Nat) : Int) := by rw [IntKind.wrap_i64]; omega
            have hlt2 : (j : Int) < 8 := by omega
            obtain ⟨i8, hi8⟩ : ∃ i8, 8 - j = i8 := ⟨_, rfl⟩
            have hi8b : (i8 : Int) < 8 := by omega
            have hi8c : i8 < 8 := by omega
            rw [hi8] at d8 hw8 t6
            clear fr fa fc ho hq hi8 HCW HWW
            generalize wv reW M.wins j 8 = r at *
            generalize wv imW M.wins j 8 = a at *
            generalize wv imW M.wins i8 8 = cc at *
            have hneg : ∀ W : World, (Op.unary UnOp.neg (.float .f64 cc)).run Try.prog W = .ok (.float .f64 (Op.negFloat .f64 cc)) W := fun W => neg_run W cc
            generalize Op.negFloat .f64 cc = nn at *
            go_wp2_with fail
            go_region_held3 (fun w' => w'.cell? ⟨w9.heap.size, j, none⟩ = some (.complex .f64 r a) ∧ w'.cell? ⟨w9.heap.size, i8, none⟩ = some (.complex .f64 r cc)) (exact ⟨dj, d8⟩) (fail)
            all_goals go_wp2_with fail
            all_goals exact ⟨⟨j + 1, by omega, by omega, by simp, by first | exact (unhide HQ9).drew | exact unhide HQ9⟩, by simp [intOf]; omega⟩
          · have hj : j = 8 := by omega
            subst hj
            have hs10 := (unhide HS).quiet hq.kept
            have HSA := hide (unhide HO1 _ hs10.mp)
            have HSB := hide (unhide HO2 _ hs10.mp)
            have HKE := hide hs10.kept
            clear hq hs10 HO1 HO2 HS
            go_wp2_with (first
              | (go_at_call 20; refine (unhide HSA).mono ?_; rintro e w11 ⟨rfl, hq⟩; have hq' := hq.symm; subst hq'; clear HSA)
              | (go_at_call 20; refine (unhide HSB).mono ?_; rintro e w11 ⟨rfl, hq⟩; have hq' := hq.symm; subst hq'; clear HSB))
            go_ret
            exact ⟨rfl, unhide HKE⟩
end Go.Proofs.Ythhgeobfolhpoaa
