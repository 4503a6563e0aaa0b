/- LoadOwn returns true. -/
import Derived.Test.YthhgeobfolhpoaaVOwnB
import Derived.Test.YthhgeobfolhpoaaVHalP
import Derived.Deep.DeepCutAuto
import Derived.Deep.RegionHeld3
import Derived.BigRegion
namespace Go.Proofs.Ythhgeobfolhpoaa
open Go.RowKit

set_option maxRecDepth 100000 in
set_option maxHeartbeats 4000000 in
theorem own_no {w : World} {v : Value} {s h : Int} (hx : ¬ fits s h) : Calls Try.prog 8 #[.int .i64 s, .int .i64 h, v] w fun e w' => e = .returned (.bool true) ∧ Kept [] w w' := by
  have HKN := hide (fun W => known_any W)
  have HMD := fun W => hide (made_no (w := W) v hx)
  have HFT := fun W => hide (fit_any W s h)
  rw [decide_eq_false hx] at HFT
  clear hx
  go_enter Try.func8, Try.ntmps8
  go_wp2_with (first
    | (go_at_call 14; refine (unhide HKN _).mono ?_; rintro e w1 ⟨rfl, hk1⟩; have HK1 := hide hk1; clear HKN hk1)
    | (go_at_call 15; refine (unhide (HMD _)).mono ?_; rintro e w2 ⟨rfl, hq⟩; have hq' := hq.symm; subst hq')
    | (go_at_call 16; refine (unhide (HFT _)).mono ?_; rintro e w2 ⟨rfl, hq⟩; have hq' := hq.symm; subst hq'; clear HFT))
  go_ret
  exact ⟨rfl, unhide HK1⟩

theorem one_wok : wok 4607182418800017408 := by decide +kernel
theorem hit_one {M : Mt} (h : M.ok) : M.hitE 0 (M.clock : Int) 4607182418800017408 = 0 := by
  have h1 := h.l1
  have h2 := h.c
  unfold Mt.hitE Mt.goE
  rw [if_neg (by rintro (e | e | e); omega; omega; exact e one_wok), if_neg (by omega), if_neg (by omega)]
theorem hit_len {M : Mt} (h : M.ok) : (M.onHit 0 (M.clock : Int) 4607182418800017408).loads.length = M.loads.length := by
  unfold Mt.onHit
  rw [if_pos (hit_one h)]
  simp only [Mt.hit, List.length_set, Mt.go_len]

set_option maxRecDepth 100000 in
set_option maxHeartbeats 20000000 in
theorem own_yes {w : World} {v : Value} {os : List OpM} (hv : Ops w v os) {n hf : Nat} (hx : fits (n : Int) (hf : Int)) : Calls Try.prog 8 #[.int .i64 (n : Int), .int .i64 (hf : Int), v] w fun e w' => e = .returned (.bool true) ∧ Kept [] w w' := by
  have HKN := hide (known_any w)
  have HMD := hide (fun W' (hk : Kept [] w W') => made_yes (hv.kept hk) hx)
  have HFT := fun W => hide (fit_any W (n : Int) (hf : Int))
  rw [decide_eq_true hx] at HFT
  unfold fits at hx
  have hlen : (runO (Mt.new (n : Int).toNat (hf : Int).toNat) os).loads.length = n := by
    rw [run_len]; simp [Mt.new]
  have hMok : (runO (Mt.new (n : Int).toNat (hf : Int).toNat) os).ok := runO_ok (Mt.new_ok (by omega) (by omega) (by omega) (by omega)) os
  have n1 : 1 ≤ n := by omega
  have n64 : n ≤ 64 := by omega
  generalize hM : runO (Mt.new (n : Int).toNat (hf : Int).toNat) os = M at *
  have HHE := hide (hit_one hMok)
  have HML : Hid ((M.onHit 0 (M.clock : Int) 4607182418800017408).loads.length = n) := by unfold Hid; rw [hit_len hMok, hlen]
  have HGA : Hid (∀ j, good (M.loads.getD j 0)) := fun j => (hMok.lo j).good
  have HNM := fun x W => hide (num_any W x)
  have HLN := hide hlen
  have HOK := hide hMok
  have HHT := fun (W : World) (b g : Nat) (hm : Mp W b g M) => hide (hit_any hm 0 (M.clock : Int) (x := 4607182418800017408) (by omega))
  generalize hC : M.clock = clk at *
  have hclk : clk ≤ 1099511627776 := by rw [← hC]; exact (unhide HOK).c
  clear hM hlen hMok hx hv hC
  obtain ⟨i0, hi, hz0, hz1, hz2⟩ := info_parts infoFp
  have HI := hide (⟨hi, hz0, hz1, hz2⟩ : _ ∧ _ ∧ _ ∧ _)
  clear hi hz0 hz1 hz2
  go_enter Try.func8, Try.ntmps8
  go_wp2_with (first
    | (go_at_call 14; refine (unhide HKN).mono ?_; rintro e w1 ⟨rfl, hk1⟩; have HK1 := hide hk1; clear HKN hk1)
    | (go_at_call 15; refine (unhide HMD _ (unhide HK1)).mono ?_; rintro e w2 ⟨b, g, rfl, hm2, hk2, hb2, hg2⟩; have HS := hide (show St w w2 b g M from ⟨hm2, (unhide HK1).trans hk2 (fun _ hx => by cases hx), Nat.le_trans (unhide HK1).size hb2, Nat.le_trans (unhide HK1).size hg2⟩); clear HK1 HMD hm2 hk2 hb2 hg2; have HR2 := hide (row_any (unhide HS).mp); rw [unhide HLN] at HR2)
    | (go_at_call 17; refine (unhide HR2).mono ?_; rintro e w3 ⟨va, rfl, ho3, hk3⟩; clear HR2; obtain ⟨ga, ca, rfl, gl3, gs3, hr3⟩ := row_of_own ho3 n1; have HA3 := hide hr3; have HLA : Hid (w2.heap.size ≤ ga ∧ ga < w3.heap.size) := ⟨gl3, gs3⟩; have HS3 := hide ((unhide HS).quiet hk3); have HR3 := hide (row_any (unhide HS3).mp); rw [unhide HLN] at HR3; clear ho3 hr3 gl3 gs3)
    | (go_at_call 17; refine (unhide HR3).mono ?_; rintro e w4 ⟨vb, rfl, ho4, hk4⟩; clear HR3; obtain ⟨gb, cb, rfl, gl4, gs4, hr4⟩ := row_of_own ho4 n1; have HB4 := hide hr4; have HLB : Hid (w3.heap.size ≤ gb ∧ gb < w4.heap.size) := ⟨gl4, gs4⟩; have HS4 := hide ((unhide HS3).quiet hk4); have HA4 := hide ((unhide HA3).kept hk4 (by simp)); clear ho4 hr4 gl4 gs4)
    | (at_builtin; refine wpList_twinF (w0 := w4) rfl _ _ 43 rfl i0 Try.underlying43 (unhide HI).1 (unhide HI).2.1 (unhide HI).2.2.1 (unhide HI).2.2.2 rfl _ M.loads rfl (Kept.refl _ _) (unhide HA4).sees n (unhide HLN) (by omega) ?_))
  intro aw cw0 w5 ho5 hk5
  obtain ⟨gw, cw, hvw, gl5, gs5, hr5⟩ := row_of_own ho5 n1
  have eaw : aw = some ⟨gw, 0, none⟩ := by cases hvw; rfl
  have ecw : cw0 = cw := by cases hvw; rfl
  subst eaw
  subst ecw
  have HW5 := hide hr5
  have HLW : Hid (w4.heap.size ≤ gw ∧ gw < w5.heap.size) := ⟨gl5, gs5⟩
  have HS5 := hide ((unhide HS4).quiet hk5)
  have HA5 := hide ((unhide HA4).kept hk5 (by simp))
  have HB5 := hide ((unhide HB4).kept hk5 (by simp))
  have HHT5 := HHT _ _ _ (unhide HS5).mp
  rw [unhide HHE] at HHT5
  -- the blocks' order
  have HOR : Hid (w.heap.size ≤ b ∧ w.heap.size ≤ g ∧ b < ga ∧ g < ga ∧ ga < gb ∧ gb < gw ∧ gw < w5.heap.size) := by
    have h1 := unhide HLA
    have h2 := unhide HLB
    have h3 := unhide HLW
    have h4 := (unhide HS).mp.head.lt
    have h5 := (unhide HS).mp.row.lt
    have h6 := (unhide HS).hb
    have h7 := (unhide HS).hg
    unfold Hid
    omega
  clear hvw gl5 gs5 hr5 ho5 hk5 hk4 hk3 HS HA3 HLA HS3 HB4 HLB HS4 HA4 HLW HHT
  obtain ⟨M', hM'⟩ : ∃ M', M.onHit 0 (clk : Int) 4607182418800017408 = M' := ⟨_, rfl⟩
  rw [hM'] at HML HHT5
  clear hM'
  go_wp2_with (first
    | (go_at_call 29; refine (unhide HHT5).mono ?_; rintro e w6 ⟨rfl, hm6, hk6⟩; clear HHT5
       have HS6 := hide ((unhide HS5).on hm6 hk6)
       have HA6 := hide ((unhide HA5).kept hk6 (by have := unhide HOR; simp; omega))
       have HB6 := hide ((unhide HB5).kept hk6 (by have := unhide HOR; simp; omega))
       have HW6 := hide ((unhide HW5).kept hk6 (by have := unhide HOR; simp; omega))
       have HR6 := hide (row_any (unhide HS6).mp); rw [unhide HML] at HR6
       have HSZ : Hid (w5.heap.size ≤ w6.heap.size) := hk6.size
       clear hm6 hk6 HS5 HA5 HB5 HW5)
    | (go_at_call 11; refine (unhide (HNM _ _)).mono ?_; rintro e w7 ⟨rfl, hq⟩; have hq' := hq.symm; subst hq')
    | (go_at_call 17; refine (unhide HR6).mono ?_; rintro e w7 ⟨vc, rfl, ho7, hk7⟩; clear HR6; obtain ⟨gc, cc, rfl, gl7, gs7, hr7⟩ := row_of_own ho7 n1
       have HC7 := hide hr7; have HLC : Hid (w6.heap.size ≤ gc ∧ gc < w7.heap.size) := ⟨gl7, gs7⟩; have HS7 := hide ((unhide HS6).quiet hk7); have HA7 := hide ((unhide HA6).kept hk7 (by simp)); have HB7 := hide ((unhide HB6).kept hk7 (by simp)); have HW7 := hide ((unhide HW6).kept hk7 (by simp)); clear ho7 hr7 gl7 gs7 hk7 HS6 HA6 HB6 HW6)
    | (at_builtin; refine wpList_twinF (w0 := w7) rfl _ _ 43 rfl i0 Try.underlying43 (unhide HI).1 (unhide HI).2.1 (unhide HI).2.2.1 (unhide HI).2.2.2 rfl _ M'.loads rfl (Kept.refl _ _) (unhide HC7).sees n (unhide HML) (by omega) ?_))
  intro al cl0 w8 ho8 hk8
  obtain ⟨gl, cl, hvl, gl8, gs8, hr8⟩ := row_of_own ho8 n1
  have eal : al = some ⟨gl, 0, none⟩ := by cases hvl; rfl
  have ecl : cl0 = cl := by cases hvl; rfl
  subst eal
  subst ecl
  have HL8 := hide hr8
  have HS8 := hide ((unhide HS7).quiet hk8)
  have HA8 := hide ((unhide HA7).kept hk8 (by simp))
  have HB8 := hide ((unhide HB7).kept hk8 (by simp))
  have HC8 := hide ((unhide HC7).kept hk8 (by simp))
  have HW8 := hide ((unhide HW7).kept hk8 (by simp))
  have HO8 : Hid (w.heap.size ≤ b ∧ w.heap.size ≤ g ∧ b < ga ∧ g < ga ∧ ga < gb ∧ gb < gc ∧ gc < gl ∧ gl < w8.heap.size) := by
    have h1 := unhide HLC
    have h2 := unhide HOR
    have h3 := unhide HSZ
    unfold Hid
    omega
  have HGA' : Hid (∀ j, good (M'.loads.getD j 0)) := fun j => ((unhide HS8).mp.ok.lo j).good
  have HRS1 := hide (rows_same (unhide HA8).sees (unhide HW8).sees (by rw [unhide HLN]; omega) (unhide HGA))
  have HRS2 := hide (fun W (hQ : Quiet w8 W) => rows_same ((unhide HB8).kept hQ.kept (by simp)).sees ((unhide HW8).kept hQ.kept (by simp)).sees (by rw [unhide HLN]; omega) (unhide HGA))
  clear hvl gl8 gs8 hr8 ho8 hk8 HS7 HA7 HB7 HC7 HW7 HLC HOR HSZ
  go_wp2_with (first
    | (go_at_call 21; refine (unhide HRS1).mono ?_; rintro e w9 ⟨rfl, hq9⟩; have HQ9 := hide hq9; clear HRS1 hq9)
    | (go_at_call 21; refine (unhide HRS2 _ (unhide HQ9)).mono ?_; rintro e w10 ⟨rfl, hq10⟩; have HQ10 := hide ((unhide HQ9).trans hq10); clear HRS2 hq10 HQ9))
  have hk10 : Kept [] w8 w10 := (unhide HQ10).kept
  have HS10 := hide ((unhide HS8).quiet hk10)
  have HA10 := hide ((unhide HA8).kept hk10 (by simp))
  have HB10 := hide ((unhide HB8).kept hk10 (by simp))
  have HC10 := hide ((unhide HC8).kept hk10 (by simp))
  have HL10 := hide ((unhide HL8).kept hk10 (by simp))
  have HO10 : Hid (w.heap.size ≤ b ∧ w.heap.size ≤ g ∧ b < ga ∧ g < ga ∧ ga < gb ∧ gb < gc ∧ gc < gl ∧ gl < w10.heap.size) := by
    have h1 := unhide HO8
    have h2 := hk10.size
    unfold Hid
    omega
  clear hk10 HS8 HA8 HB8 HC8 HW8 HL8 HO8 HQ10 HGA HLN HOK HHE HNM HFT
  obtain ⟨q, hq⟩ : ∃ q, w10.heap.size = q := ⟨_, rfl⟩
  have hGC : ∃ G C : Nat → Nat, G 0 = ga ∧ G 1 = gb ∧ G 2 = gc ∧ C 0 = ca ∧ C 1 = cb ∧ C 2 = cc := ⟨fun r => if r = 0 then ga else if r = 1 then gb else gc, fun r => if r = 0 then ca else if r = 1 then cb else cc, rfl, rfl, rfl, rfl, rfl, rfl⟩
  obtain ⟨G, C, rfl, rfl, rfl, rfl, rfl, rfl⟩ := hGC
  obtain ⟨W1, hW1⟩ : ∃ W1, w10.alloc (.cells #[.slice (some ⟨G 0, 0, none⟩) n (C 0), .slice (some ⟨G 1, 0, none⟩) n (C 1), .slice (some ⟨G 2, 0, none⟩) n (C 2)] 43) = W1 := ⟨_, rfl⟩
  have hka : Kept [] w10 W1 := by rw [← hW1]; exact (Kept.refl _ _).alloc _
  have hqb : Blk W1 q #[.slice (some ⟨G 0, 0, none⟩) n (C 0), .slice (some ⟨G 1, 0, none⟩) n (C 1), .slice (some ⟨G 2, 0, none⟩) n (C 2)] 43 := by rw [← hW1, ← hq]; exact Blk.new _ _ _
  have HQC : Hid (∀ r, r < 3 → W1.cell? ⟨q, r, none⟩ = some (.slice (some ⟨G r, 0, none⟩) n (C r))) := by
    intro r hr
    rw [hqb.cell]
    match r, hr with
    | 0, _ => rfl
    | 1, _ => rfl
    | 2, _ => rfl
  have HQL : Hid (q < W1.heap.size) := hqb.lt
  have HSP : Hid (Sep G) := by
    have h := unhide HO10
    intro r s hr hs hrs
    match r, hr, s, hs with
    | 0, _, 0, _ => exact absurd rfl hrs
    | 0, _, 1, _ => omega
    | 0, _, 2, _ => omega
    | 1, _, 0, _ => omega
    | 1, _, 1, _ => exact absurd rfl hrs
    | 1, _, 2, _ => omega
    | 2, _, 0, _ => omega
    | 2, _, 1, _ => omega
    | 2, _, 2, _ => exact absurd rfl hrs
  have HGO : Hid (∀ r, r < 3 → w.heap.size ≤ G r ∧ G r < q ∧ G r ≠ b ∧ G r ≠ g ∧ G r ≠ gl) := by
    have h := unhide HO10
    rw [hq] at h
    intro r hr
    match r, hr with
    | 0, _ => omega
    | 1, _ => omega
    | 2, _ => omega
  have HDN : Hid (Done W1 G C n 0 0) := by
    intro r hr
    have f0 : ∀ l : List Nat, (r < 0 → ∀ j, j < n → l.getD j 0 = wX r j) ∧ (r = 0 → ∀ j, j < 0 → l.getD j 0 = wX r j) := fun l => ⟨fun h => by omega, fun _ j hj => by omega⟩
    match r, hr with
    | 0, _ => exact ⟨_, (unhide HA10).kept hka (by simp), f0 _⟩
    | 1, _ => exact ⟨_, (unhide HB10).kept hka (by simp), f0 _⟩
    | 2, _ => exact ⟨_, (unhide HC10).kept hka (by simp), f0 _⟩
  have HS1 := hide ((unhide HS10).quiet hka)
  have HL1 := hide ((unhide HL10).kept hka (by simp))
  have hq' : w10.heap.size = q := hq
  rw [hW1, hq']
  clear hka hqb HS10 HA10 HB10 HC10 HL10 HO10 hW1 hq hq'
  go_loopw [15] (fun s15 wr => ∃ r : Nat, r ≤ 3 ∧ s15 = .int .i64 (r : Int) ∧ Done wr G C n r 0 ∧ Kept [G 0, G 1, G 2] W1 wr) (fun s15 _ => 3 - (intOf s15).toNat)
  case atStart => exact ⟨0, by omega, rfl, unhide HDN, Kept.refl _ _⟩
  case round =>
    obtain ⟨r, hr, rfl, hdn, hkp⟩ := hrel
    clear HDN
    have HDN := hide hdn
    have HKP := hide hkp
    clear hdn hkp
    by_cases hlt : r < 3
    · go_wp2_with fail
      go_loopw [16] (fun s16 wr => ∃ k : Nat, k ≤ n ∧ s16 = .int .i64 (k : Int) ∧ Done wr G C n r k ∧ Kept [G 0, G 1, G 2] W1 wr) (fun s16 _ => n - (intOf s16).toNat)
      case atStart => exact ⟨0, by omega, rfl, unhide HDN, unhide HKP⟩
      case round =>
        obtain ⟨k, hk, rfl, hdn, hkp⟩ := hrel
        clear HDN HKP
        have HDN := hide hdn
        have HKP := hide hkp
        have hqn : q ∉ [G 0, G 1, G 2] := by
          have h0 := unhide HGO 0 (by omega)
          have h1 := unhide HGO 1 (by omega)
          have h2 := unhide HGO 2 (by omega)
          simp; omega
        have c1 := hkp.cell (p := ⟨q, r, none⟩) (unhide HQL) hqn
        rw [unhide HQC r hlt] at c1
        clear hdn hkp hqn
        by_cases hlk : k < n
        · obtain ⟨l, hl, -⟩ := unhide HDN r hlt
          have hst := fun y => hl.store hlk y
          have cc1 := hl.cap
          have HPT := hide ((unhide HDN).put (unhide HSP) hlt hlk)
          have eX : floatOfInt .f64 (-1000 * (r : Int) - (k : Int) - 1) = wX r k := rfl
          clear hl
          go_wp2_with fail
          exact ⟨⟨k + 1, by omega, by simp, unhide HPT, (unhide HKP).setCell (p := ⟨G r, k, none⟩) (Or.inl (in_three hlt)) _⟩, by simp [intOf]; omega⟩
        · obtain rfl : k = n := by omega
          go_wp2_with fail
          exact ⟨⟨r + 1, by omega, by simp, (unhide HDN).next, unhide HKP⟩, by simp [intOf]; omega⟩
    · have hr3 : r = 3 := by omega
      obtain ⟨B, hB⟩ : ∃ B, wr.heap.size = B := ⟨_, rfl⟩
      have HBB := hide hB
      have HMD : Hid (Mid B wr wr G C n 0) := by
        have hun : ∀ s, s < 3 → RowF wr (G s) (C s) n (lX s n) := by
          intro s hs
          obtain ⟨l, h1, h2, -⟩ := unhide HDN s hs
          have e := all_is h1.len (h2 (by omega))
          rw [← e]; exact h1
        refine ⟨fun r hr k hk => ?_, fun r hr _ => hun r hr, fun r hr => by rw [← hB]; exact (hun r hr).lt, by rw [hB]; exact Nat.le_refl _, Kept.refl _ _⟩
        have := (hun r hr).at hk
        rwa [lX_at r hk] at this
      have HCC0 : Hid (∀ r, r < 3 → n ≤ C r) := fun r hr => ((unhide HMD).un r hr (Nat.zero_le _)).cap.1
      obtain ⟨iS, hi, hz0, hz1, hz2⟩ := info_parts infoSf
      have HIS := hide (⟨hi, hz0, hz1, hz2⟩ : _ ∧ _ ∧ _ ∧ _)
      clear hi hz0 hz1 hz2 HDN hB
      have hqn : q ∉ [G 0, G 1, G 2] := by
        have h0 := unhide HGO 0 (by omega)
        have h1 := unhide HGO 1 (by omega)
        have h2 := unhide HGO 2 (by omega)
        simp; omega
      have HQN := hide hqn
      have HQ2 : Hid (∀ W, Kept [G 0, G 1, G 2] wr W → ∀ r, r < 3 → W.cell? ⟨q, r, none⟩ = some (.slice (some ⟨G r, 0, none⟩) n (C r))) := by
        intro W hk r hr
        rw [hk.cell (p := ⟨q, r, none⟩) (Nat.lt_of_lt_of_le (unhide HQL) (unhide HKP).size) (unhide HQN), (unhide HKP).cell (p := ⟨q, r, none⟩) (unhide HQL) (unhide HQN)]
        exact unhide HQC r hr
      have HVS : Hid (Vs B wr G n []) := ⟨fun r v h => by simp at h, fun r s u v h => by simp at h⟩
      have HOG : Hid (wr.ownsRow B 43 1 (.slice none 0 0) 0 []) := World.ownsRow_nil _ _ _ _
      clear hqn hr3
      rename World => W2
      go_wp2_with fail
      go_loopw [17, 18] (fun s17 s18 wr => ∃ vs : List Value, vs.length ≤ 3 ∧ s18 = .int .i64 (vs.length : Int) ∧ wr.ownsRow B 43 1 s17 vs.length vs ∧ Vs B wr G n vs ∧ Mid B W2 wr G C n vs.length) (fun _ s18 _ => 3 - (intOf s18).toNat)
      case atStart => exact ⟨[], by simp, rfl, unhide HOG, unhide HVS, unhide HMD⟩
      case round =>
        obtain ⟨vs, hvs, rfl, hog, hvv, hmd⟩ := hrel
        clear HOG HVS HMD
        obtain ⟨i, hi⟩ : ∃ i, vs.length = i := ⟨_, rfl⟩
        have HVL := hide hi
        rw [hi] at hog hmd hvs ⊢
        obtain ⟨oa, oc, rfl⟩ := own_len hog
        have HOG := hide hog
        have HVV := hide hvv
        have HMD := hide hmd
        clear hi hog hvv hmd
        by_cases hlt : i < 3
        · have c1 := unhide HQ2 _ (unhide HMD).kept i hlt
          have HG0 : Hid (Gr B wr G n i 0 (.slice (some ⟨G i, 0, none⟩) n (C i))) := by
            refine ⟨?_, fun b hb => Or.inl (by cases hb; rfl)⟩
            have h := (unhide HMD).un i hlt (Nat.le_refl _)
            show wr.ownsRow 0 46 1 _ n (flts (lX i n ++ []))
            rw [List.append_nil]; exact h
          have HBS : Hid (Beside vs (.slice (some ⟨G i, 0, none⟩) n (C i))) := by
            have := beside_old (c := C i) (unhide HVV) (unhide HSP) (by rw [unhide HVL]; exact hlt) (unhide HMD).low
            rw [unhide HVL] at this
            exact this
          have HM1 : Hid (Mid B W2 wr G C n (i + 1)) := ⟨(unhide HMD).old, fun r hr h => (unhide HMD).un r hr (by omega), (unhide HMD).low, (unhide HMD).up, (unhide HMD).kept⟩
          clear HMD
          have t3 : ((i : Int) < 3) = True := by simp; omega
          go_wp2_with fail
          go_loopw [19, 20] (fun s19 s20 wr => ∃ j : Nat, j ≤ 80 ∧ s20 = .int .i64 (j : Int) ∧ Gr B wr G n i j s19 ∧ Beside vs s19 ∧ wr.ownsRow B 43 1 (.slice oa i oc) i vs ∧ Vs B wr G n vs ∧ Mid B W2 wr G C n (i + 1)) (fun _ s20 _ => 80 - (intOf s20).toNat)
          case atStart => exact ⟨0, by omega, rfl, unhide HG0, unhide HBS, unhide HOG, unhide HVV, unhide HM1⟩
          case round =>
            obtain ⟨j, hj, rfl, hgr, hbs, hog, hvv, hmd⟩ := hrel
            clear HG0 HBS HOG HVV HM1 c1
            obtain ⟨ax, cx, rfl⟩ := own_len hgr.own
            have HGR := hide hgr
            have HBS := hide hbs
            have HOG := hide hog
            have HVV := hide hvv
            have HM1 := hide hmd
            clear hgr hbs hog hvv hmd
            by_cases hlj : j < 80
            · have eY : floatOfInt .f64 (1000 * (i : Int) + (j : Int) + 7) = wY i j := rfl
              go_wp2_with (first
                | (at_builtin; refine wpList_append_keep _ rfl _ _ 43 46 rfl 0 i0 _ Try.underlying43 (unhide HI).1 (unhide HI).2.1 (unhide HI).2.2.1 (unhide HI).2.2.2 rfl _ _ _ rfl ((unhide HGR).own.alloc _) ⟨wr.heap.size, 0, none⟩ (.float .f64 (wY i j)) rfl rfl (cell_one_new _ _ _) (by omega) (Nat.zero_le _) ?_))
              intro v' w' h1 h2 h3 h4
              obtain ⟨va', vc', rfl⟩ := own_len h1
              have h3' : (Value.slice va' (n + j + 1) vc').ownBlock = (Value.slice ax (n + j) cx).ownBlock ∨ (Value.slice va' (n + j + 1) vc').ownBlock = some (wr.heap.size + 1) := by simpa using h3
              obtain ⟨m1, m2, m3⟩ := mid_grow (unhide HSP) hlt (unhide HBB) (unhide HM1) (unhide HGR) h1 h2 h3' h4
              have HN1 := hide m1
              have HN2 := hide m2
              have HN3 := hide ((unhide HBS).next (unhide HVV) h3')
              have HN4 := hide (own_kept (unhide HOG) m3 (fun k hk hm => own_types (unhide HOG) (unhide HGR).own (by decide) k hk (by simpa using hm)))
              have HN5 := hide ((unhide HVV).kept m3 (fun r u hu b hb hm => unhide HBS r u hu b hb (by simpa using hm)))
              clear h1 h2 h3 h3' h4 m1 m2 m3 HGR HBS HOG HVV HM1
              go_wp2_with fail
              exact ⟨⟨j + 1, by omega, by simp, unhide HN2, unhide HN3, unhide HN4, unhide HN5, unhide HN1⟩, by simp [intOf]; omega⟩
            · obtain rfl : j = 80 := by omega
              go_wp2_with (first
                | (at_builtin; refine wpList_append_own_at _ rfl _ _ 62 rfl B 43 iS _ 1 24 Try.underlying62 (unhide HIS).1 (unhide HIS).2.1 (unhide HIS).2.2.1 (unhide HIS).2.2.2 rfl (by decide) _ _ _ rfl ((unhide HOG).alloc _) ⟨wr.heap.size, 0, none⟩ 1 1 [.slice ax (n + 80) cx] rfl rfl (cell_one_new _ _ _) (by simp [Value.oneCell']) (by unfold maxLen; omega) (by omega) (by have := (unhide HM1).up; simp; omega) ?_))
              intro v' w' h1 h2 h3 h4
              obtain ⟨oa', oc', rfl⟩ := own_len h1
              have hkk : Kept (Value.slice oa i oc).ownBlock.toList wr w' := ((Kept.refl _ wr).alloc _).grown h2 (fun k e => Or.inl (by rw [e]; simp))
              have HO1 := hide h1
              have HN1 := hide ((unhide HM1).grown (unhide HBB) hkk (fun x hx => ((unhide HOG).lt x (by simpa using hx)).1))
              have HN2 := hide ((unhide HGR).kept hkk (fun b hb hm => own_types (unhide HOG) (unhide HGR).own (by decide) b (by simpa using hm) hb))
              have HN5 := hide ((unhide HVV).kept hkk (fun r u hu b hb hm => own_types (unhide HOG) ((unhide HVV).gr r u hu).own (by decide) b (by simpa using hm) hb))
              clear h1 h2 h3 h4 hkk HGR HOG HVV HM1
              go_wp2_with fail
              have hvl := unhide HVL
              subst hvl
              exact ⟨⟨vs ++ [.slice ax (n + 80) cx], by simp; omega, by simp, by rw [List.length_append]; exact unhide HO1, (unhide HN5).push (unhide HN2) (unhide HBS), by rw [List.length_append]; exact unhide HN1⟩, by simp [intOf]; omega⟩
        · have hi3 : i = 3 := by omega
          have t3 : ((i : Int) < 3) = False := by simp; omega
          have HKF : Hid (Kept [G 0, G 1, G 2] W2 wr) := (unhide HMD).kept
          have HVG : Hid (∀ r, r < 3 → ∃ gx cx, vs[r]? = some (.slice (some ⟨gx, 0, none⟩) (n + 80) cx) ∧ n + 80 ≤ cx ∧ wr.cell? ⟨q, r, none⟩ = some (.slice (some ⟨G r, 0, none⟩) n (C r)) ∧ (∀ k, k < n → wr.cell? ⟨gx, k, none⟩ = some (.float .f64 (wX r k))) ∧ (∀ k, k < 80 → wr.cell? ⟨gx, n + k, none⟩ = some (.float .f64 (wY r k)))) := by
            intro r hr
            have hrl : r < vs.length := by rw [unhide HVL]; omega
            have hg := (unhide HVV).gr r vs[r] (List.getElem?_eq_getElem hrl)
            obtain ⟨gx, cx, hv, -, -, hrow⟩ := row_of_own hg.own (by omega)
            refine ⟨gx, cx, by rw [List.getElem?_eq_getElem hrl, hv], hrow.cap.1, unhide HQ2 _ (unhide HKF) r hr, fun k hk => ?_, fun k hk => ?_⟩
            · rw [hrow.at (by omega), getD_app, if_pos (by rw [lX_len]; exact hk), lX_at r hk]
            · rw [hrow.at (by omega), getD_app, if_neg (by rw [lX_len]; omega), lX_len, Nat.add_sub_cancel_left, lY_at r hk]
          have HOL : Hid (∀ r, r < 3 → ∀ k, k < n → wr.cell? ⟨G r, k, none⟩ = some (.float .f64 (wX r k))) := (unhide HMD).old
          obtain ⟨go, hoa, hgo, -⟩ : ∃ go, oa = some ⟨go, 0, none⟩ ∧ B ≤ go ∧ True := by
            rcases (unhide HOG).2 with ⟨e1, e2⟩ | ⟨g', cap', cur, e1, hg', hh, _⟩
            · omega
            · cases e1; exact ⟨g', rfl, hg', trivial⟩
          subst hoa
          have HCG : Hid (∀ r u, vs[r]? = some u → wr.cell? ⟨go, r, none⟩ = some u) := by
            intro r u hu
            have := (unhide HOG).cells (g := go) rfl r u hu
            rwa [add_zero_mid] at this
          have HOC : Hid (3 ≤ oc) := by
            rcases (unhide HOG).2 with ⟨e1, e2⟩ | ⟨g', cap', cur, e1, hg', hh, hc, _⟩
            · cases e1
            · cases e1; unfold Hid; omega
          have HSF : Hid (St w wr b g M' ∧ RowF wr gl cl0 n M'.loads) := by
            have h0 := unhide HGO 0 (by omega)
            have h1 := unhide HGO 1 (by omega)
            have h2 := unhide HGO 2 (by omega)
            have hk := (unhide HKP).trans (unhide HKF) (fun x hx => Or.inl hx)
            have hs := unhide HS1
            refine ⟨⟨hs.mp.kept hk (by simp; omega) (by simp; omega), hs.kept.trans hk (fun x hx => Or.inr ?_), hs.hb, hs.hg⟩, (unhide HL1).kept hk (by simp; omega)⟩
            simp at hx
            omega
          have HCC : Hid (∀ r, r < 3 → n ≤ C r) := HCC0
          clear hi3 HOG HVV HMD HKF HQ2 HQC HQL HQN HSP HBB HI HIS HKP HS1 HL1 HVL hgo HGO
          rename World => W3
          go_wp2_with fail
          go_loopw [21] (fun s21 wr => ∃ r : Nat, r ≤ 3 ∧ s21 = .int .i64 (r : Int) ∧ Quiet W3 wr) (fun s21 _ => 3 - (intOf s21).toNat)
          case atStart => exact ⟨0, by omega, rfl, Quiet.refl _⟩
          case round =>
            obtain ⟨r, hr, rfl, hqt⟩ := hrel
            have HQT := hide hqt
            clear hqt
            by_cases hlr : r < 3
            · have t4 : ((r : Int) < 3) = True := by simp; omega
              obtain ⟨gx, cx, hvr, hcx, hqr, hX, hY⟩ := unhide HVG r hlr
              have hgr := unhide HCG r _ hvr
              have hoc := unhide HOC
              have HX := hide hX
              have HY := hide hY
              have HQR := hide hqr
              have HGR := hide hgr
              clear hX hY hvr hqr hgr
              go_wp2_with fail
              go_loopw [22] (fun s22 wr => ∃ k : Nat, k ≤ n + 80 ∧ s22 = .int .i64 (k : Int) ∧ Quiet W3 wr) (fun s22 _ => n + 80 - (intOf s22).toNat)
              case atStart => exact ⟨0, by omega, rfl, unhide HQT⟩
              case round =>
                obtain ⟨k, hk, rfl, hqt⟩ := hrel
                clear HQT
                have HQT := hide hqt
                have hqr := (hqt.cell ⟨q, r, none⟩).trans (unhide HQR)
                have hgr := (hqt.cell ⟨go, r, none⟩).trans (unhide HGR)
                clear hqt
                have hcc := (unhide HCC) r hlr
                by_cases hkn : k < n
                · have c3 := ((unhide HQT).cell ⟨G r, k, none⟩).trans (unhide HOL r hlr k hkn)
                  have eX : floatOfInt .f64 (-1000 * (r : Int) - (k : Int) - 1) = wX r k := rfl
                  have fX := finX r k hlr (by omega)
                  have t5 : ((k : Int) < (n : Int)) = True := by simp; omega
                  have t6 : ((n : Int) ≤ (k : Int)) = False := by simp; omega
                  generalize wX r k = y at *
                  go_wp2_with fail
                  go_region
                  go_wp2_with fail
                  exact ⟨⟨k + 1, by omega, by simp, (unhide HQT).drew⟩, by simp [intOf]; omega⟩
                · by_cases hk8 : k < n + 80
                  · obtain ⟨j, hj⟩ : ∃ j, k = n + j := ⟨k - n, by omega⟩
                    have c3 := unhide HY j (by omega)
                    rw [← hj] at c3
                    replace c3 := ((unhide HQT).cell ⟨gx, k, none⟩).trans c3
                    have eY : floatOfInt .f64 (1000 * (r : Int) + (k : Int) - (n : Int) + 7) = wY r j := by
                      unfold wY; congr 1; omega
                    have fY := finY r j hlr (by omega)
                    have t5 : ((k : Int) < (n : Int)) = False := by simp; omega
                    have t6 : ((n : Int) ≤ (k : Int)) = True := by simp; omega
                    clear hj
                    generalize wY r j = y at *
                    go_wp2_with fail
                    go_region
                    go_wp2_with fail
                    exact ⟨⟨k + 1, by omega, by simp, (unhide HQT).drew⟩, by simp [intOf]; omega⟩
                  · go_wp2_with fail
                    exact ⟨⟨r + 1, by omega, by simp, unhide HQT⟩, by simp [intOf]; omega⟩
            · have t4 : ((r : Int) < 3) = False := by simp; omega
              have HS9 := hide ((unhide HSF).1.quiet (unhide HQT).kept)
              have HL9 := hide ((unhide HSF).2.kept (unhide HQT).kept (by simp))
              have HRW := hide (row_any (unhide HS9).mp)
              rw [unhide HML] at HRW
              go_wp2_with (first
                | (go_at_call 17; refine (unhide HRW).mono ?_; rintro e w20 ⟨vr, rfl, ho20, hk20⟩; clear HRW; obtain ⟨gr, cr, rfl, -, -, hr20⟩ := row_of_own ho20 n1
                   have HRS := hide (rows_same hr20.sees ((unhide HL9).kept hk20 (by simp)).sees (by rw [unhide HML]; omega) (unhide HGA')); have HKZ := hide ((unhide HS9).kept.trans hk20 (fun x hx => by simp at hx)); clear ho20 hk20 hr20)
                | (go_at_call 21; refine (unhide HRS).mono ?_; rintro e w21 ⟨rfl, hq21⟩; have HKY := hide ((unhide HKZ).trans hq21.kept (fun x hx => by simp at hx)); clear HRS hq21 HKZ))
              go_ret
              exact ⟨rfl, unhide HKY⟩
end Go.Proofs.Ythhgeobfolhpoaa
