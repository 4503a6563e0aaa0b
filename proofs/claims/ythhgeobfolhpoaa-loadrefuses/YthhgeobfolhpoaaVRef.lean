/- LoadRefuses returns true. -/
import Derived.Test.YthhgeobfolhpoaaVEq
import Derived.Deep.DeepCutAuto
namespace Go.Proofs.Ythhgeobfolhpoaa
open Go.RowKit

set_option maxRecDepth 100000 in
set_option maxHeartbeats 4000000 in
theorem refuses_no {w : World} {v : Value} {s h : Int} (hx : ¬ fits s h) (o : OpM) : Calls Try.prog 7 #[.int .i64 s, .int .i64 h, v, .agg (oc o).toArray] w fun e w' => e = .returned (.bool true) ∧ Kept [] w w' := by
  have HKN := hide (fun W => known_any W)
  have HMD := fun W => hide (made_no (w := W) v hx)
  have HFT := fun W => hide (fit_any W s h)
  rw [decide_eq_false hx] at HFT
  have hoc : (oc o).toArray = #[.int .i64 o.kind, .int .i64 o.who, .int .i64 o.shard, .int .i64 o.now, .int .u64 (o.wt : Int)] := rfl
  rw [hoc]
  clear hx hoc
  go_enter Try.func7, Try.ntmps7
  go_wp2_with (first
    | (go_at_call 14; refine (unhide HKN _).mono ?_; rintro e w1 ⟨rfl, hk1⟩; have HK1 := hide (((Kept.refl [] w).alloc _).trans hk1 (fun _ hx => by cases hx)); clear HKN hk1)
    | (go_at_call 15; refine (unhide (HMD _)).mono ?_; rintro e w2 ⟨rfl, hq⟩; have hq' := hq.symm; subst hq')
    | (go_at_call 16; refine (unhide (HFT _)).mono ?_; rintro e w2 ⟨rfl, hq⟩; have hq' := hq.symm; subst hq'; clear HFT))
  go_ret
  exact ⟨rfl, unhide HK1⟩

set_option maxRecDepth 100000 in
set_option maxHeartbeats 20000000 in
theorem refuses_yes {w : World} {v : Value} {os : List OpM} (hv : Ops w v os) {s h : Int} (hx : fits s h) (o : OpM) (ho : o.wt < 18446744073709551616) : Calls Try.prog 7 #[.int .i64 s, .int .i64 h, v, .agg (oc o).toArray] w fun e w' => e = .returned (.bool true) ∧ Kept [] w w' := by
  obtain ⟨W, hW⟩ : ∃ W, W = w.alloc (.cells (oc o).toArray 36) := ⟨_, rfl⟩
  have HW := hide hW
  have hka : Kept [] w W := by rw [hW]; exact (Kept.refl _ _).alloc _
  have hN : Blk W w.heap.size (oc o).toArray 36 := by rw [hW]; exact Blk.new _ _ _
  have HKN := hide (known_any W)
  have HMD := hide (fun W' (hk : Kept [] w W') => made_yes (hv.kept hk) hx)
  have hlen : ((runO (Mt.new s.toNat h.toNat) os).loads.length : Int) = s := by
    rw [run_len]; simp [Mt.new]; unfold fits at hx; omega
  have hMok : (runO (Mt.new s.toNat h.toNat) os).ok := by
    unfold fits at hx
    exact runO_ok (Mt.new_ok (by omega) (by omega) (by omega) (by omega)) os
  generalize hM : runO (Mt.new s.toNat h.toNat) os = M at *
  have HKA := hide hka
  have HNB := hide hN
  have HDC := hide (fun W' (hk : Kept [] W W') => (⟨(hN.kept hk (by simp)).cell 0, (hN.kept hk (by simp)).cell 2, (hN.kept hk (by simp)).cell 3, (hN.kept hk (by simp)).cell 4⟩ : _ ∧ _ ∧ _ ∧ _))
  have hoc : (oc o).toArray = #[.int .i64 o.kind, .int .i64 o.who, .int .i64 o.shard, .int .i64 o.now, .int .u64 (o.wt : Int)] := rfl
  rw [hoc] at hW ⊢
  clear hM hka hN hoc
  go_enter Try.func7, Try.ntmps7
  go_wp2_with fail
  rw [← hW]
  clear hW
  have HF := kf
  go_upto_region 8 with (first
    | (go_at_call 14; refine (unhide HKN).mono ?_; rintro e w1 ⟨rfl, hk1⟩; have HK1 := hide hk1; clear HKN hk1)
    | (go_at_call 15; refine (unhide HMD _ ((unhide HKA).trans (unhide HK1) (fun _ hx => by cases hx))).mono ?_; rintro e w2 ⟨b, g, rfl, hm2, hk2, hb2, hg2⟩; have HS := hide (show St W w2 b g M from ⟨hm2, (unhide HK1).trans hk2 (fun _ hx => by cases hx), Nat.le_trans (unhide HK1).size hb2, Nat.le_trans (unhide HK1).size hg2⟩); clear HK1 hm2 hk2 hb2 hg2)
    | (go_at_call 15; refine (unhide HMD _ ((unhide HKA).trans (unhide HS).kept (fun _ hx => by cases hx))).mono ?_; rintro e w3 ⟨b3, g3, rfl, hm3, hk3, hb3, hg3⟩
       have HA := hide (show b < b3 ∧ b < g3 ∧ g < b3 ∧ g < g3 from ⟨Nat.lt_of_lt_of_le (unhide HS).mp.head.lt hb3, Nat.lt_of_lt_of_le (unhide HS).mp.head.lt hg3, Nat.lt_of_lt_of_le (unhide HS).mp.row.lt hb3, Nat.lt_of_lt_of_le (unhide HS).mp.row.lt hg3⟩)
       have HU := hide (show St W w3 b3 g3 M from ⟨hm3, (unhide HS).kept.trans hk3 (fun _ hx => by cases hx), Nat.le_trans (unhide HS).kept.size hb3, Nat.le_trans (unhide HS).kept.size hg3⟩)
       have HT := hide ((unhide HS).quiet hk3)
       obtain ⟨d0, d2, d3, d4⟩ := unhide HDC _ (unhide HT).kept
       simp [oc] at d0 d2 d3 d4
       clear HMD hm3 hk3 hb3 hg3 HS
       have HS := HT
       clear HT))
  have hwt : ((o.wt : Nat) : Int).toNat = o.wt := by omega
  have HYR := hide (fun hk => yes_right (o := o) hlen hk)
  have HSET := hide (fun W' (hm : Mp W' b g M) => set_any hm o ho)
  have HNS := hide (fun hy => OpM.no_same (o := o) (m := M) hy)
  have HR0 : Hid (w3.rangeAt w.heap.size 0 (oc o)) := fun j v hv => by
    rw [Nat.zero_add, ((unhide HNB).kept (unhide HS).kept (by simp)).cell]; simpa using hv
  have HC0 := hide (show M.goE (M.clock : Int) = 0 by unfold Mt.goE; have := hMok.c; rw [if_neg (by omega), if_neg (by omega)])
  have HOK := hide hMok
  clear hMok hlen HDC HNB
  have HUN := hide (show rgt o M.clock s ↔ ((M.clock : Int) ≤ o.now ∧ o.now ≤ 1099511627776 ∧ (o.kind = 2 ∨ o.kind = 1 ∧ 0 ≤ o.shard ∧ o.shard < s ∧ wok o.wt)) from Iff.rfl)
  obtain ⟨kd, hkd⟩ : ∃ kd, o.kind = kd := ⟨_, rfl⟩
  obtain ⟨sh, hsh⟩ : ∃ sh, o.shard = sh := ⟨_, rfl⟩
  obtain ⟨nw, hnw⟩ : ∃ nw, o.now = nw := ⟨_, rfl⟩
  have HKD := hide hkd
  rw [hkd, hsh, hnw] at HUN
  rw [hkd] at d0
  rw [hsh] at d2
  rw [hnw] at d3
  clear hkd hsh hnw
  generalize hcc : M.clock = c at *
  have HCC := hide hcc
  clear hcc
  go_cut [14] (fun r wc => r = .bool (decide (rgt o c s)) ∧ Hid (wc = w3))
  case first =>
    by_cases h1 : (c : Int) ≤ nw
    · by_cases h2 : nw ≤ 1099511627776
      · by_cases h3 : kd = 2
        · subst h3
          have HE : Hid (rgt o c s) := (unhide HUN).2 ⟨h1, h2, Or.inl rfl⟩
          go_wp2_with fail
          go_meet
          exact ⟨by rw [decide_eq_true (unhide HE)], rfl⟩
        · by_cases h4 : kd = 1
          · subst h4
            by_cases h5 : 0 ≤ sh
            · by_cases h6 : sh < s
              · by_cases h7 : wok o.wt
                · have HE : Hid (rgt o c s) := (unhide HUN).2 ⟨h1, h2, Or.inr ⟨rfl, h5, h6, h7⟩⟩
                  obtain ⟨t1, t2⟩ := ge_wok h7
                  clear h7
                  go_wp2_with fail
                  go_meet
                  exact ⟨by rw [decide_eq_true (unhide HE)], rfl⟩
                · have HE : Hid (¬ rgt o c s) := fun e => by
                    obtain ⟨_, _, e | ⟨_, _, _, e⟩⟩ := (unhide HUN).1 e
                    · exact h3 e
                    · exact h7 e
                  rcases ge_unwok h7 ho with t1 | ⟨t1, t2, -⟩
                  · clear h7
                    go_wp2_with fail
                    go_meet
                    exact ⟨by rw [decide_eq_false (unhide HE)], rfl⟩
                  · clear h7
                    go_wp2_with fail
                    go_meet
                    exact ⟨by rw [decide_eq_false (unhide HE)], rfl⟩
              · have HE : Hid (¬ rgt o c s) := fun e => by
                  obtain ⟨_, _, e | ⟨_, _, e, _⟩⟩ := (unhide HUN).1 e
                  · exact h3 e
                  · exact h6 e
                have t1 : (sh < s) = False := by simp; omega
                clear h6
                go_wp2_with fail
                go_meet
                exact ⟨by rw [decide_eq_false (unhide HE)], rfl⟩
            · have HE : Hid (¬ rgt o c s) := fun e => by
                obtain ⟨_, _, e | ⟨_, e, _, _⟩⟩ := (unhide HUN).1 e
                · exact h3 e
                · exact h5 e
              have t1 : (0 ≤ sh) = False := by simp; omega
              clear h5
              go_wp2_with fail
              go_meet
              exact ⟨by rw [decide_eq_false (unhide HE)], rfl⟩
          · have HE : Hid (¬ rgt o c s) := fun e => by
              obtain ⟨_, _, e | ⟨e, _⟩⟩ := (unhide HUN).1 e
              · exact h3 e
              · exact h4 e
            have t1 : (kd == 2) = false := by simp; exact h3
            have t2 : (kd == 1) = false := by simp; exact h4
            have t3 : (kd = 2) = False := by simp; exact h3
            have t4 : (kd = 1) = False := by simp; exact h4
            clear h3 h4
            go_wp2_with fail
            go_meet
            exact ⟨by rw [decide_eq_false (unhide HE)], rfl⟩
      · have HE : Hid (¬ rgt o c s) := fun e => h2 ((unhide HUN).1 e).2.1
        have t1 : (nw ≤ 1099511627776) = False := by simp; omega
        clear h2
        go_wp2_with fail
        go_meet
        exact ⟨by rw [decide_eq_false (unhide HE)], rfl⟩
    · have HE : Hid (¬ rgt o c s) := fun e => h1 ((unhide HUN).1 e).1
      have t1 : ((c : Int) ≤ nw) = False := by simp; omega
      clear h1
      go_wp2_with fail
      go_meet
      exact ⟨by rw [decide_eq_false (unhide HE)], rfl⟩
  case rest =>
    obtain ⟨rfl, hwc⟩ := hcut
    have hwc' := (unhide hwc).symm
    subst hwc'
    by_cases hk : kd = 1 ∨ kd = 2
    · have HY : Hid (o.yes M = decide (rgt o c s)) := by
        have := unhide HYR (by rw [unhide HKD]; exact hk)
        exact this
      have HST := hide (unhide HSET _ (unhide HS).mp)
      rw [unhide HY] at HST
      have HON : Hid (decide (rgt o c s) = false → o.on M = M) := fun hf => unhide HNS ((unhide HY).trans hf)
      clear HYR HNS HSET HUN
      have HAA := HA
      clear HKD
      rcases hk with rfl | rfl
      · cases hr : decide (rgt o c s) with
        | true =>
          rw [hr] at HST
          clear HON hr
          go_wp2_with (first
          | (guard_target =~ wpList _ _ _ _ _ _; refine wpList_load_mid rfl 36 _ rfl w.heap.size 0 rfl (oc o) _ (unhide HR0) Try.underlying36 rfl sizeOp ?_)
            | (go_at_call 25; refine (unhide HST).mono ?_; rintro e w4 ⟨rfl, hm4, hk4⟩; have HE4 := hide ((unhide HKA).trans ((unhide HS).on hm4 hk4).kept (fun _ hx => by cases hx)); clear HST hm4 hk4))
          go_ret
          exact ⟨rfl, unhide HE4⟩
        | false =>
          rw [hr, unhide HON hr] at HST
          clear HON hr
          go_wp2_with (first
          | (guard_target =~ wpList _ _ _ _ _ _; refine wpList_load_mid rfl 36 _ rfl w.heap.size 0 rfl (oc o) _ (unhide HR0) Try.underlying36 rfl sizeOp ?_)
            | (go_at_call 25; refine (unhide HST).mono ?_; rintro e w4 ⟨rfl, hm4, hk4⟩
               have hs4 := (unhide HS).on hm4 hk4
               have hAA := unhide HA
               have hu4 : St W w4 b3 g3 M := ⟨(unhide HU).mp.kept hk4 (by simp; omega) (by simp; omega), hs4.kept, (unhide HU).hb, (unhide HU).hg⟩
               clear HST hm4 hk4 HS HU hAA
               have HS := hide hs4
               have HU := hide hu4
               have HRW1 := hide (row_any hs4.mp)
               clear hs4 hu4)
            | (go_at_call 17; refine (unhide HRW1).mono ?_; rintro e w5 ⟨v1, rfl, ho1, hk5⟩
               have hs5 := (unhide HS).quiet hk5
               have hu5 := (unhide HU).quiet hk5
               obtain ⟨va, vc, rfl⟩ := own_len ho1
               have HV1 := hide (SeesF.of_own ho1)
               clear HRW1 ho1 hk5 HS HU
               have HS := hide hs5
               have HU := hide hu5
               have HRW2 := hide (row_any hu5.mp)
               clear hs5 hu5)
            | (go_at_call 17; refine (unhide HRW2).mono ?_; rintro e w6 ⟨v2, rfl, ho2, hk6⟩
               have hs6 := (unhide HS).quiet hk6
               have hu6 := (unhide HU).quiet hk6
               obtain ⟨va2, vc2, rfl⟩ := own_len ho2
               have HRS := hide (rows_same ((unhide HV1).keptE hk6) (SeesF.of_own ho2) (by have := (unhide HOK).l2; omega) (fun j => ((unhide HOK).lo j).good))
               clear HRW2 ho2 hk6 HS HU HV1
               have HS := hide hs6
               have HU := hide hu6
               clear hs6 hu6)
            | (go_at_call 21; refine (unhide HRS).mono ?_; rintro e w7 ⟨rfl, hq7⟩
               have hs7 := (unhide HS).quiet hq7.kept
               have hu7 := (unhide HU).quiet hq7.kept
               clear HRS hq7 HS HU
               have HS := hide hs7
               have HU := hide hu7
               have HWV1 := hide (wave_any hs7.mp)
               clear hs7 hu7)
            | (go_at_call 22; refine (unhide HWV1).mono ?_; rintro e w8 ⟨rfl, hk8⟩
               have hs8 := (unhide HS).quiet hk8
               have hu8 := (unhide HU).quiet hk8
               clear HWV1 hk8 HS HU
               have HS := hide hs8
               have HU := hide hu8
               have HWV2 := hide (wave_any hu8.mp)
               clear hs8 hu8)
            | (go_at_call 22; refine (unhide HWV2).mono ?_; rintro e w9 ⟨rfl, hk9⟩
               have hs9 := (unhide HS).quiet hk9
               clear HWV2 hk9 HS HU
               have HS := hide hs9
               have HGO := hide (go_any hs9.mp (M.clock : Int))
               rw [unhide HCC, unhide HC0, Int.natCast_zero] at HGO
               have hweq := fun W' => wave_eq W' (unhide HOK).wi
               have hwgd := guardW
               clear hs9)
            | (go_at_call 18; refine (unhide HGO).mono ?_; rintro e w10 ⟨rfl, hm10, hk10⟩; have HE4 := hide ((unhide HKA).trans ((unhide HS).on hm10 hk10).kept (fun _ hx => by cases hx)); clear HGO hm10 hk10)
            | (go_at_call 11; refine (num_any _ _).mono ?_; rintro e w11 ⟨rfl, hq⟩; have hq' := hq.symm; subst hq'))
          go_ret
          exact ⟨rfl, unhide HE4⟩
      · cases hr : decide (rgt o c s) with
        | true =>
          rw [hr] at HST
          clear HON hr
          go_wp2_with (first
          | (guard_target =~ wpList _ _ _ _ _ _; refine wpList_load_mid rfl 36 _ rfl w.heap.size 0 rfl (oc o) _ (unhide HR0) Try.underlying36 rfl sizeOp ?_)
            | (go_at_call 25; refine (unhide HST).mono ?_; rintro e w4 ⟨rfl, hm4, hk4⟩; have HE4 := hide ((unhide HKA).trans ((unhide HS).on hm4 hk4).kept (fun _ hx => by cases hx)); clear HST hm4 hk4))
          go_ret
          exact ⟨rfl, unhide HE4⟩
        | false =>
          rw [hr, unhide HON hr] at HST
          clear HON hr
          go_wp2_with (first
          | (guard_target =~ wpList _ _ _ _ _ _; refine wpList_load_mid rfl 36 _ rfl w.heap.size 0 rfl (oc o) _ (unhide HR0) Try.underlying36 rfl sizeOp ?_)
            | (go_at_call 25; refine (unhide HST).mono ?_; rintro e w4 ⟨rfl, hm4, hk4⟩
               have hs4 := (unhide HS).on hm4 hk4
               have hAA := unhide HA
               have hu4 : St W w4 b3 g3 M := ⟨(unhide HU).mp.kept hk4 (by simp; omega) (by simp; omega), hs4.kept, (unhide HU).hb, (unhide HU).hg⟩
               clear HST hm4 hk4 HS HU hAA
               have HS := hide hs4
               have HU := hide hu4
               have HRW1 := hide (row_any hs4.mp)
               clear hs4 hu4)
            | (go_at_call 17; refine (unhide HRW1).mono ?_; rintro e w5 ⟨v1, rfl, ho1, hk5⟩
               have hs5 := (unhide HS).quiet hk5
               have hu5 := (unhide HU).quiet hk5
               obtain ⟨va, vc, rfl⟩ := own_len ho1
               have HV1 := hide (SeesF.of_own ho1)
               clear HRW1 ho1 hk5 HS HU
               have HS := hide hs5
               have HU := hide hu5
               have HRW2 := hide (row_any hu5.mp)
               clear hs5 hu5)
            | (go_at_call 17; refine (unhide HRW2).mono ?_; rintro e w6 ⟨v2, rfl, ho2, hk6⟩
               have hs6 := (unhide HS).quiet hk6
               have hu6 := (unhide HU).quiet hk6
               obtain ⟨va2, vc2, rfl⟩ := own_len ho2
               have HRS := hide (rows_same ((unhide HV1).keptE hk6) (SeesF.of_own ho2) (by have := (unhide HOK).l2; omega) (fun j => ((unhide HOK).lo j).good))
               clear HRW2 ho2 hk6 HS HU HV1
               have HS := hide hs6
               have HU := hide hu6
               clear hs6 hu6)
            | (go_at_call 21; refine (unhide HRS).mono ?_; rintro e w7 ⟨rfl, hq7⟩
               have hs7 := (unhide HS).quiet hq7.kept
               have hu7 := (unhide HU).quiet hq7.kept
               clear HRS hq7 HS HU
               have HS := hide hs7
               have HU := hide hu7
               have HWV1 := hide (wave_any hs7.mp)
               clear hs7 hu7)
            | (go_at_call 22; refine (unhide HWV1).mono ?_; rintro e w8 ⟨rfl, hk8⟩
               have hs8 := (unhide HS).quiet hk8
               have hu8 := (unhide HU).quiet hk8
               clear HWV1 hk8 HS HU
               have HS := hide hs8
               have HU := hide hu8
               have HWV2 := hide (wave_any hu8.mp)
               clear hs8 hu8)
            | (go_at_call 22; refine (unhide HWV2).mono ?_; rintro e w9 ⟨rfl, hk9⟩
               have hs9 := (unhide HS).quiet hk9
               clear HWV2 hk9 HS HU
               have HS := hide hs9
               have HGO := hide (go_any hs9.mp (M.clock : Int))
               rw [unhide HCC, unhide HC0, Int.natCast_zero] at HGO
               have hweq := fun W' => wave_eq W' (unhide HOK).wi
               have hwgd := guardW
               clear hs9)
            | (go_at_call 18; refine (unhide HGO).mono ?_; rintro e w10 ⟨rfl, hm10, hk10⟩; have HE4 := hide ((unhide HKA).trans ((unhide HS).on hm10 hk10).kept (fun _ hx => by cases hx)); clear HGO hm10 hk10)
            | (go_at_call 11; refine (num_any _ _).mono ?_; rintro e w11 ⟨rfl, hq⟩; have hq' := hq.symm; subst hq'))
          go_ret
          exact ⟨rfl, unhide HE4⟩
    · have t1 : (kd == 1) = false := by simp; omega
      have t2 : (kd == 2) = false := by simp; omega
      have t3 : (kd = 1) = False := by simp; omega
      have t4 : (kd = 2) = False := by simp; omega
      have u1 : (kd != 1) = true := by simp; omega
      have u2 : (kd != 2) = true := by simp; omega
      have HKE := hide ((unhide HKA).trans (unhide HS).kept (fun _ hx => by cases hx))
      clear hk HYR HNS HSET HUN
      go_wp2_with fail
      go_ret
      exact ⟨rfl, unhide HKE⟩
end Go.Proofs.Ythhgeobfolhpoaa
