/- LoadHalves returns true. -/
import Derived.Test.YthhgeobfolhpoaaVHalP
import Derived.Deep.DeepCutAuto
namespace Go.Proofs.Ythhgeobfolhpoaa
open Go.RowKit

set_option maxRecDepth 100000 in
set_option maxHeartbeats 4000000 in
theorem halves_no {w : World} {v : Value} {s h : Int} (hx : ¬ fits s h) (li mo : Int) : Calls Try.prog 4 #[.int .i64 s, .int .i64 h, v, .int .i64 li, .int .i64 mo] w fun e w' => e = .returned (.bool true) ∧ Kept [] w w' := by
  have HKN := hide (fun W => known_any W)
  have HMD := fun W => hide (made_no (w := W) v hx)
  have HFT := fun W => hide (fit_any W s h)
  rw [decide_eq_false hx] at HFT
  clear hx
  go_enter Try.func4, Try.ntmps4
  go_wp2_with (first
    | (go_at_call 14; refine (unhide HKN _).mono ?_; rintro e w1 ⟨rfl, hk1⟩; have HK1 := hide hk1; clear HKN hk1)
    | (go_at_call 15; refine (unhide (HMD _)).mono ?_; rintro e w2 ⟨rfl, hq⟩; have hq' := hq.symm; subst hq')
    | (go_at_call 16; refine (unhide (HFT _)).mono ?_; rintro e w2 ⟨rfl, hq⟩; have hq' := hq.symm; subst hq'; clear HFT))
  go_ret
  exact ⟨rfl, unhide HK1⟩

theorem hlfN_end {x j q : Nat} (hj : j ≤ q) (h : ¬ 0 < hlfN x j) : hlfN x j = hlfN x q := by
  obtain ⟨d, rfl⟩ : ∃ d, q = j + d := ⟨q - j, by omega⟩
  rw [← hlfN_add, hlfN_stop h]
theorem hlfN_step (x j : Nat) : hlfN x (j + 1) = hlf (hlfN x j) := by rw [← hlfN_add]; rfl
theorem onGo_eq {m : Mt} {t : Nat} (h1 : t ≤ 1099511627776) (h2 : m.clock ≤ t) : m.goE (t : Int) = 0 ∧ m.onGo (t : Int) = m.go t := by
  have e : m.goE (t : Int) = 0 := by unfold Mt.goE; rw [if_neg (by omega), if_neg (by omega)]
  exact ⟨e, by unfold Mt.onGo; rw [if_pos e, Int.toNat_natCast]⟩
set_option maxRecDepth 100000 in
set_option maxHeartbeats 20000000 in
theorem halves_yes {w : World} {v : Value} {os : List OpM} (hv : Ops w v os) {n0 hf : Nat} (hx : fits (n0 : Int) (hf : Int)) (li mo : Int) : Calls Try.prog 4 #[.int .i64 (n0 : Int), .int .i64 (hf : Int), v, .int .i64 li, .int .i64 mo] w fun e w' => e = .returned (.bool true) ∧ Kept [] w w' := by
  have HKN := hide (known_any w)
  have HMD := hide (fun W' (hk : Kept [] w W') => made_yes (hv.kept hk) hx)
  have HFT := fun W => hide (fit_any W (n0 : Int) (hf : Int))
  rw [decide_eq_true hx] at HFT
  have HP1 := fun W => hide (place_any W li 2300 (by omega) (by omega))
  have HP2 := fun W => hide (place_any W mo 40 (by omega) (by omega))
  unfold fits at hx
  have hlen : (runO (Mt.new (n0 : Int).toNat (hf : Int).toNat) os).loads.length = n0 := by
    rw [run_len]; simp [Mt.new]
  have hhalf : ∀ (l : List OpM) (m : Mt), (runO m l).half = m.half := by
    intro l
    induction l with
    | nil => intro m; rfl
    | cons o r ih =>
      intro m
      show (runO (o.on m) r).half = _
      rw [ih]
      unfold OpM.on
      split
      · unfold Mt.onHit; split <;> rfl
      · split
        · unfold Mt.onGo; split <;> rfl
        · rfl
  have hhf : (runO (Mt.new (n0 : Int).toNat (hf : Int).toNat) os).half = hf := by rw [hhalf]; simp [Mt.new]
  have hMok : (runO (Mt.new (n0 : Int).toNat (hf : Int).toNat) os).ok := runO_ok (Mt.new_ok (by omega) (by omega) (by omega) (by omega)) os
  have hn0 : n0 ≤ 64 := by omega
  have hf0 : hf ≤ 1048576 := by omega
  generalize hM : runO (Mt.new (n0 : Int).toNat (hf : Int).toNat) os = M at *
  have HHF := hide hhf
  have HLN := hide hlen
  have HOK := hide hMok
  have hcl := hMok.c
  clear hM hhalf hhf hlen hMok hx hv
  go_enter Try.func4, Try.ntmps4
  go_wp2_with (first
    | (go_at_call 14; refine (unhide HKN).mono ?_; rintro e w1 ⟨rfl, hk1⟩; have HK1 := hide hk1; clear HKN hk1)
    | (go_at_call 15; refine (unhide HMD _ (unhide HK1)).mono ?_; rintro e w2 ⟨b, g, rfl, hm2, hk2, hb2, hg2⟩; have HS := hide (show St w w2 b g M from ⟨hm2, (unhide HK1).trans hk2 (fun _ hx => by cases hx), Nat.le_trans (unhide HK1).size hb2, Nat.le_trans (unhide HK1).size hg2⟩); clear HK1 hm2 hk2 hb2 hg2)
    | (go_at_call 15; refine (unhide HMD _ (unhide HS).kept).mono ?_; rintro e w3 ⟨b3, g3, rfl, hm3, hk3, hb3, hg3⟩
       have HA := hide (show b < b3 ∧ b < g3 ∧ g < b3 ∧ g < g3 from ⟨Nat.lt_of_lt_of_le (unhide HS).mp.head.lt hb3, Nat.lt_of_lt_of_le (unhide HS).mp.head.lt hg3, Nat.lt_of_lt_of_le (unhide HS).mp.row.lt hb3, Nat.lt_of_lt_of_le (unhide HS).mp.row.lt hg3⟩)
       have HU := hide (show St w w3 b3 g3 M from ⟨hm3, (unhide HS).kept.trans hk3 (fun _ hx => by cases hx), Nat.le_trans (unhide HS).kept.size hb3, Nat.le_trans (unhide HS).kept.size hg3⟩)
       have HT := hide ((unhide HS).quiet hk3)
       clear HMD hm3 hk3 hb3 hg3 HS
       have HS := HT
       clear HT)
    | (go_at_call 16; refine (unhide (HFT _)).mono ?_; rintro e w4 ⟨rfl, hq⟩; have hq' := hq.symm; subst hq'; clear HFT)
    | (go_at_call 12; refine (unhide (HP1 _)).mono ?_; rintro e w4 ⟨⟨q1, hq1, rfl⟩, hq⟩; have hq' := hq.symm; subst hq'; clear HP1)
    | (go_at_call 12; refine (unhide (HP2 _)).mono ?_; rintro e w4 ⟨⟨q2, hq2, rfl⟩, hq⟩; have hq' := hq.symm; subst hq'; clear HP2
       obtain ⟨P1, hP1⟩ : ∃ P1, hf * q1 = P1 := ⟨_, rfl⟩
       obtain ⟨P2, hP2⟩ : ∃ P2, hf * (q1 + q2) = P2 := ⟨_, rfl⟩
       have hb1 : P1 ≤ P2 := by rw [← hP1, ← hP2]; exact Nat.mul_le_mul_left _ (by omega)
       have hb2 : P2 ≤ 1048576 * 2340 := by rw [← hP2]; exact Nat.mul_le_mul hf0 (by omega)
       have hm1 : IntKind.i64.wrap ((hf : Int) * (q1 : Int)) = (P1 : Int) := by rw [← Int.natCast_mul, hP1, IntKind.wrap_i64]; omega
       have hm2 : IntKind.i64.wrap ((hf : Int) * ((q1 : Int) + (q2 : Int))) = (P2 : Int) := by rw [← Int.natCast_add, ← Int.natCast_mul, hP2, IntKind.wrap_i64]; omega
       have HP := hide (show hf * q1 = P1 ∧ hf * (q1 + q2) = P2 from ⟨hP1, hP2⟩)
       have HRW1 := hide (row_any (unhide HS).mp)
       rw [unhide HLN] at HRW1
       clear hP1 hP2)
    | (go_at_call 17; refine (unhide HRW1).mono ?_; rintro e w5 ⟨v1, rfl, ho1, hk5⟩
       have hs5 := (unhide HS).quiet hk5
       have hu5 := (unhide HU).quiet hk5
       have hnum : M.clock + P1 ≤ 1099511627776 := by omega
       have hnum2 : M.clock + P2 ≤ 1099511627776 := by omega
       have HNU := hide (⟨hnum, hnum2⟩ : _ ∧ _)
       have hv1 : SeesF w5 v1 M.loads := SeesF.of_own (by rw [unhide HLN]; exact ho1)
       obtain ⟨va, vc, rfl⟩ := own_len ho1
       have HV1 := hide hv1
       have HVB : Hid (∀ k, (Value.slice va n0 vc).ownBlock = some k → k ∉ [b, g] ∧ k < w5.heap.size) := fun k hk => by
         have h1 := ho1.lt k hk
         have h2 := (unhide HS).mp.head.lt
         have h3 := (unhide HS).mp.row.lt
         exact ⟨by simp; omega, h1.2⟩
       have hgo := go_any hs5.mp ((M.clock + P1 : Nat) : Int)
       obtain ⟨hg0, hg1⟩ := onGo_eq (m := M) hnum (by omega)
       rw [hg0, hg1, Int.natCast_zero, Int.natCast_add] at hgo
       have HGO1 := hide hgo
       clear HRW1 ho1 hk5 HS HU hnum hnum2 hv1 hgo hg0 hg1
       have HS := hide hs5
       have HU := hide hu5
       clear hs5 hu5)
    | (go_at_call 18; refine (unhide HGO1).mono ?_; rintro e w6 ⟨rfl, hm6, hk6⟩
       have hs6 := (unhide HS).on hm6 hk6
       have hAA := unhide HA
       have hu6 : St w w6 b3 g3 M := ⟨(unhide HU).mp.kept hk6 (by simp; omega) (by simp; omega), hs6.kept, (unhide HU).hb, (unhide HU).hg⟩
       have HV2 := hide ((unhide HV1).kept hk6 (Or.inr fun k hk => (unhide HVB k hk).1))
       clear HGO1 hm6 hk6 HS HU hAA HV1
       have HS := hide hs6
       have HU := hide hu6
       clear hs6 hu6)
    | (go_at_call 11; refine (num_any _ _).mono ?_; rintro e w7 ⟨rfl, hq⟩; have hq' := hq.symm; subst hq'))
  all_goals first
    | (go_ret; exact ⟨rfl, (unhide HS).kept⟩)
    | skip
  have HM1 : Hid (∀ k : Nat, k < n0 → (M.go (M.clock + P1)).of (k : Int) = hlfN (M.loads.getD k 0) q1) := fun k hk => by
    have ha := age_whole (unhide HOK) q1
    rw [unhide HHF, (unhide HP).1] at ha
    obtain ⟨l1, -, -, -⟩ := go_of (m := M) q1 ha
    unfold Mt.of
    rw [Mt.go_len, unhide HLN, if_neg (by omega), l1, Int.toNat_natCast]
    exact getD_map _ (hlfN · q1) (hlfN_zero q1) k
  have HLO : Hid (∀ k, low (M.loads.getD k 0)) := (unhide HOK).lo
  have HM2 : Hid ((M.go (M.clock + P1)).go (M.clock + P2) = M.go (M.clock + P2)) := by
    have := two_goes (unhide HOK) q1 q2
    rw [unhide HHF, (unhide HP).1, (unhide HP).2] at this
    exact this
  have hnu := unhide HNU
  have HG2 := hide (fun W (hm : Mp W b g (M.go (M.clock + P1))) => by
    have h1 := go_any hm ((M.clock + P2 : Nat) : Int)
    obtain ⟨e0, e1⟩ := onGo_eq (m := M.go (M.clock + P1)) (t := M.clock + P2) hnu.2 (show M.clock + P1 ≤ M.clock + P2 by omega)
    rw [e0, e1, unhide HM2, Int.natCast_zero, Int.natCast_add] at h1
    exact h1)
  have HG3 := hide (fun W (hm : Mp W b3 g3 M) => by
    have h1 := go_any hm ((M.clock + P2 : Nat) : Int)
    obtain ⟨e0, e1⟩ := onGo_eq (m := M) (t := M.clock + P2) hnu.2 (by omega)
    rw [e0, e1, Int.natCast_zero, Int.natCast_add] at h1
    exact h1)
  have HOK2 := hide (Mt.go_ok (unhide HOK) hnu.2)
  have hbd : M.clock + P2 ≤ 1099511627776 := hnu.2
  clear hnu hcl
  go_loopw [16] (fun i wr => ∃ k : Nat, k ≤ n0 ∧ i = .int .i64 (k : Int) ∧ Quiet w6 wr) (fun i _ => n0 - (intOf i).toNat)
  case atStart => exact ⟨0, by omega, rfl, Quiet.refl _⟩
  case round =>
    obtain ⟨k, hk, rfl, hq⟩ := hrel
    have HQ := hide hq
    by_cases hlt : k < n0
    · obtain ⟨pa, pcp, hvv, -, -, h4⟩ := (unhide HV2).kept hq.kept (Or.inr (by simp))
      have e1 : va = pa := by cases hvv; rfl
      subst e1
      obtain ⟨bb, oo, e2, hc⟩ := at_flt (k := k) rfl h4 (by rw [unhide HLN]; exact hlt)
      subst e2
      have hx := unhide HLO k
      have HO1 := hide (fun W (hq2 : Quiet wr W) => of_any ((unhide HS).mp.quiet (hq.trans hq2)) (k : Int))
      rw [unhide HM1 k hlt] at HO1
      have HLI := fun W => hide (like_same W (hlfN_low q1 hx).good)
      clear hq h4 hvv HM1 HLO
      generalize M.loads.getD k 0 = x at *
      go_wp2_with fail
      go_loop [17, 18] (fun vv jj => ∃ j : Nat, j ≤ q1 ∧ vv = .float .f64 (hlfN x j) ∧ jj = .int .i64 (j : Int)) (fun _ jj => q1 - (intOf jj).toNat)
      case atStart => exact ⟨0, by omega, rfl, rfl⟩
      case round =>
        obtain ⟨j, hj, rfl, rfl⟩ := hrel
        have hlj := hlfN_low j hx
        have hp := pos_low hlj
        by_cases hjq : j < q1
        · by_cases hy0 : 0 < hlfN x j
          · rw [decide_eq_true hy0] at hp
            obtain ⟨hm, -⟩ := hlf_eq hlj
            rw [← hlfN_step] at hm
            clear hlj hy0 hx HO1 HLI
            generalize hlfN x j = y at *
            generalize hzz : hlfN x (j + 1) = z at *
            have HZ := hide hzz
            clear hzz
            have hrun : ∀ t w, (binOp .mul t (.float .f64 y) (.float .f64 4602678819172646912)).run Try.prog w = .ok (.float .f64 z) w := fun t w => run_float_arith w .mul t .f64 _ _ _ hm
            clear hm
            go_wp2_with fail
            exact ⟨⟨j + 1, by omega, by rw [unhide HZ], by simp⟩, by simp [intOf]; omega⟩
          · rw [decide_eq_false hy0] at hp
            rw [← hlfN_end hj hy0] at HO1 HLI
            clear hlj hy0 hx
            generalize hlfN x j = y at *
            go_wp2_with (first
              | (go_at_call 20; refine (unhide HO1 _ (by first | exact Quiet.refl _ | exact (Quiet.refl _).drew)).mono ?_; rintro e w8 ⟨rfl, hq⟩; have hq' := hq.symm; subst hq'; clear HO1)
              | (go_at_call 19; refine (unhide (HLI _)).mono ?_; rintro e w8 ⟨rfl, hq⟩; have hq' := hq.symm; subst hq'; clear HLI))
            exact ⟨⟨k + 1, by omega, by simp, by first | exact unhide HQ | exact (unhide HQ).drew⟩, by simp [intOf]; omega⟩
        · obtain rfl : j = q1 := by omega
          clear hlj hx hp
          generalize hlfN x j = y at *
          go_wp2_with (first
            | (go_at_call 20; refine (unhide HO1 _ (by first | exact Quiet.refl _ | exact (Quiet.refl _).drew)).mono ?_; rintro e w8 ⟨rfl, hq⟩; have hq' := hq.symm; subst hq'; clear HO1)
            | (go_at_call 19; refine (unhide (HLI _)).mono ?_; rintro e w8 ⟨rfl, hq⟩; have hq' := hq.symm; subst hq'; clear HLI))
          exact ⟨⟨k + 1, by omega, by simp, by first | exact unhide HQ | exact (unhide HQ).drew⟩, by simp [intOf]; omega⟩
    · have hs8 := (unhide HS).quiet hq.kept
      have hu8 := (unhide HU).quiet hq.kept
      clear HS HU hq HM1 HLO HV2 HVB
      have HS := hide hs8
      have HU := hide hu8
      have HGA := hide (unhide HG2 _ hs8.mp)
      have hkn : k = n0 := by omega
      subst hkn
      clear hs8 hu8 HG2 HQ
      generalize M.go (M.clock + P2) = M2 at *
      go_wp2_with (first
        | (go_at_call 18; refine (unhide HGA).mono ?_; rintro e w8 ⟨rfl, hm8, hk8⟩
           have hs9 := (unhide HS).on hm8 hk8
           have hAA := unhide HA
           have hu9 : St w w8 b3 g3 M := ⟨(unhide HU).mp.kept hk8 (by simp; omega) (by simp; omega), hs9.kept, (unhide HU).hb, (unhide HU).hg⟩
           clear HGA hm8 hk8 HS HU hAA
           have HS := hide hs9
           have HU := hide hu9
           have HGB := hide (unhide HG3 _ hu9.mp)
           clear hs9 hu9 HG3)
        | (go_at_call 18; refine (unhide HGB).mono ?_; rintro e w9 ⟨rfl, hm9, hk9⟩
           have hu10 := (unhide HU).on hm9 hk9
           have hAA := unhide HA
           have hs10 : St w w9 b g M2 := ⟨(unhide HS).mp.kept hk9 (by simp; omega) (by simp; omega), hu10.kept, (unhide HS).hb, (unhide HS).hg⟩
           clear HGB hm9 hk9 HS HU hAA
           have HS := hide hs10
           have HU := hide hu10
           have HRW1 := hide (row_any hs10.mp)
           clear hs10 hu10)
        | (go_at_call 11; refine (num_any _ _).mono ?_; rintro e w7 ⟨rfl, hq⟩; have hq' := hq.symm; subst hq')
        | (go_at_call 17; refine (unhide HRW1).mono ?_; rintro e x5 ⟨v1, rfl, ho1, hk5⟩
           have hs5 := (unhide HS).quiet hk5
           have hu5 := (unhide HU).quiet hk5
           obtain ⟨va1, vc1, rfl⟩ := own_len ho1
           have HV1 := hide (SeesF.of_own ho1)
           clear HRW1 ho1 hk5 HS HU
           have HS := hide hs5
           have HU := hide hu5
           have HRW2 := hide (row_any hu5.mp)
           clear hs5 hu5)
        | (go_at_call 17; refine (unhide HRW2).mono ?_; rintro e x6 ⟨v2, rfl, ho2, hk6⟩
           have hs6 := (unhide HS).quiet hk6
           have hu6 := (unhide HU).quiet hk6
           obtain ⟨va2, vc2, rfl⟩ := own_len ho2
           have HRS := hide (rows_same ((unhide HV1).keptE hk6) (SeesF.of_own ho2) (by have := (unhide HOK2).l2; omega) (fun j => ((unhide HOK2).lo j).good))
           clear HRW2 ho2 hk6 HS HU HV1
           have HS := hide hs6
           have HU := hide hu6
           clear hs6 hu6)
        | (go_at_call 21; refine (unhide HRS).mono ?_; rintro e x7 ⟨rfl, hq7⟩
           have hs7 := (unhide HS).quiet hq7.kept
           have hu7 := (unhide HU).quiet hq7.kept
           clear HRS hq7 HS HU
           have HS := hide hs7
           have HU := hide hu7
           have HWV1 := hide (wave_any hs7.mp)
           clear hs7 hu7)
        | (go_at_call 22; refine (unhide HWV1).mono ?_; rintro e x8 ⟨rfl, hk8⟩
           have hs8 := (unhide HS).quiet hk8
           have hu8 := (unhide HU).quiet hk8
           clear HWV1 hk8 HS HU
           have HS := hide hs8
           have HU := hide hu8
           have HWV2 := hide (wave_any hu8.mp)
           clear hs8 hu8)
        | (go_at_call 22; refine (unhide HWV2).mono ?_; rintro e x9 ⟨rfl, hk9⟩
           have hs9 := (unhide HS).quiet hk9
           have hu9 := (unhide HU).quiet hk9
           clear HWV2 hk9 HS HU
           have HS := hide hs9
           have HU := hide hu9
           have HSP1 := hide (spread_any hs9.mp)
           have HSP2 := hide (spread_any hu9.mp)
           have HLK := hide (like_same x9 (Mt.spread_good (unhide HOK2)))
           have hweq := fun W' => wave_eq W' (unhide HOK2).wi
           have hwgd := guardW
           clear hs9 hu9)
        | (go_at_call 23; refine (unhide HSP1).mono ?_; rintro e x10 ⟨rfl, hq⟩; have hq' := hq.symm; subst hq'; clear HSP1)
        | (go_at_call 23; refine (unhide HSP2).mono ?_; rintro e x10 ⟨rfl, hq⟩; have hq' := hq.symm; subst hq'; clear HSP2)
        | (go_at_call 19; refine (unhide HLK).mono ?_; rintro e x10 ⟨rfl, hq⟩; have hq' := hq.symm; subst hq'; clear HLK))
      go_ret
      exact ⟨rfl, (unhide HS).kept⟩
end Go.Proofs.Ythhgeobfolhpoaa
