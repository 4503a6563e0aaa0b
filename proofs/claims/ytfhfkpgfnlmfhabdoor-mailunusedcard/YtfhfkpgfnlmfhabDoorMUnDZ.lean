/- MailUnused, by fields. -/
import Derived.Test.YtfhfkpgfnlmfhabDoorPkBE
import Derived.Deep.RegionWith
namespace Go.Proofs.YtfhfkpgfnlmfhabDoor
open Go.RowKit

set_option maxRecDepth 100000 in
set_option maxHeartbeats 6400000 in
theorem un9 (w : World) (p : Ml) (l : Lm) (ht : Tab w) (hm : MW w p l) (hs : snd p = true) : Calls Tryd.prog 3 #[mv p l, .int .i64 9] w fun e w' => e = .returned (.bool true) ∧ Kept [] w w' := by
  have HT := hide (fun W (k : Kept [] w W) => ht.kept k (by simp))
  have HM := hide (fun W (k : Kept [] w W) => hm.kept k)
  have HS := hide hs
  clear ht hm hs
  unfold mv
  go_enter Tryd.func3, Tryd.ntmps3
  go_upto_region 1 with fail
  refine world_at (R := fun X => Blk X w.heap.size (mcc p l) 30 ∧ Kept [] w X) ⟨Blk.new _ _ _, (Kept.refl [] w).alloc _⟩ ?_
  rintro X ⟨hb, hk⟩
  have HB := hide hb
  have HK := hide hk
  clear hb hk
  go_upto_region 6 with (first
    | (go_at_call 5; refine (awake_any _ (unhide HT _ (unhide HK))).mono ?_; rintro e w1 ⟨rfl, k1⟩; have HB1 := hide ((unhide HB).kept k1 (by simp)); have HK1 := hide ((unhide HK).step k1); clear k1 HB HK)
    | (refine wpList_load_guard 30 _ rfl _ rfl 30 _ (0, 0) _ (unhide HB1) Tryd.underlying30 rfl infoMail rfl ?_)
    | (go_at_call 6; refine (enc_good (unhide HT _ (unhide HK1)) (unhide HM _ (unhide HK1)) (unhide HS)).mono ?_; rintro e w2 ⟨ea, ec, rfl, -, k2⟩; have HK2 := hide ((unhide HK1).step k2); have HB2 := hide ((unhide HB1).kept k2 (by simp)); clear k2 HB1 HK1))
  obtain ⟨c0, c1, c2, c3, c4, c5, c6, c7, c8, c9, c10, c11, c12, c13, c14, c15, c16, c17, c18, c19⟩ := box20 (unhide HB2)
  have d0 : w2.drew.cell? ⟨w.heap.size, 0, none⟩ = some (.int .i64 p.kind) := c0
  obtain ⟨b1, h1⟩ : ∃ b, (p.kind == 1) = b := ⟨_, rfl⟩
  obtain ⟨b2, h2⟩ : ∃ b, (p.kind == 2) = b := ⟨_, rfl⟩
  obtain ⟨b3, h3⟩ : ∃ b, (p.kind == 3) = b := ⟨_, rfl⟩
  go_cut [7, 8, 9] (fun t7 t8 t9 wc => ∃ Z, Z = wc ∧ t7 = .bool b1 ∧ t8 = .bool b2 ∧ t9 = .bool b3 ∧ Hid (Kept [] w2 Z))
  case first =>
    go_region
    all_goals
      go_wp2_with fail
      go_meet
      exact ⟨_, rfl, by rw [← h1], by rw [← h2], by rw [← h3], hide (Kept.refl [] w2).drew⟩
  case rest =>
    obtain ⟨Z, rfl, rfl, rfl, rfl, hz⟩ := hcut
    have HBZ := hide ((unhide HB2).kept (unhide hz) (by simp))
    have HKZ := hide ((unhide HK2).step (unhide hz))
    clear HB2 HK2 hz c0 c1 c2 c3 c4 c5 c6 c7 c8 c9 c10 c11 c12 c13 c14 c15 c16 c17 c18 c19 d0
    have H1 := hide h1
    have H2 := hide h2
    have H3 := hide h3
    clear h1 h2 h3
    obtain ⟨-, -, -, -, -, -, -, -, -, -, -, -, -, c13, -, -, -, -, -, -⟩ := box20 (unhide HBZ)
    obtain ⟨b4, h4⟩ : ∃ b, (b2 && (p.verd == 0)) = b := ⟨_, rfl⟩
    obtain ⟨b5, h5⟩ : ∃ b, (b2 && ((p.verd == 220) || (p.verd == 221))) = b := ⟨_, rfl⟩
    have H4 := hide h4
    have H5 := hide h5
    clear h4 h5
    go_upto_region 7 with fail
    go_cut [10] (fun t wc => Z = wc ∧ t = .bool b4)
    case first =>
      cases b2 with
      | true =>
        go_wp2_with fail
        go_meet
        exact ⟨rfl, by rw [← unhide H4]; simp⟩
      | false =>
        go_wp2_with fail
        go_meet
        exact ⟨rfl, by rw [← unhide H4]; simp⟩
    case rest =>
      obtain ⟨hz, rfl⟩ := hcut
      subst hz
      go_upto_region 8 with fail
      go_cut [11] (fun t wc => Z = wc ∧ t = .bool b5)
      case first =>
        cases b2 with
        | true =>
          by_cases hv : p.verd = 220
          · have hv2 : (p.verd == 220) = true := by simp [hv]
            go_wp2_with fail
            go_meet
            exact ⟨rfl, by rw [← unhide H5]; simp [hv]⟩
          · have hv2 : (p.verd == 220) = false := by simp [hv]
            go_wp2_with fail
            go_meet
            exact ⟨rfl, by rw [← unhide H5]; simp [hv]⟩
        | false =>
          go_wp2_with fail
          go_meet
          exact ⟨rfl, by rw [← unhide H5]; simp⟩
      case rest =>
        obtain ⟨hz, rfl⟩ := hcut
        subst hz
        clear c13
        go_upto_region 10 with fail
        go_cut [52] (fun t wc => Z = wc ∧ t = .int .i64 9)
        case first =>
          go_wp2_with fail
          go_meet
          exact ⟨rfl, rfl⟩
        case rest =>
          obtain ⟨hz, rfl⟩ := hcut
          subst hz
          rename_i KA hA KB hB
          refine hB _ _ ?_
          go_cut [12] (fun t wc => ∃ (Y : World) (p' : Ml) (l' : Lm) (u : Bool), Y = wc ∧ t = .bool u ∧ Hid (UnI w p' l' u Y))
          case first =>
            obtain ⟨c0, c1, c2, c3, c4, c5, c6, c7, c8, c9, c10, c11, c12, c13, c14, c15, c16, c17, c18, c19⟩ := box20 (unhide HBZ)
            have z0 := (unhide HBZ).frozen
            have HFR := hide z0
            clear z0
            have f13 := unhide HFR 13
            go_wp2_with fail
            go_meet
            have kz := ((unhide HKZ).setCell (p := ⟨w.heap.size, 13, none⟩) (Or.inr (Nat.le_refl _)) (.int .i64 221))
            refine ⟨_, setF p 9, l, unB p 9, rfl, ?_, hide ⟨(Blk.set (unhide HBZ) 13 (.int .i64 221)), MW.num (unhide HM _ kz) 9 (by omega), fun h => unused_no (unhide HS) 9 h, kz⟩⟩
            · (have g1 := unhide H1; have g2 := unhide H2; have g3 := unhide H3; have g4 := unhide H4; have g5 := unhide H5; simp_all [unB])
          case rest =>
            obtain ⟨Y, p', l', u, rfl, rfl, HU⟩ := hcut
            cases hs2 : snd p' with
            | true =>
              have hu : u = false := by
                cases u with
                | false => rfl
                | true => have := (unhide HU).no rfl; rw [hs2] at this; cases this
              subst hu
              have HS2 := hide hs2
              go_wp2_with (first
                | (refine wpList_load_guard 30 _ rfl _ rfl 30 _ (0, 0) _ (unhide HU).blk Tryd.underlying30 rfl infoMail rfl ?_)
                | (go_at_call 6; refine (enc_good (unhide HT _ (unhide HU).kept) (unhide HU).mw (unhide HS2)).mono ?_; rintro e w4 ⟨ea4, ec4, rfl, -, k4⟩; have HK4 := hide ((unhide HU).kept.step k4); clear k4))
              all_goals
                go_ret
                exact ⟨rfl, unhide HK4⟩
            | false =>
              have HS2 := hide hs2
              cases u with
              | true =>
                go_wp2_with (first
                  | (refine wpList_load_guard 30 _ rfl _ rfl 30 _ (0, 0) _ (unhide HU).blk Tryd.underlying30 rfl infoMail rfl ?_)
                  | (go_at_call 6; refine (enc_bad (unhide HT _ (unhide HU).kept) (unhide HU).mw (unhide HS2)).mono ?_; rintro e w4 ⟨rfl, k4⟩; have HK4 := hide ((unhide HU).kept.step k4); clear k4))
                all_goals
                  go_ret
                  exact ⟨rfl, unhide HK4⟩
              | false =>
                go_wp2_with (first
                  | (refine wpList_load_guard 30 _ rfl _ rfl 30 _ (0, 0) _ (unhide HU).blk Tryd.underlying30 rfl infoMail rfl ?_)
                  | (go_at_call 6; refine (enc_bad (unhide HT _ (unhide HU).kept) (unhide HU).mw (unhide HS2)).mono ?_; rintro e w4 ⟨rfl, k4⟩; have HK4 := hide ((unhide HU).kept.step k4); clear k4))
                all_goals
                  go_ret
                  exact ⟨rfl, unhide HK4⟩
set_option maxRecDepth 100000 in
set_option maxHeartbeats 6400000 in
theorem un10 (w : World) (p : Ml) (l : Lm) (ht : Tab w) (hm : MW w p l) (hs : snd p = true) : Calls Tryd.prog 3 #[mv p l, .int .i64 10] w fun e w' => e = .returned (.bool true) ∧ Kept [] w w' := by
  have HT := hide (fun W (k : Kept [] w W) => ht.kept k (by simp))
  have HM := hide (fun W (k : Kept [] w W) => hm.kept k)
  have HS := hide hs
  clear ht hm hs
  unfold mv
  go_enter Tryd.func3, Tryd.ntmps3
  go_upto_region 1 with fail
  refine world_at (R := fun X => Blk X w.heap.size (mcc p l) 30 ∧ Kept [] w X) ⟨Blk.new _ _ _, (Kept.refl [] w).alloc _⟩ ?_
  rintro X ⟨hb, hk⟩
  have HB := hide hb
  have HK := hide hk
  clear hb hk
  go_upto_region 6 with (first
    | (go_at_call 5; refine (awake_any _ (unhide HT _ (unhide HK))).mono ?_; rintro e w1 ⟨rfl, k1⟩; have HB1 := hide ((unhide HB).kept k1 (by simp)); have HK1 := hide ((unhide HK).step k1); clear k1 HB HK)
    | (refine wpList_load_guard 30 _ rfl _ rfl 30 _ (0, 0) _ (unhide HB1) Tryd.underlying30 rfl infoMail rfl ?_)
    | (go_at_call 6; refine (enc_good (unhide HT _ (unhide HK1)) (unhide HM _ (unhide HK1)) (unhide HS)).mono ?_; rintro e w2 ⟨ea, ec, rfl, -, k2⟩; have HK2 := hide ((unhide HK1).step k2); have HB2 := hide ((unhide HB1).kept k2 (by simp)); clear k2 HB1 HK1))
  obtain ⟨c0, c1, c2, c3, c4, c5, c6, c7, c8, c9, c10, c11, c12, c13, c14, c15, c16, c17, c18, c19⟩ := box20 (unhide HB2)
  have d0 : w2.drew.cell? ⟨w.heap.size, 0, none⟩ = some (.int .i64 p.kind) := c0
  obtain ⟨b1, h1⟩ : ∃ b, (p.kind == 1) = b := ⟨_, rfl⟩
  obtain ⟨b2, h2⟩ : ∃ b, (p.kind == 2) = b := ⟨_, rfl⟩
  obtain ⟨b3, h3⟩ : ∃ b, (p.kind == 3) = b := ⟨_, rfl⟩
  go_cut [7, 8, 9] (fun t7 t8 t9 wc => ∃ Z, Z = wc ∧ t7 = .bool b1 ∧ t8 = .bool b2 ∧ t9 = .bool b3 ∧ Hid (Kept [] w2 Z))
  case first =>
    go_region
    all_goals
      go_wp2_with fail
      go_meet
      exact ⟨_, rfl, by rw [← h1], by rw [← h2], by rw [← h3], hide (Kept.refl [] w2).drew⟩
  case rest =>
    obtain ⟨Z, rfl, rfl, rfl, rfl, hz⟩ := hcut
    have HBZ := hide ((unhide HB2).kept (unhide hz) (by simp))
    have HKZ := hide ((unhide HK2).step (unhide hz))
    clear HB2 HK2 hz c0 c1 c2 c3 c4 c5 c6 c7 c8 c9 c10 c11 c12 c13 c14 c15 c16 c17 c18 c19 d0
    have H1 := hide h1
    have H2 := hide h2
    have H3 := hide h3
    clear h1 h2 h3
    obtain ⟨-, -, -, -, -, -, -, -, -, -, -, -, -, c13, -, -, -, -, -, -⟩ := box20 (unhide HBZ)
    obtain ⟨b4, h4⟩ : ∃ b, (b2 && (p.verd == 0)) = b := ⟨_, rfl⟩
    obtain ⟨b5, h5⟩ : ∃ b, (b2 && ((p.verd == 220) || (p.verd == 221))) = b := ⟨_, rfl⟩
    have H4 := hide h4
    have H5 := hide h5
    clear h4 h5
    go_upto_region 7 with fail
    go_cut [10] (fun t wc => Z = wc ∧ t = .bool b4)
    case first =>
      cases b2 with
      | true =>
        go_wp2_with fail
        go_meet
        exact ⟨rfl, by rw [← unhide H4]; simp⟩
      | false =>
        go_wp2_with fail
        go_meet
        exact ⟨rfl, by rw [← unhide H4]; simp⟩
    case rest =>
      obtain ⟨hz, rfl⟩ := hcut
      subst hz
      go_upto_region 8 with fail
      go_cut [11] (fun t wc => Z = wc ∧ t = .bool b5)
      case first =>
        cases b2 with
        | true =>
          by_cases hv : p.verd = 220
          · have hv2 : (p.verd == 220) = true := by simp [hv]
            go_wp2_with fail
            go_meet
            exact ⟨rfl, by rw [← unhide H5]; simp [hv]⟩
          · have hv2 : (p.verd == 220) = false := by simp [hv]
            go_wp2_with fail
            go_meet
            exact ⟨rfl, by rw [← unhide H5]; simp [hv]⟩
        | false =>
          go_wp2_with fail
          go_meet
          exact ⟨rfl, by rw [← unhide H5]; simp⟩
      case rest =>
        obtain ⟨hz, rfl⟩ := hcut
        subst hz
        clear c13
        go_upto_region 10 with fail
        go_cut [52] (fun t wc => Z = wc ∧ t = .int .i64 10)
        case first =>
          go_wp2_with fail
          go_meet
          exact ⟨rfl, rfl⟩
        case rest =>
          obtain ⟨hz, rfl⟩ := hcut
          subst hz
          rename_i KA hA KB hB
          refine hB _ _ ?_
          go_cut [12] (fun t wc => ∃ (Y : World) (p' : Ml) (l' : Lm) (u : Bool), Y = wc ∧ t = .bool u ∧ Hid (UnI w p' l' u Y))
          case first =>
            obtain ⟨c0, c1, c2, c3, c4, c5, c6, c7, c8, c9, c10, c11, c12, c13, c14, c15, c16, c17, c18, c19⟩ := box20 (unhide HBZ)
            have z0 := (unhide HBZ).frozen
            have HFR := hide z0
            clear z0
            have f14 := unhide HFR 14
            go_wp2_with fail
            go_meet
            have kz := ((unhide HKZ).setCell (p := ⟨w.heap.size, 14, none⟩) (Or.inr (Nat.le_refl _)) (.bool true))
            refine ⟨_, setF p 10, l, unB p 10, rfl, ?_, hide ⟨(Blk.set (unhide HBZ) 14 (.bool true)), MW.num (unhide HM _ kz) 10 (by omega), fun h => unused_no (unhide HS) 10 h, kz⟩⟩
            · (have g1 := unhide H1; have g2 := unhide H2; have g3 := unhide H3; have g4 := unhide H4; have g5 := unhide H5; simp_all [unB])
          case rest =>
            obtain ⟨Y, p', l', u, rfl, rfl, HU⟩ := hcut
            cases hs2 : snd p' with
            | true =>
              have hu : u = false := by
                cases u with
                | false => rfl
                | true => have := (unhide HU).no rfl; rw [hs2] at this; cases this
              subst hu
              have HS2 := hide hs2
              go_wp2_with (first
                | (refine wpList_load_guard 30 _ rfl _ rfl 30 _ (0, 0) _ (unhide HU).blk Tryd.underlying30 rfl infoMail rfl ?_)
                | (go_at_call 6; refine (enc_good (unhide HT _ (unhide HU).kept) (unhide HU).mw (unhide HS2)).mono ?_; rintro e w4 ⟨ea4, ec4, rfl, -, k4⟩; have HK4 := hide ((unhide HU).kept.step k4); clear k4))
              all_goals
                go_ret
                exact ⟨rfl, unhide HK4⟩
            | false =>
              have HS2 := hide hs2
              cases u with
              | true =>
                go_wp2_with (first
                  | (refine wpList_load_guard 30 _ rfl _ rfl 30 _ (0, 0) _ (unhide HU).blk Tryd.underlying30 rfl infoMail rfl ?_)
                  | (go_at_call 6; refine (enc_bad (unhide HT _ (unhide HU).kept) (unhide HU).mw (unhide HS2)).mono ?_; rintro e w4 ⟨rfl, k4⟩; have HK4 := hide ((unhide HU).kept.step k4); clear k4))
                all_goals
                  go_ret
                  exact ⟨rfl, unhide HK4⟩
              | false =>
                go_wp2_with (first
                  | (refine wpList_load_guard 30 _ rfl _ rfl 30 _ (0, 0) _ (unhide HU).blk Tryd.underlying30 rfl infoMail rfl ?_)
                  | (go_at_call 6; refine (enc_bad (unhide HT _ (unhide HU).kept) (unhide HU).mw (unhide HS2)).mono ?_; rintro e w4 ⟨rfl, k4⟩; have HK4 := hide ((unhide HU).kept.step k4); clear k4))
                all_goals
                  go_ret
                  exact ⟨rfl, unhide HK4⟩
set_option maxRecDepth 100000 in
set_option maxHeartbeats 6400000 in
theorem un11 (w : World) (p : Ml) (l : Lm) (ht : Tab w) (hm : MW w p l) (hs : snd p = true) : Calls Tryd.prog 3 #[mv p l, .int .i64 11] w fun e w' => e = .returned (.bool true) ∧ Kept [] w w' := by
  have HT := hide (fun W (k : Kept [] w W) => ht.kept k (by simp))
  have HM := hide (fun W (k : Kept [] w W) => hm.kept k)
  have HS := hide hs
  clear ht hm hs
  unfold mv
  go_enter Tryd.func3, Tryd.ntmps3
  go_upto_region 1 with fail
  refine world_at (R := fun X => Blk X w.heap.size (mcc p l) 30 ∧ Kept [] w X) ⟨Blk.new _ _ _, (Kept.refl [] w).alloc _⟩ ?_
  rintro X ⟨hb, hk⟩
  have HB := hide hb
  have HK := hide hk
  clear hb hk
  go_upto_region 6 with (first
    | (go_at_call 5; refine (awake_any _ (unhide HT _ (unhide HK))).mono ?_; rintro e w1 ⟨rfl, k1⟩; have HB1 := hide ((unhide HB).kept k1 (by simp)); have HK1 := hide ((unhide HK).step k1); clear k1 HB HK)
    | (refine wpList_load_guard 30 _ rfl _ rfl 30 _ (0, 0) _ (unhide HB1) Tryd.underlying30 rfl infoMail rfl ?_)
    | (go_at_call 6; refine (enc_good (unhide HT _ (unhide HK1)) (unhide HM _ (unhide HK1)) (unhide HS)).mono ?_; rintro e w2 ⟨ea, ec, rfl, -, k2⟩; have HK2 := hide ((unhide HK1).step k2); have HB2 := hide ((unhide HB1).kept k2 (by simp)); clear k2 HB1 HK1))
  obtain ⟨c0, c1, c2, c3, c4, c5, c6, c7, c8, c9, c10, c11, c12, c13, c14, c15, c16, c17, c18, c19⟩ := box20 (unhide HB2)
  have d0 : w2.drew.cell? ⟨w.heap.size, 0, none⟩ = some (.int .i64 p.kind) := c0
  obtain ⟨b1, h1⟩ : ∃ b, (p.kind == 1) = b := ⟨_, rfl⟩
  obtain ⟨b2, h2⟩ : ∃ b, (p.kind == 2) = b := ⟨_, rfl⟩
  obtain ⟨b3, h3⟩ : ∃ b, (p.kind == 3) = b := ⟨_, rfl⟩
  go_cut [7, 8, 9] (fun t7 t8 t9 wc => ∃ Z, Z = wc ∧ t7 = .bool b1 ∧ t8 = .bool b2 ∧ t9 = .bool b3 ∧ Hid (Kept [] w2 Z))
  case first =>
    go_region
    all_goals
      go_wp2_with fail
      go_meet
      exact ⟨_, rfl, by rw [← h1], by rw [← h2], by rw [← h3], hide (Kept.refl [] w2).drew⟩
  case rest =>
    obtain ⟨Z, rfl, rfl, rfl, rfl, hz⟩ := hcut
    have HBZ := hide ((unhide HB2).kept (unhide hz) (by simp))
    have HKZ := hide ((unhide HK2).step (unhide hz))
    clear HB2 HK2 hz c0 c1 c2 c3 c4 c5 c6 c7 c8 c9 c10 c11 c12 c13 c14 c15 c16 c17 c18 c19 d0
    have H1 := hide h1
    have H2 := hide h2
    have H3 := hide h3
    clear h1 h2 h3
    obtain ⟨-, -, -, -, -, -, -, -, -, -, -, -, -, c13, -, -, -, -, -, -⟩ := box20 (unhide HBZ)
    obtain ⟨b4, h4⟩ : ∃ b, (b2 && (p.verd == 0)) = b := ⟨_, rfl⟩
    obtain ⟨b5, h5⟩ : ∃ b, (b2 && ((p.verd == 220) || (p.verd == 221))) = b := ⟨_, rfl⟩
    have H4 := hide h4
    have H5 := hide h5
    clear h4 h5
    go_upto_region 7 with fail
    go_cut [10] (fun t wc => Z = wc ∧ t = .bool b4)
    case first =>
      cases b2 with
      | true =>
        go_wp2_with fail
        go_meet
        exact ⟨rfl, by rw [← unhide H4]; simp⟩
      | false =>
        go_wp2_with fail
        go_meet
        exact ⟨rfl, by rw [← unhide H4]; simp⟩
    case rest =>
      obtain ⟨hz, rfl⟩ := hcut
      subst hz
      go_upto_region 8 with fail
      go_cut [11] (fun t wc => Z = wc ∧ t = .bool b5)
      case first =>
        cases b2 with
        | true =>
          by_cases hv : p.verd = 220
          · have hv2 : (p.verd == 220) = true := by simp [hv]
            go_wp2_with fail
            go_meet
            exact ⟨rfl, by rw [← unhide H5]; simp [hv]⟩
          · have hv2 : (p.verd == 220) = false := by simp [hv]
            go_wp2_with fail
            go_meet
            exact ⟨rfl, by rw [← unhide H5]; simp [hv]⟩
        | false =>
          go_wp2_with fail
          go_meet
          exact ⟨rfl, by rw [← unhide H5]; simp⟩
      case rest =>
        obtain ⟨hz, rfl⟩ := hcut
        subst hz
        clear c13
        go_upto_region 10 with fail
        go_cut [52] (fun t wc => Z = wc ∧ t = .int .i64 11)
        case first =>
          go_wp2_with fail
          go_meet
          exact ⟨rfl, rfl⟩
        case rest =>
          obtain ⟨hz, rfl⟩ := hcut
          subst hz
          rename_i KA hA KB hB
          refine hB _ _ ?_
          go_cut [12] (fun t wc => ∃ (Y : World) (p' : Ml) (l' : Lm) (u : Bool), Y = wc ∧ t = .bool u ∧ Hid (UnI w p' l' u Y))
          case first =>
            obtain ⟨c0, c1, c2, c3, c4, c5, c6, c7, c8, c9, c10, c11, c12, c13, c14, c15, c16, c17, c18, c19⟩ := box20 (unhide HBZ)
            have z0 := (unhide HBZ).frozen
            have HFR := hide z0
            clear z0
            have hlt := (unhide HBZ).lt
            have f15 : (Z.alloc (.cells #[.int .u8 0] 5)).frozen? ⟨w.heap.size, 15, none⟩ = false := ((unhide HBZ).alloc _).frozen 15
            go_wp2_with fail
            go_meet
            have hn0 := news_one (Z.setCell ⟨w.heap.size, 15, none⟩ (.slice (some ⟨Z.heap.size, 0, none⟩) 1 1)) 0; rw [show (Z.setCell ⟨w.heap.size, 15, none⟩ (.slice (some ⟨Z.heap.size, 0, none⟩) 1 1)).heap.size = Z.heap.size by simp] at hn0; have kz := (((unhide HKZ).setCell (p := ⟨w.heap.size, 15, none⟩) (Or.inr (Nat.le_refl _)) (.slice (some ⟨Z.heap.size, 0, none⟩) 1 1)).alloc (.cells #[.int .u8 0] 5))
            refine ⟨_, setF p 11, (setLm l (some ⟨Z.heap.size, 0, none⟩) 11), unB p 11, rfl, ?_, hide ⟨(Blk.set (unhide HBZ) 15 (.slice (some ⟨Z.heap.size, 0, none⟩) 1 1)).alloc _, MW.lst11 (unhide HM _ kz) (Or.inl hn0), fun h => unused_no (unhide HS) 11 h, kz⟩⟩
            · (have g1 := unhide H1; have g2 := unhide H2; have g3 := unhide H3; have g4 := unhide H4; have g5 := unhide H5; simp_all [unB])
          case rest =>
            obtain ⟨Y, p', l', u, rfl, rfl, HU⟩ := hcut
            cases hs2 : snd p' with
            | true =>
              have hu : u = false := by
                cases u with
                | false => rfl
                | true => have := (unhide HU).no rfl; rw [hs2] at this; cases this
              subst hu
              have HS2 := hide hs2
              go_wp2_with (first
                | (refine wpList_load_guard 30 _ rfl _ rfl 30 _ (0, 0) _ (unhide HU).blk Tryd.underlying30 rfl infoMail rfl ?_)
                | (go_at_call 6; refine (enc_good (unhide HT _ (unhide HU).kept) (unhide HU).mw (unhide HS2)).mono ?_; rintro e w4 ⟨ea4, ec4, rfl, -, k4⟩; have HK4 := hide ((unhide HU).kept.step k4); clear k4))
              all_goals
                go_ret
                exact ⟨rfl, unhide HK4⟩
            | false =>
              have HS2 := hide hs2
              cases u with
              | true =>
                go_wp2_with (first
                  | (refine wpList_load_guard 30 _ rfl _ rfl 30 _ (0, 0) _ (unhide HU).blk Tryd.underlying30 rfl infoMail rfl ?_)
                  | (go_at_call 6; refine (enc_bad (unhide HT _ (unhide HU).kept) (unhide HU).mw (unhide HS2)).mono ?_; rintro e w4 ⟨rfl, k4⟩; have HK4 := hide ((unhide HU).kept.step k4); clear k4))
                all_goals
                  go_ret
                  exact ⟨rfl, unhide HK4⟩
              | false =>
                go_wp2_with (first
                  | (refine wpList_load_guard 30 _ rfl _ rfl 30 _ (0, 0) _ (unhide HU).blk Tryd.underlying30 rfl infoMail rfl ?_)
                  | (go_at_call 6; refine (enc_bad (unhide HT _ (unhide HU).kept) (unhide HU).mw (unhide HS2)).mono ?_; rintro e w4 ⟨rfl, k4⟩; have HK4 := hide ((unhide HU).kept.step k4); clear k4))
                all_goals
                  go_ret
                  exact ⟨rfl, unhide HK4⟩
end Go.Proofs.YtfhfkpgfnlmfhabDoor
