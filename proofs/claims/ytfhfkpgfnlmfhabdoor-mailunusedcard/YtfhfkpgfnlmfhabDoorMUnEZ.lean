/- MailUnused, by fields. -/
import Derived.Test.YtfhfkpgfnlmfhabDoorPkBE
import Derived.Deep.RegionWith
namespace Go.Proofs.YtfhfkpgfnlmfhabDoor
open Go.RowKit

set_option maxRecDepth 100000 in
set_option maxHeartbeats 6400000 in
theorem un12 (w : World) (p : Ml) (l : Lm) (ht : Tab w) (hm : MW w p l) (hs : snd p = true) : Calls Tryd.prog 3 #[mv p l, .int .i64 12] w fun e w' => e = .returned (.bool true) ∧ Kept [] w w' := by
  have HT := hide (fun W (k : Kept [] w W) => ht.kept k (by simp))
  have HM := hide (fun W (k : Kept [] w W) => hm.kept k)
  have HS := hide hs
  clear ht hm hs
  unfold mv
  go_enter Tryd.func3, Tryd.ntmps3
  go_upto_region 1 with fail
  refine world_at (R := fun X => Blk X w.heap.size (mcc p l) 30 ∧ Kept [] w X) ⟨Blk.new _ _ _, (Kept.refl [] w).alloc _⟩ ?_
  rintro X ⟨hb, hk⟩
  have HB := hide hb
  have HK := hide hk
  clear hb hk
  go_upto_region 6 with (first
    | (go_at_call 5; refine (awake_any _ (unhide HT _ (unhide HK))).mono ?_; rintro e w1 ⟨rfl, k1⟩; have HB1 := hide ((unhide HB).kept k1 (by simp)); have HK1 := hide ((unhide HK).step k1); clear k1 HB HK)
    | (refine wpList_load_guard 30 _ rfl _ rfl 30 _ (0, 0) _ (unhide HB1) Tryd.underlying30 rfl infoMail rfl ?_)
    | (go_at_call 6; refine (enc_good (unhide HT _ (unhide HK1)) (unhide HM _ (unhide HK1)) (unhide HS)).mono ?_; rintro e w2 ⟨ea, ec, rfl, -, k2⟩; have HK2 := hide ((unhide HK1).step k2); have HB2 := hide ((unhide HB1).kept k2 (by simp)); clear k2 HB1 HK1))
  obtain ⟨c0, c1, c2, c3, c4, c5, c6, c7, c8, c9, c10, c11, c12, c13, c14, c15, c16, c17, c18, c19⟩ := box20 (unhide HB2)
  have d0 : w2.drew.cell? ⟨w.heap.size, 0, none⟩ = some (.int .i64 p.kind) := c0
  obtain ⟨b1, h1⟩ : ∃ b, (p.kind == 1) = b := ⟨_, rfl⟩
  obtain ⟨b2, h2⟩ : ∃ b, (p.kind == 2) = b := ⟨_, rfl⟩
  obtain ⟨b3, h3⟩ : ∃ b, (p.kind == 3) = b := ⟨_, rfl⟩
  go_cut [7, 8, 9] (fun t7 t8 t9 wc => ∃ Z, Z = wc ∧ t7 = .bool b1 ∧ t8 = .bool b2 ∧ t9 = .bool b3 ∧ Hid (Kept [] w2 Z))
  case first =>
    go_region
    all_goals
      go_wp2_with fail
      go_meet
      exact ⟨_, rfl, by rw [← h1], by rw [← h2], by rw [← h3], hide (Kept.refl [] w2).drew⟩
  case rest =>
    obtain ⟨Z, rfl, rfl, rfl, rfl, hz⟩ := hcut
    have HBZ := hide ((unhide HB2).kept (unhide hz) (by simp))
    have HKZ := hide ((unhide HK2).step (unhide hz))
    clear HB2 HK2 hz c0 c1 c2 c3 c4 c5 c6 c7 c8 c9 c10 c11 c12 c13 c14 c15 c16 c17 c18 c19 d0
    have H1 := hide h1
    have H2 := hide h2
    have H3 := hide h3
    clear h1 h2 h3
    obtain ⟨-, -, -, -, -, -, -, -, -, -, -, -, -, c13, -, -, -, -, -, -⟩ := box20 (unhide HBZ)
    obtain ⟨b4, h4⟩ : ∃ b, (b2 && (p.verd == 0)) = b := ⟨_, rfl⟩
    obtain ⟨b5, h5⟩ : ∃ b, (b2 && ((p.verd == 220) || (p.verd == 221))) = b := ⟨_, rfl⟩
    have H4 := hide h4
    have H5 := hide h5
    clear h4 h5
    go_upto_region 7 with fail
    go_cut [10] (fun t wc => Z = wc ∧ t = .bool b4)
    case first =>
      cases b2 with
      | true =>
        go_wp2_with fail
        go_meet
        exact ⟨rfl, by rw [← unhide H4]; simp⟩
      | false =>
        go_wp2_with fail
        go_meet
        exact ⟨rfl, by rw [← unhide H4]; simp⟩
    case rest =>
      obtain ⟨hz, rfl⟩ := hcut
      subst hz
      go_upto_region 8 with fail
      go_cut [11] (fun t wc => Z = wc ∧ t = .bool b5)
      case first =>
        cases b2 with
        | true =>
          by_cases hv : p.verd = 220
          · have hv2 : (p.verd == 220) = true := by simp [hv]
            go_wp2_with fail
            go_meet
            exact ⟨rfl, by rw [← unhide H5]; simp [hv]⟩
          · have hv2 : (p.verd == 220) = false := by simp [hv]
            go_wp2_with fail
            go_meet
            exact ⟨rfl, by rw [← unhide H5]; simp [hv]⟩
        | false =>
          go_wp2_with fail
          go_meet
          exact ⟨rfl, by rw [← unhide H5]; simp⟩
      case rest =>
        obtain ⟨hz, rfl⟩ := hcut
        subst hz
        clear c13
        go_upto_region 10 with fail
        go_cut [52] (fun t wc => Z = wc ∧ t = .int .i64 12)
        case first =>
          go_wp2_with fail
          go_meet
          exact ⟨rfl, rfl⟩
        case rest =>
          obtain ⟨hz, rfl⟩ := hcut
          subst hz
          rename_i KA hA KB hB
          refine hB _ _ ?_
          go_cut [12] (fun t wc => ∃ (Y : World) (p' : Ml) (l' : Lm) (u : Bool), Y = wc ∧ t = .bool u ∧ Hid (UnI w p' l' u Y))
          case first =>
            obtain ⟨c0, c1, c2, c3, c4, c5, c6, c7, c8, c9, c10, c11, c12, c13, c14, c15, c16, c17, c18, c19⟩ := box20 (unhide HBZ)
            have z0 := (unhide HBZ).frozen
            have HFR := hide z0
            clear z0
            have f18 := unhide HFR 18
            go_wp2_with fail
            go_meet
            have kz := ((unhide HKZ).setCell (p := ⟨w.heap.size, 18, none⟩) (Or.inr (Nat.le_refl _)) (.int .i64 1))
            refine ⟨_, setF p 12, l, unB p 12, rfl, ?_, hide ⟨(Blk.set (unhide HBZ) 18 (.int .i64 1)), MW.num (unhide HM _ kz) 12 (by omega), fun h => unused_no (unhide HS) 12 h, kz⟩⟩
            · (have g1 := unhide H1; have g2 := unhide H2; have g3 := unhide H3; have g4 := unhide H4; have g5 := unhide H5; simp_all [unB])
          case rest =>
            obtain ⟨Y, p', l', u, rfl, rfl, HU⟩ := hcut
            cases hs2 : snd p' with
            | true =>
              have hu : u = false := by
                cases u with
                | false => rfl
                | true => have := (unhide HU).no rfl; rw [hs2] at this; cases this
              subst hu
              have HS2 := hide hs2
              go_wp2_with (first
                | (refine wpList_load_guard 30 _ rfl _ rfl 30 _ (0, 0) _ (unhide HU).blk Tryd.underlying30 rfl infoMail rfl ?_)
                | (go_at_call 6; refine (enc_good (unhide HT _ (unhide HU).kept) (unhide HU).mw (unhide HS2)).mono ?_; rintro e w4 ⟨ea4, ec4, rfl, -, k4⟩; have HK4 := hide ((unhide HU).kept.step k4); clear k4))
              all_goals
                go_ret
                exact ⟨rfl, unhide HK4⟩
            | false =>
              have HS2 := hide hs2
              cases u with
              | true =>
                go_wp2_with (first
                  | (refine wpList_load_guard 30 _ rfl _ rfl 30 _ (0, 0) _ (unhide HU).blk Tryd.underlying30 rfl infoMail rfl ?_)
                  | (go_at_call 6; refine (enc_bad (unhide HT _ (unhide HU).kept) (unhide HU).mw (unhide HS2)).mono ?_; rintro e w4 ⟨rfl, k4⟩; have HK4 := hide ((unhide HU).kept.step k4); clear k4))
                all_goals
                  go_ret
                  exact ⟨rfl, unhide HK4⟩
              | false =>
                go_wp2_with (first
                  | (refine wpList_load_guard 30 _ rfl _ rfl 30 _ (0, 0) _ (unhide HU).blk Tryd.underlying30 rfl infoMail rfl ?_)
                  | (go_at_call 6; refine (enc_bad (unhide HT _ (unhide HU).kept) (unhide HU).mw (unhide HS2)).mono ?_; rintro e w4 ⟨rfl, k4⟩; have HK4 := hide ((unhide HU).kept.step k4); clear k4))
                all_goals
                  go_ret
                  exact ⟨rfl, unhide HK4⟩
set_option maxRecDepth 100000 in
set_option maxHeartbeats 6400000 in
theorem un13 (w : World) (p : Ml) (l : Lm) (ht : Tab w) (hm : MW w p l) (hs : snd p = true) : Calls Tryd.prog 3 #[mv p l, .int .i64 13] w fun e w' => e = .returned (.bool true) ∧ Kept [] w w' := by
  have HT := hide (fun W (k : Kept [] w W) => ht.kept k (by simp))
  have HM := hide (fun W (k : Kept [] w W) => hm.kept k)
  have HS := hide hs
  clear ht hm hs
  unfold mv
  go_enter Tryd.func3, Tryd.ntmps3
  go_upto_region 1 with fail
  refine world_at (R := fun X => Blk X w.heap.size (mcc p l) 30 ∧ Kept [] w X) ⟨Blk.new _ _ _, (Kept.refl [] w).alloc _⟩ ?_
  rintro X ⟨hb, hk⟩
  have HB := hide hb
  have HK := hide hk
  clear hb hk
  go_upto_region 6 with (first
    | (go_at_call 5; refine (awake_any _ (unhide HT _ (unhide HK))).mono ?_; rintro e w1 ⟨rfl, k1⟩; have HB1 := hide ((unhide HB).kept k1 (by simp)); have HK1 := hide ((unhide HK).step k1); clear k1 HB HK)
    | (refine wpList_load_guard 30 _ rfl _ rfl 30 _ (0, 0) _ (unhide HB1) Tryd.underlying30 rfl infoMail rfl ?_)
    | (go_at_call 6; refine (enc_good (unhide HT _ (unhide HK1)) (unhide HM _ (unhide HK1)) (unhide HS)).mono ?_; rintro e w2 ⟨ea, ec, rfl, -, k2⟩; have HK2 := hide ((unhide HK1).step k2); have HB2 := hide ((unhide HB1).kept k2 (by simp)); clear k2 HB1 HK1))
  obtain ⟨c0, c1, c2, c3, c4, c5, c6, c7, c8, c9, c10, c11, c12, c13, c14, c15, c16, c17, c18, c19⟩ := box20 (unhide HB2)
  have d0 : w2.drew.cell? ⟨w.heap.size, 0, none⟩ = some (.int .i64 p.kind) := c0
  obtain ⟨b1, h1⟩ : ∃ b, (p.kind == 1) = b := ⟨_, rfl⟩
  obtain ⟨b2, h2⟩ : ∃ b, (p.kind == 2) = b := ⟨_, rfl⟩
  obtain ⟨b3, h3⟩ : ∃ b, (p.kind == 3) = b := ⟨_, rfl⟩
  go_cut [7, 8, 9] (fun t7 t8 t9 wc => ∃ Z, Z = wc ∧ t7 = .bool b1 ∧ t8 = .bool b2 ∧ t9 = .bool b3 ∧ Hid (Kept [] w2 Z))
  case first =>
    go_region
    all_goals
      go_wp2_with fail
      go_meet
      exact ⟨_, rfl, by rw [← h1], by rw [← h2], by rw [← h3], hide (Kept.refl [] w2).drew⟩
  case rest =>
    obtain ⟨Z, rfl, rfl, rfl, rfl, hz⟩ := hcut
    have HBZ := hide ((unhide HB2).kept (unhide hz) (by simp))
    have HKZ := hide ((unhide HK2).step (unhide hz))
    clear HB2 HK2 hz c0 c1 c2 c3 c4 c5 c6 c7 c8 c9 c10 c11 c12 c13 c14 c15 c16 c17 c18 c19 d0
    have H1 := hide h1
    have H2 := hide h2
    have H3 := hide h3
    clear h1 h2 h3
    obtain ⟨-, -, -, -, -, -, -, -, -, -, -, -, -, c13, -, -, -, -, -, -⟩ := box20 (unhide HBZ)
    obtain ⟨b4, h4⟩ : ∃ b, (b2 && (p.verd == 0)) = b := ⟨_, rfl⟩
    obtain ⟨b5, h5⟩ : ∃ b, (b2 && ((p.verd == 220) || (p.verd == 221))) = b := ⟨_, rfl⟩
    have H4 := hide h4
    have H5 := hide h5
    clear h4 h5
    go_upto_region 7 with fail
    go_cut [10] (fun t wc => Z = wc ∧ t = .bool b4)
    case first =>
      cases b2 with
      | true =>
        go_wp2_with fail
        go_meet
        exact ⟨rfl, by rw [← unhide H4]; simp⟩
      | false =>
        go_wp2_with fail
        go_meet
        exact ⟨rfl, by rw [← unhide H4]; simp⟩
    case rest =>
      obtain ⟨hz, rfl⟩ := hcut
      subst hz
      go_upto_region 8 with fail
      go_cut [11] (fun t wc => Z = wc ∧ t = .bool b5)
      case first =>
        cases b2 with
        | true =>
          by_cases hv : p.verd = 220
          · have hv2 : (p.verd == 220) = true := by simp [hv]
            go_wp2_with fail
            go_meet
            exact ⟨rfl, by rw [← unhide H5]; simp [hv]⟩
          · have hv2 : (p.verd == 220) = false := by simp [hv]
            go_wp2_with fail
            go_meet
            exact ⟨rfl, by rw [← unhide H5]; simp [hv]⟩
        | false =>
          go_wp2_with fail
          go_meet
          exact ⟨rfl, by rw [← unhide H5]; simp⟩
      case rest =>
        obtain ⟨hz, rfl⟩ := hcut
        subst hz
        clear c13
        go_upto_region 10 with fail
        go_cut [52] (fun t wc => Z = wc ∧ t = .int .i64 13)
        case first =>
          go_wp2_with fail
          go_meet
          exact ⟨rfl, rfl⟩
        case rest =>
          obtain ⟨hz, rfl⟩ := hcut
          subst hz
          rename_i KA hA KB hB
          refine hB _ _ ?_
          go_cut [12] (fun t wc => ∃ (Y : World) (p' : Ml) (l' : Lm) (u : Bool), Y = wc ∧ t = .bool u ∧ Hid (UnI w p' l' u Y))
          case first =>
            obtain ⟨c0, c1, c2, c3, c4, c5, c6, c7, c8, c9, c10, c11, c12, c13, c14, c15, c16, c17, c18, c19⟩ := box20 (unhide HBZ)
            have z0 := (unhide HBZ).frozen
            have HFR := hide z0
            clear z0
            have f19 := unhide HFR 19
            go_wp2_with fail
            go_meet
            have kz := ((unhide HKZ).setCell (p := ⟨w.heap.size, 19, none⟩) (Or.inr (Nat.le_refl _)) (.int .i64 1))
            refine ⟨_, setF p 13, l, unB p 13, rfl, ?_, hide ⟨(Blk.set (unhide HBZ) 19 (.int .i64 1)), MW.num (unhide HM _ kz) 13 (by omega), fun h => unused_no (unhide HS) 13 h, kz⟩⟩
            · (have g1 := unhide H1; have g2 := unhide H2; have g3 := unhide H3; have g4 := unhide H4; have g5 := unhide H5; simp_all [unB])
          case rest =>
            obtain ⟨Y, p', l', u, rfl, rfl, HU⟩ := hcut
            cases hs2 : snd p' with
            | true =>
              have hu : u = false := by
                cases u with
                | false => rfl
                | true => have := (unhide HU).no rfl; rw [hs2] at this; cases this
              subst hu
              have HS2 := hide hs2
              go_wp2_with (first
                | (refine wpList_load_guard 30 _ rfl _ rfl 30 _ (0, 0) _ (unhide HU).blk Tryd.underlying30 rfl infoMail rfl ?_)
                | (go_at_call 6; refine (enc_good (unhide HT _ (unhide HU).kept) (unhide HU).mw (unhide HS2)).mono ?_; rintro e w4 ⟨ea4, ec4, rfl, -, k4⟩; have HK4 := hide ((unhide HU).kept.step k4); clear k4))
              all_goals
                go_ret
                exact ⟨rfl, unhide HK4⟩
            | false =>
              have HS2 := hide hs2
              cases u with
              | true =>
                go_wp2_with (first
                  | (refine wpList_load_guard 30 _ rfl _ rfl 30 _ (0, 0) _ (unhide HU).blk Tryd.underlying30 rfl infoMail rfl ?_)
                  | (go_at_call 6; refine (enc_bad (unhide HT _ (unhide HU).kept) (unhide HU).mw (unhide HS2)).mono ?_; rintro e w4 ⟨rfl, k4⟩; have HK4 := hide ((unhide HU).kept.step k4); clear k4))
                all_goals
                  go_ret
                  exact ⟨rfl, unhide HK4⟩
              | false =>
                go_wp2_with (first
                  | (refine wpList_load_guard 30 _ rfl _ rfl 30 _ (0, 0) _ (unhide HU).blk Tryd.underlying30 rfl infoMail rfl ?_)
                  | (go_at_call 6; refine (enc_bad (unhide HT _ (unhide HU).kept) (unhide HU).mw (unhide HS2)).mono ?_; rintro e w4 ⟨rfl, k4⟩; have HK4 := hide ((unhide HU).kept.step k4); clear k4))
                all_goals
                  go_ret
                  exact ⟨rfl, unhide HK4⟩
set_option maxRecDepth 100000 in
set_option maxHeartbeats 6400000 in
theorem uno (w : World) (p : Ml) (l : Lm) (f : Int) (ht : Tab w) (hm : MW w p l) (hs : snd p = true) (hf : ∀ k : Nat, k < 14 → f ≠ k) : Calls Tryd.prog 3 #[mv p l, .int .i64 f] w fun e w' => e = .returned (.bool true) ∧ Kept [] w w' := by
  have HT := hide (fun W (k : Kept [] w W) => ht.kept k (by simp))
  have HM := hide (fun W (k : Kept [] w W) => hm.kept k)
  have HS := hide hs
  clear ht hm hs
  unfold mv
  go_enter Tryd.func3, Tryd.ntmps3
  go_upto_region 1 with fail
  refine world_at (R := fun X => Blk X w.heap.size (mcc p l) 30 ∧ Kept [] w X) ⟨Blk.new _ _ _, (Kept.refl [] w).alloc _⟩ ?_
  rintro X ⟨hb, hk⟩
  have HB := hide hb
  have HK := hide hk
  clear hb hk
  go_upto_region 6 with (first
    | (go_at_call 5; refine (awake_any _ (unhide HT _ (unhide HK))).mono ?_; rintro e w1 ⟨rfl, k1⟩; have HB1 := hide ((unhide HB).kept k1 (by simp)); have HK1 := hide ((unhide HK).step k1); clear k1 HB HK)
    | (refine wpList_load_guard 30 _ rfl _ rfl 30 _ (0, 0) _ (unhide HB1) Tryd.underlying30 rfl infoMail rfl ?_)
    | (go_at_call 6; refine (enc_good (unhide HT _ (unhide HK1)) (unhide HM _ (unhide HK1)) (unhide HS)).mono ?_; rintro e w2 ⟨ea, ec, rfl, -, k2⟩; have HK2 := hide ((unhide HK1).step k2); have HB2 := hide ((unhide HB1).kept k2 (by simp)); clear k2 HB1 HK1))
  obtain ⟨c0, c1, c2, c3, c4, c5, c6, c7, c8, c9, c10, c11, c12, c13, c14, c15, c16, c17, c18, c19⟩ := box20 (unhide HB2)
  have d0 : w2.drew.cell? ⟨w.heap.size, 0, none⟩ = some (.int .i64 p.kind) := c0
  obtain ⟨b1, h1⟩ : ∃ b, (p.kind == 1) = b := ⟨_, rfl⟩
  obtain ⟨b2, h2⟩ : ∃ b, (p.kind == 2) = b := ⟨_, rfl⟩
  obtain ⟨b3, h3⟩ : ∃ b, (p.kind == 3) = b := ⟨_, rfl⟩
  go_cut [7, 8, 9] (fun t7 t8 t9 wc => ∃ Z, Z = wc ∧ t7 = .bool b1 ∧ t8 = .bool b2 ∧ t9 = .bool b3 ∧ Hid (Kept [] w2 Z))
  case first =>
    go_region
    all_goals
      go_wp2_with fail
      go_meet
      exact ⟨_, rfl, by rw [← h1], by rw [← h2], by rw [← h3], hide (Kept.refl [] w2).drew⟩
  case rest =>
    obtain ⟨Z, rfl, rfl, rfl, rfl, hz⟩ := hcut
    have HBZ := hide ((unhide HB2).kept (unhide hz) (by simp))
    have HKZ := hide ((unhide HK2).step (unhide hz))
    clear HB2 HK2 hz c0 c1 c2 c3 c4 c5 c6 c7 c8 c9 c10 c11 c12 c13 c14 c15 c16 c17 c18 c19 d0
    have H1 := hide h1
    have H2 := hide h2
    have H3 := hide h3
    clear h1 h2 h3
    obtain ⟨-, -, -, -, -, -, -, -, -, -, -, -, -, c13, -, -, -, -, -, -⟩ := box20 (unhide HBZ)
    obtain ⟨b4, h4⟩ : ∃ b, (b2 && (p.verd == 0)) = b := ⟨_, rfl⟩
    obtain ⟨b5, h5⟩ : ∃ b, (b2 && ((p.verd == 220) || (p.verd == 221))) = b := ⟨_, rfl⟩
    have H4 := hide h4
    have H5 := hide h5
    clear h4 h5
    go_upto_region 7 with fail
    go_cut [10] (fun t wc => Z = wc ∧ t = .bool b4)
    case first =>
      cases b2 with
      | true =>
        go_wp2_with fail
        go_meet
        exact ⟨rfl, by rw [← unhide H4]; simp⟩
      | false =>
        go_wp2_with fail
        go_meet
        exact ⟨rfl, by rw [← unhide H4]; simp⟩
    case rest =>
      obtain ⟨hz, rfl⟩ := hcut
      subst hz
      go_upto_region 8 with fail
      go_cut [11] (fun t wc => Z = wc ∧ t = .bool b5)
      case first =>
        cases b2 with
        | true =>
          by_cases hv : p.verd = 220
          · have hv2 : (p.verd == 220) = true := by simp [hv]
            go_wp2_with fail
            go_meet
            exact ⟨rfl, by rw [← unhide H5]; simp [hv]⟩
          · have hv2 : (p.verd == 220) = false := by simp [hv]
            go_wp2_with fail
            go_meet
            exact ⟨rfl, by rw [← unhide H5]; simp [hv]⟩
        | false =>
          go_wp2_with fail
          go_meet
          exact ⟨rfl, by rw [← unhide H5]; simp⟩
      case rest =>
        obtain ⟨hz, rfl⟩ := hcut
        subst hz
        clear c13
        go_upto_region 10 with fail
        go_cut [52] (fun t wc => Z = wc ∧ t = .int .i64 f)
        case first =>
          go_wp2_with fail
          go_meet
          exact ⟨rfl, rfl⟩
        case rest =>
          obtain ⟨hz, rfl⟩ := hcut
          subst hz
          rename_i KA hA KB hB
          refine hB _ _ ?_
          go_cut [12] (fun t wc => ∃ (Y : World) (p' : Ml) (l' : Lm) (u : Bool), Y = wc ∧ t = .bool u ∧ Hid (UnI w p' l' u Y))
          case first =>
            obtain ⟨c0, c1, c2, c3, c4, c5, c6, c7, c8, c9, c10, c11, c12, c13, c14, c15, c16, c17, c18, c19⟩ := box20 (unhide HBZ)
            have z0 := (unhide HBZ).frozen
            have HFR := hide z0
            clear z0
            have e0 : f ≠ 0 := hf 0 (by omega)
            have e1 : f ≠ 1 := hf 1 (by omega)
            have e2 : f ≠ 2 := hf 2 (by omega)
            have e3 : f ≠ 3 := hf 3 (by omega)
            have e4 : f ≠ 4 := hf 4 (by omega)
            have e5 : f ≠ 5 := hf 5 (by omega)
            have e6 : f ≠ 6 := hf 6 (by omega)
            have e7 : f ≠ 7 := hf 7 (by omega)
            have e8 : f ≠ 8 := hf 8 (by omega)
            have e9 : f ≠ 9 := hf 9 (by omega)
            have e10 : f ≠ 10 := hf 10 (by omega)
            have e11 : f ≠ 11 := hf 11 (by omega)
            have e12 : f ≠ 12 := hf 12 (by omega)
            have e13 : f ≠ 13 := hf 13 (by omega)
            have q0 : (f == 0) = false := by simp [e0]
            have q1 : (f == 1) = false := by simp [e1]
            have q2 : (f == 2) = false := by simp [e2]
            have q3 : (f == 3) = false := by simp [e3]
            have q4 : (f == 4) = false := by simp [e4]
            have q5 : (f == 5) = false := by simp [e5]
            have q6 : (f == 6) = false := by simp [e6]
            have q7 : (f == 7) = false := by simp [e7]
            have q8 : (f == 8) = false := by simp [e8]
            have q9 : (f == 9) = false := by simp [e9]
            have q10 : (f == 10) = false := by simp [e10]
            have q11 : (f == 11) = false := by simp [e11]
            have q12 : (f == 12) = false := by simp [e12]
            have q13 : (f == 13) = false := by simp [e13]
            go_wp2_with fail
            go_meet
            exact ⟨_, p, l, false, rfl, rfl, hide ⟨unhide HBZ, unhide HM _ (unhide HKZ), (fun h => absurd h (by simp)), unhide HKZ⟩⟩
          case rest =>
            obtain ⟨Y, p', l', u, rfl, rfl, HU⟩ := hcut
            cases hs2 : snd p' with
            | true =>
              have hu : u = false := by
                cases u with
                | false => rfl
                | true => have := (unhide HU).no rfl; rw [hs2] at this; cases this
              subst hu
              have HS2 := hide hs2
              go_wp2_with (first
                | (refine wpList_load_guard 30 _ rfl _ rfl 30 _ (0, 0) _ (unhide HU).blk Tryd.underlying30 rfl infoMail rfl ?_)
                | (go_at_call 6; refine (enc_good (unhide HT _ (unhide HU).kept) (unhide HU).mw (unhide HS2)).mono ?_; rintro e w4 ⟨ea4, ec4, rfl, -, k4⟩; have HK4 := hide ((unhide HU).kept.step k4); clear k4))
              all_goals
                go_ret
                exact ⟨rfl, unhide HK4⟩
            | false =>
              have HS2 := hide hs2
              cases u with
              | true =>
                go_wp2_with (first
                  | (refine wpList_load_guard 30 _ rfl _ rfl 30 _ (0, 0) _ (unhide HU).blk Tryd.underlying30 rfl infoMail rfl ?_)
                  | (go_at_call 6; refine (enc_bad (unhide HT _ (unhide HU).kept) (unhide HU).mw (unhide HS2)).mono ?_; rintro e w4 ⟨rfl, k4⟩; have HK4 := hide ((unhide HU).kept.step k4); clear k4))
                all_goals
                  go_ret
                  exact ⟨rfl, unhide HK4⟩
              | false =>
                go_wp2_with (first
                  | (refine wpList_load_guard 30 _ rfl _ rfl 30 _ (0, 0) _ (unhide HU).blk Tryd.underlying30 rfl infoMail rfl ?_)
                  | (go_at_call 6; refine (enc_bad (unhide HT _ (unhide HU).kept) (unhide HU).mw (unhide HS2)).mono ?_; rintro e w4 ⟨rfl, k4⟩; have HK4 := hide ((unhide HU).kept.step k4); clear k4))
                all_goals
                  go_ret
                  exact ⟨rfl, unhide HK4⟩
end Go.Proofs.YtfhfkpgfnlmfhabDoor
