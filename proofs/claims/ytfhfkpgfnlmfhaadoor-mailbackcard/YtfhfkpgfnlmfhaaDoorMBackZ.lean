/- MailBack. -/
import Derived.Test.YtfhfkpgfnlmfhaaDoorPkBF
import Derived.Deep.RegionHeld3
namespace Go.Proofs.YtfhfkpgfnlmfhaaDoor
open Go.RowKit

theorem TwoM.begin {w : World} {p q : Ml} {l m : Lm} : TwoM w p q l m ((w.alloc (.cells (mcc p l) 30)).alloc (.cells (mcc q m) 30)) := ⟨(Blk.new _ _ _).alloc _, new1 _ _ _ _, ((Kept.refl [] w).alloc _).alloc _⟩
/-- A form's first bytes. -/
theorem enc_four {p : Ml} (hs : snd p = true) : ∃ a b c d : Nat, p.kind = a ∧ p.frm = b ∧ p.dst = c ∧ p.shard = d ∧ (enc p).getD 0 0 = a ∧ (enc p).getD 1 0 = b ∧ (enc p).getD 2 0 = c ∧ (enc p).getD 3 0 = d := by
  have ho := snd_len hs
  obtain ⟨h1, h2⟩ := (snd_iff p).1 hs
  unfold shardP at h1
  have hk : 0 ≤ p.kind ∧ 0 ≤ p.frm ∧ 0 ≤ p.dst := by
    rcases h2 with ⟨h1, h2, h3, _⟩ | ⟨h1, h2, h3, _⟩ | ⟨h1, _, h2, h3, _⟩ | ⟨h1, ⟨h2, h3, _⟩, _⟩
    · unfold cliP at h2; unfold srvP at h3; omega
    · unfold srvP at h2; unfold cliP at h3; omega
    · unfold srvP at h2 h3; omega
    · unfold srvP at h2 h3; omega
  have he : enc p = p.kind.toNat :: p.frm.toNat :: p.dst.toNat :: p.shard.toNat :: (encL p (mid p ++ fin p) ++ le (crc (body p)) 4) := by
    unfold enc summed
    rw [body_0, form_small (n := p.shard.toNat) (by omega)]
    simp
  refine ⟨p.kind.toNat, p.frm.toNat, p.dst.toNat, p.shard.toNat, by omega, by omega, by omega, by omega, ?_, ?_, ?_, ?_⟩ <;> rw [he] <;> rfl
set_option maxRecDepth 100000 in
set_option maxHeartbeats 3200000 in
theorem back_nn (w : World) (p q : Ml) (l m : Lm) (ht : Tab w) (h1 : MW w p l) (h2 : MW w q m) (hs : snd p = false) (hs2 : snd q = false) : Calls Tryd.prog 4 #[mv p l, mv q m] w fun e w' => e = .returned (.bool true) ∧ Kept [] w w' := by
  have HT := hide (fun W (k : Kept [] w W) => ht.kept k (by simp))
  have HM := hide (fun W (k : Kept [] w W) => h1.kept k)
  have HM2 := hide (fun W (k : Kept [] w W) => h2.kept k)
  have HS := hide hs
  have HS2 := hide hs2
  have HR := hide (And.intro (And.intro h1.root h1.byt) (And.intro h2.root h2.byt))
  clear ht h1 h2 hs hs2
  unfold mv
  go_enter Tryd.func4, Tryd.ntmps4
  go_upto_region 1 with fail
  refine world_at (R := fun X => TwoM w p q l m X) TwoM.begin ?_
  rintro X hx
  have HX := hide hx
  have HG1 : Hid True := trivial
  clear hx
  go_upto_region 5 with (first
    | (go_at_call 15; refine (awake_any _ (unhide HT _ (unhide HX).kept)).mono ?_; rintro e w1 ⟨rfl, k1⟩; have HX1 := hide ((unhide HX).go k1); clear k1 HX)
    | (refine wpList_load_guard 30 _ rfl _ rfl 30 _ (0, 0) _ (unhide HX1).one Tryd.underlying30 rfl infoMail rfl ?_)
    | (refine wpList_load_guard 30 _ rfl _ rfl 30 _ (0, 0) _ (unhide HX2).two Tryd.underlying30 rfl infoMail rfl ?_)
    | (go_at_call 11; clear HG1; refine (enc_bad (unhide HT _ (unhide HX1).kept) (unhide HM _ (unhide HX1).kept) (unhide HS)).mono ?_; rintro e w2 ⟨rfl, k2⟩; have HX2 := hide ((unhide HX1).go k2); clear k2 HX1)
    | (go_at_call 11; refine (enc_bad (unhide HT _ (unhide HX2).kept) (unhide HM2 _ (unhide HX2).kept) (unhide HS2)).mono ?_; rintro e w3 ⟨rfl, k3⟩; have HX3 := hide ((unhide HX2).go k3); have HK3 := hide k3; clear k3 HX2))
  go_cut [38] (fun t wc => t = .bool false ∧ ∃ Z, Z = wc ∧ Hid (Kept [] w3 Z))
  case first =>
    go_quiet (fail)
    go_wp2_with fail
    go_meet
    exact ⟨rfl, _, rfl, hide ((Kept.refl [] w3).drewN _)⟩
  case rest =>
    obtain ⟨rfl, Z, rfl, hz⟩ := hcut
    have HX4 := hide ((unhide HX3).go (unhide hz))
    clear HX3 hz
    go_wp2_with (first
      | (refine wpList_load_guard 30 _ rfl _ rfl 30 _ (0, 0) _ (unhide HX4).one Tryd.underlying30 rfl infoMail rfl ?_)
      | (go_at_call 12; refine sound_is.mono ?_; rintro e w8 ⟨rfl, k8⟩; rw [unhide HS]; have HK8 := hide ((unhide HX4).kept.step k8); clear k8))
    all_goals
      go_ret
      exact ⟨rfl, unhide HK8⟩
set_option maxRecDepth 100000 in
set_option maxHeartbeats 3200000 in
theorem back_ny (w : World) (p q : Ml) (l m : Lm) (ht : Tab w) (h1 : MW w p l) (h2 : MW w q m) (hs : snd p = false) (hs2 : snd q = true) : Calls Tryd.prog 4 #[mv p l, mv q m] w fun e w' => e = .returned (.bool true) ∧ Kept [] w w' := by
  have HT := hide (fun W (k : Kept [] w W) => ht.kept k (by simp))
  have HM := hide (fun W (k : Kept [] w W) => h1.kept k)
  have HM2 := hide (fun W (k : Kept [] w W) => h2.kept k)
  have HS := hide hs
  have HS2 := hide hs2
  have HR := hide (And.intro (And.intro h1.root h1.byt) (And.intro h2.root h2.byt))
  clear ht h1 h2 hs hs2
  unfold mv
  go_enter Tryd.func4, Tryd.ntmps4
  go_upto_region 1 with fail
  refine world_at (R := fun X => TwoM w p q l m X) TwoM.begin ?_
  rintro X hx
  have HX := hide hx
  have HG1 : Hid True := trivial
  clear hx
  go_upto_region 5 with (first
    | (go_at_call 15; refine (awake_any _ (unhide HT _ (unhide HX).kept)).mono ?_; rintro e w1 ⟨rfl, k1⟩; have HX1 := hide ((unhide HX).go k1); clear k1 HX)
    | (refine wpList_load_guard 30 _ rfl _ rfl 30 _ (0, 0) _ (unhide HX1).one Tryd.underlying30 rfl infoMail rfl ?_)
    | (refine wpList_load_guard 30 _ rfl _ rfl 30 _ (0, 0) _ (unhide HX2).two Tryd.underlying30 rfl infoMail rfl ?_)
    | (go_at_call 11; clear HG1; refine (enc_bad (unhide HT _ (unhide HX1).kept) (unhide HM _ (unhide HX1).kept) (unhide HS)).mono ?_; rintro e w2 ⟨rfl, k2⟩; have HX2 := hide ((unhide HX1).go k2); clear k2 HX1)
    | (go_at_call 11; refine (enc_good (unhide HT _ (unhide HX2).kept) (unhide HM2 _ (unhide HX2).kept) (unhide HS2)).mono ?_; rintro e w3 ⟨a3, c3, rfl, ho3, k3⟩; have HX3 := hide ((unhide HX2).go k3); have HO3 := hide ho3; have HK3 := hide k3; clear k3 HX2 ho3))
  go_cut [38] (fun t wc => t = .bool false ∧ ∃ Z, Z = wc ∧ Hid (Kept [] w3 Z))
  case first =>
    go_quiet (fail)
    go_wp2_with fail
    go_meet
    exact ⟨rfl, _, rfl, hide ((Kept.refl [] w3).drewN _)⟩
  case rest =>
    obtain ⟨rfl, Z, rfl, hz⟩ := hcut
    have HX4 := hide ((unhide HX3).go (unhide hz))
    clear HX3 hz
    go_wp2_with (first
      | (refine wpList_load_guard 30 _ rfl _ rfl 30 _ (0, 0) _ (unhide HX4).one Tryd.underlying30 rfl infoMail rfl ?_)
      | (go_at_call 12; refine sound_is.mono ?_; rintro e w8 ⟨rfl, k8⟩; rw [unhide HS]; have HK8 := hide ((unhide HX4).kept.step k8); clear k8))
    all_goals
      go_ret
      exact ⟨rfl, unhide HK8⟩
set_option maxRecDepth 100000 in
set_option maxHeartbeats 3200000 in
theorem back_yn (w : World) (p q : Ml) (l m : Lm) (ht : Tab w) (h1 : MW w p l) (h2 : MW w q m) (hs : snd p = true) (hs2 : snd q = false) : Calls Tryd.prog 4 #[mv p l, mv q m] w fun e w' => e = .returned (.bool true) ∧ Kept [] w w' := by
  have HT := hide (fun W (k : Kept [] w W) => ht.kept k (by simp))
  have HM := hide (fun W (k : Kept [] w W) => h1.kept k)
  have HM2 := hide (fun W (k : Kept [] w W) => h2.kept k)
  have HS := hide hs
  have HS2 := hide hs2
  have HR := hide (And.intro (And.intro h1.root h1.byt) (And.intro h2.root h2.byt))
  clear ht h1 h2 hs hs2
  unfold mv
  go_enter Tryd.func4, Tryd.ntmps4
  go_upto_region 1 with fail
  refine world_at (R := fun X => TwoM w p q l m X) TwoM.begin ?_
  rintro X hx
  have HX := hide hx
  have HG1 : Hid True := trivial
  clear hx
  go_upto_region 5 with (first
    | (go_at_call 15; refine (awake_any _ (unhide HT _ (unhide HX).kept)).mono ?_; rintro e w1 ⟨rfl, k1⟩; have HX1 := hide ((unhide HX).go k1); clear k1 HX)
    | (refine wpList_load_guard 30 _ rfl _ rfl 30 _ (0, 0) _ (unhide HX1).one Tryd.underlying30 rfl infoMail rfl ?_)
    | (refine wpList_load_guard 30 _ rfl _ rfl 30 _ (0, 0) _ (unhide HX2).two Tryd.underlying30 rfl infoMail rfl ?_)
    | (go_at_call 11; clear HG1; refine (enc_at (unhide HT _ (unhide HX1).kept) (unhide HM _ (unhide HX1).kept) (unhide HS)).mono ?_; rintro e w2 ⟨b, off, cap, L, rfl, he, k2⟩; have HX2 := hide ((unhide HX1).go k2); have HE := hide he; have hl5 := he.l5; have hcap := he.cap1; have hL := he.len; clear k2 he HX1)
    | (go_at_call 11; refine (enc_bad (unhide HT _ (unhide HX2).kept) (unhide HM2 _ (unhide HX2).kept) (unhide HS2)).mono ?_; rintro e w3 ⟨rfl, k3⟩; have HX3 := hide ((unhide HX2).go k3); have HK3 := hide k3; clear k3 HX2))
  have HE3 := hide ((unhide HE).kept (unhide HK3))
  clear HE HK3
  go_cut [38] (fun t wc => t = .bool false ∧ ∃ Z, Z = wc ∧ Hid (Kept [] w3 Z))
  case first =>
    go_quiet (fail)
    go_wp2_with fail
    go_meet
    exact ⟨rfl, _, rfl, hide ((Kept.refl [] w3).drewN _)⟩
  case rest =>
    obtain ⟨rfl, Z, rfl, hz⟩ := hcut
    have HX4 := hide ((unhide HX3).go (unhide hz))
    have HE4 := hide ((unhide HE3).kept (unhide hz))
    clear HX3 HE3 hz
    have hd := decE_enc (unhide HS) (unhide HR).1.1
    have HDB := hide (enc_lt (unhide HS) (unhide HR).1.1 (unhide HR).1.2)
    have HD := hide (dec_all (unhide HT _ (unhide HX4).kept) (unhide HE4).all (unhide HDB) hd.1)
    rw [hd.2] at HD
    have e1 : (((L : Int) + 4) < 9) = False := eq_false (by omega)
    have e2 : wrap64 ((L : Int) + 4 - 4) = (L : Int) := by unfold wrap64; omega
    have e3 : ((262168 : Int) < ((L : Int) + 4)) = False := eq_false (by omega)
    clear hd
    go_upto_region 13 with (first
      | (go_at_call 17; refine (unhide HD).mono ?_; rintro e w5 ⟨l5, rfl, hm5, k5⟩; have HX5 := hide ((unhide HX4).go k5); have HE5 := hide ((unhide HE4).kept k5); have HM5 := hide hm5; clear hm5 k5 HX4 HE4 HD)
      | (refine wpList_store_row rfl 30 _ _ rfl _ (mcc p l5) rfl rfl 30 _ (Blk.new w5 _ _) infoMail rfl (by simp [mcc, Value.oneCell']) ?_; refine world_at (R := fun X => Blk X w5.heap.size (mcc p l5) 30 ∧ Kept [] w5 X) ⟨setRow_heap _ _ _ _ _ _ (Blk.new w5 _ _), ((Kept.refl [] w5).alloc _).setRow (Or.inr (Nat.le_refl _)) _⟩ ?_; rintro X6 ⟨hb6, k6⟩; have HB6 := hide hb6; have HM6 := hide ((unhide HM5).kept k6); have HX6 := hide ((unhide HX5).go k6); have HE6 := hide ((unhide HE5).kept k6); clear hb6 k6 HM5 HX5 HE5)
      | (refine wpList_load_guard 30 _ rfl _ rfl 30 _ (0, 0) _ (unhide HX6).one Tryd.underlying30 rfl infoMail rfl ?_)
      | (refine wpList_load_guard 30 _ rfl _ rfl 30 _ (0, 0) _ (unhide HB6) Tryd.underlying30 rfl infoMail rfl ?_)
      | (go_at_call 16; refine (same_mail (unhide HM _ (unhide HX6).kept) (unhide HM6)).mono ?_; rintro e w7 ⟨rfl, k7⟩; have HX7 := hide ((unhide HX6).go k7); have HE7 := hide ((unhide HE6).kept k7); clear k7 HX6 HE6 HM6 HB6)
      | (refine wpList_load_guard 30 _ rfl _ rfl 30 _ (0, 0) _ (unhide HX7).one Tryd.underlying30 rfl infoMail rfl ?_)
      | (go_at_call 12; refine sound_is.mono ?_; rintro e w8 ⟨rfl, k8⟩; rw [unhide HS]; have HX8 := hide ((unhide HX7).go k8); have HE8 := hide ((unhide HE7).kept k8); clear k8 HX7 HE7))
    obtain ⟨ka, kb, kc, kd, q1, q2, q3, q4, q5, q6, q7, q8⟩ := enc_four (unhide HS)
    have hel := enc_len p
    have hcell : ∀ i, i < L + 4 → w8.cell? ⟨b, off + i, none⟩ = some (.int .u8 ((enc p).getD i 0 : Nat)) := by
      obtain ⟨b', off', h1, -, -, -, -, h4⟩ := wides (unhide HE8).all (by omega)
      cases h1
      intro i hi
      exact h4 i (by omega)
    have l0 : ka < 256 := by rw [← q5]; exact getD_lt8 (unhide HDB) (by omega)
    have v0 : IntKind.i64.wrap (ka : Int) = (ka : Int) := by rw [IntKind.wrap_i64]; omega
    have l1 : kb < 256 := by rw [← q6]; exact getD_lt8 (unhide HDB) (by omega)
    have v1 : IntKind.i64.wrap (kb : Int) = (kb : Int) := by rw [IntKind.wrap_i64]; omega
    have l2 : kc < 256 := by rw [← q7]; exact getD_lt8 (unhide HDB) (by omega)
    have v2 : IntKind.i64.wrap (kc : Int) = (kc : Int) := by rw [IntKind.wrap_i64]; omega
    have l3 : kd < 256 := by rw [← q8]; exact getD_lt8 (unhide HDB) (by omega)
    have v3 : IntKind.i64.wrap (kd : Int) = (kd : Int) := by rw [IntKind.wrap_i64]; omega
    have d0 : w8.cell? ⟨b, off, none⟩ = some (.int .u8 ((enc p).getD 0 0 : Nat)) := hcell 0 (by omega)
    have d1 := hcell 1 (by omega)
    have d2 := hcell 2 (by omega)
    have d3 := hcell 3 (by omega)
    rw [q5] at d0
    rw [q6] at d1
    rw [q7] at d2
    rw [q8] at d3
    obtain ⟨c0, c1, c2, c3, -⟩ := box20 (unhide HX8).one
    rw [q1] at c0
    rw [q2] at c1
    rw [q3] at c2
    rw [q4] at c3
    have HSB : Hid (∀ W, Kept [] w8 W → Calls Tryd.prog 18 #[.slice (some ⟨b, off, none⟩) L cap] W fun e w' => ∃ a c, e = .returned (.slice a (L + 4) c) ∧ Wide w' (.slice a (L + 4) c) (enc p) ∧ Kept [] W w') := hide (fun W (k : Kept [] w8 W) => by
      have hw := ((unhide HE8).kept k).part L (Nat.le_refl _)
      rw [List.take_of_length_le (by omega)] at hw
      refine (summed_any (unhide HT _ ((unhide HX8).kept.step k)) hw (body_lt (unhide HS) (unhide HR).1.1 (unhide HR).1.2) (by omega)).mono ?_
      rintro e w' ⟨hk, a, c, rfl, ho⟩
      have e2 : (summed (body p)).length = L + 4 := by rw [summed_len, hL]
      have hwd : Wide w' _ (summed (body p)) := Or.inl (Sees.of_own ho)
      rw [e2] at hwd ⊢
      exact ⟨a, c, rfl, hwd, hk⟩)
    have HCL := hide (And.intro c0 (And.intro c1 (And.intro c2 c3)))
    have HLE : Hid ((enc p).length ≤ 140737488355328) := by unfold Hid; omega
    have HALL := hide (fun W (k : Kept [] w8 W) => (unhide HE8).all.kept k)
    have HKX := hide (unhide HX8).kept
    have HL1 := hide (And.intro (unhide HE8).lt (unhide HX8).one.lt)
    have d0k := fun W (k : Kept [] w8 W) => (k.cell (p := ⟨b, off, none⟩) (unhide HL1).1 (by simp)).trans d0
    have d1k := fun W (k : Kept [] w8 W) => (k.cell (p := ⟨b, off + 1, none⟩) (unhide HL1).1 (by simp)).trans d1
    have d2k := fun W (k : Kept [] w8 W) => (k.cell (p := ⟨b, off + 2, none⟩) (unhide HL1).1 (by simp)).trans d2
    have d3k := fun W (k : Kept [] w8 W) => (k.cell (p := ⟨b, off + 3, none⟩) (unhide HL1).1 (by simp)).trans d3
    have c0k := fun W (k : Kept [] w8 W) => (k.cell (p := ⟨w.heap.size, 0, none⟩) (unhide HL1).2 (by simp)).trans c0
    have c1k := fun W (k : Kept [] w8 W) => (k.cell (p := ⟨w.heap.size, 1, none⟩) (unhide HL1).2 (by simp)).trans c1
    have c2k := fun W (k : Kept [] w8 W) => (k.cell (p := ⟨w.heap.size, 2, none⟩) (unhide HL1).2 (by simp)).trans c2
    have c3k := fun W (k : Kept [] w8 W) => (k.cell (p := ⟨w.heap.size, 3, none⟩) (unhide HL1).2 (by simp)).trans c3
    clear hcell q1 q2 q3 q4 q5 q6 q7 q8 hel HE8 HX8 HDB HM HM2 HR HS HS2 HT HCL hL
    have f0 : (0 : Int) < (L : Int) + 4 := by omega
    have f1 : (1 : Int) < (L : Int) + 4 := by omega
    have f2 : (2 : Int) < (L : Int) + 4 := by omega
    have f3 : (3 : Int) < (L : Int) + 4 := by omega
    have g0 : 0 < L + 4 := by omega
    have g1 : 1 < L + 4 := by omega
    have g2 : 2 < L + 4 := by omega
    have g3 : 3 < L + 4 := by omega
    have f4 : (L : Int) ≤ (cap : Int) := by omega
    have f5 : L ≤ cap := by omega
    have f6 : (0 : Int) ≤ (L : Int) := by omega
    go_region_held3 (fun W => W.cell? ⟨b, off, none⟩ = some (.int .u8 (ka : Nat)) ∧ W.cell? ⟨b, off + 1, none⟩ = some (.int .u8 (kb : Nat)) ∧ W.cell? ⟨b, off + 2, none⟩ = some (.int .u8 (kc : Nat)) ∧ W.cell? ⟨b, off + 3, none⟩ = some (.int .u8 (kd : Nat)) ∧ W.cell? ⟨w.heap.size, 0, none⟩ = some (.int .i64 (ka : Nat)) ∧ W.cell? ⟨w.heap.size, 1, none⟩ = some (.int .i64 (kb : Nat)) ∧ W.cell? ⟨w.heap.size, 2, none⟩ = some (.int .i64 (kc : Nat)) ∧ W.cell? ⟨w.heap.size, 3, none⟩ = some (.int .i64 (kd : Nat))) (go_keep) (first
      | (go_at_call 18; refine (unhide HSB _ (by first | exact Kept.refl _ _ | exact (Kept.refl _ _).drew)).mono ?_; rintro e w9 ⟨a9, c9, rfl, hw9, k9⟩; have K9 : Hid (Kept [] w8 w9) := hide (by first | exact k9 | exact Kept.step ((Kept.refl [] w8).drew) k9); have HW9 := hide hw9; have d0 := d0k _ (unhide K9); have d1 := d1k _ (unhide K9); have d2 := d2k _ (unhide K9); have d3 := d3k _ (unhide K9); have c0 := c0k _ (unhide K9); have c1 := c1k _ (unhide K9); have c2 := c2k _ (unhide K9); have c3 := c3k _ (unhide K9); clear k9 hw9)
      | (go_at_call 14; refine (same_full (by first | exact unhide HW9 | exact (unhide HW9).kept (Kept.refl _ _).drew) (by first | exact unhide HALL _ (unhide K9) | exact unhide HALL _ (unhide K9).drew) (unhide HLE)).mono ?_; rintro e w10 ⟨rfl, k10⟩; have K10 : Hid (Kept [] w8 w10) := hide (by first | exact (unhide K9).step k10 | exact (unhide K9).drew.step k10); rw [show decide (enc p = enc p) = true from decide_eq_true rfl]; have d0 := d0k _ (unhide K10); have d1 := d1k _ (unhide K10); have d2 := d2k _ (unhide K10); have d3 := d3k _ (unhide K10); have c0 := c0k _ (unhide K10); have c1 := c1k _ (unhide K10); have c2 := c2k _ (unhide K10); have c3 := c3k _ (unhide K10); clear k10))
    all_goals
      go_wp2_with fail
      go_ret
      exact ⟨rfl, (unhide HKX).step (unhide K10)⟩
set_option maxRecDepth 100000 in
set_option maxHeartbeats 3200000 in
theorem back_yy (w : World) (p q : Ml) (l m : Lm) (ht : Tab w) (h1 : MW w p l) (h2 : MW w q m) (hs : snd p = true) (hs2 : snd q = true) : Calls Tryd.prog 4 #[mv p l, mv q m] w fun e w' => e = .returned (.bool true) ∧ Kept [] w w' := by
  have HT := hide (fun W (k : Kept [] w W) => ht.kept k (by simp))
  have HM := hide (fun W (k : Kept [] w W) => h1.kept k)
  have HM2 := hide (fun W (k : Kept [] w W) => h2.kept k)
  have HS := hide hs
  have HS2 := hide hs2
  have HR := hide (And.intro (And.intro h1.root h1.byt) (And.intro h2.root h2.byt))
  clear ht h1 h2 hs hs2
  unfold mv
  go_enter Tryd.func4, Tryd.ntmps4
  go_upto_region 1 with fail
  refine world_at (R := fun X => TwoM w p q l m X) TwoM.begin ?_
  rintro X hx
  have HX := hide hx
  have HG1 : Hid True := trivial
  clear hx
  go_upto_region 5 with (first
    | (go_at_call 15; refine (awake_any _ (unhide HT _ (unhide HX).kept)).mono ?_; rintro e w1 ⟨rfl, k1⟩; have HX1 := hide ((unhide HX).go k1); clear k1 HX)
    | (refine wpList_load_guard 30 _ rfl _ rfl 30 _ (0, 0) _ (unhide HX1).one Tryd.underlying30 rfl infoMail rfl ?_)
    | (refine wpList_load_guard 30 _ rfl _ rfl 30 _ (0, 0) _ (unhide HX2).two Tryd.underlying30 rfl infoMail rfl ?_)
    | (go_at_call 11; clear HG1; refine (enc_at (unhide HT _ (unhide HX1).kept) (unhide HM _ (unhide HX1).kept) (unhide HS)).mono ?_; rintro e w2 ⟨b, off, cap, L, rfl, he, k2⟩; have HX2 := hide ((unhide HX1).go k2); have HE := hide he; have hl5 := he.l5; have hcap := he.cap1; have hL := he.len; clear k2 he HX1)
    | (go_at_call 11; refine (enc_good (unhide HT _ (unhide HX2).kept) (unhide HM2 _ (unhide HX2).kept) (unhide HS2)).mono ?_; rintro e w3 ⟨a3, c3, rfl, ho3, k3⟩; have HX3 := hide ((unhide HX2).go k3); have HO3 := hide ho3; have HK3 := hide k3; clear k3 HX2 ho3))
  have HE3 := hide ((unhide HE).kept (unhide HK3))
  clear HE HK3
  go_cut [38] (fun t wc => t = .bool false ∧ ∃ Z, Z = wc ∧ Hid (Kept [] w3 Z))
  case first =>
    obtain ⟨t, ht⟩ : ∃ t, eqM p q = t := ⟨_, rfl⟩
    have heq : decide (enc p = enc q) = t := by
      rw [← ht, Bool.eq_iff_iff, eqM_iff, decide_eq_true_eq]
      exact ⟨fun h => enc_inj (unhide HS) (unhide HR).1.1 (unhide HS2) (unhide HR).2.1 h, fun h => by rw [h]⟩
    have hle : (enc p).length ≤ 140737488355328 := by rw [enc_len]; omega
    have HS4 := hide (fun W (k : Kept [] w3 W) => same_full ((unhide HE3).all.kept k) (Or.inl ((unhide HO3).kept k (by simp))) hle)
    have HR4 : Hid (∀ W, Kept [] w3 W → Calls Tryd.prog 16 #[.agg (mcc p l), .agg (mcc q m)] W fun e w' => e = .returned (.bool (eqM p q)) ∧ Kept [] W w') := hide (fun W (k : Kept [] w3 W) => sameMail_any (unhide HM _ ((unhide HX3).kept.step k)) (unhide HM2 _ ((unhide HX3).kept.step k)))
    rw [heq] at HS4
    rw [ht] at HR4
    have HBP := hide (fun W (k : Kept [] w3 W) => (unhide HX3).one.kept k (by simp))
    have HBQ := hide (fun W (k : Kept [] w3 W) => (unhide HX3).two.kept k (by simp))
    clear heq ht hle
    refine wp_region_any (by kernel_rfl) ?_
    (try (change wpAny _ _ _ _ _ _ _ (World.drew _)))
    refine world_at (R := fun Y => Kept [] w3 Y) ((Kept.refl [] w3).drew) ?_
    rintro Y hY
    have KK0 := hide hY
    clear hY
    refine wpAny_take (i := 0) (v := ?_) rfl (by kernel_rfl) (by kernel_rfl) (by kernel_rfl) (fun _ _ _ h => h) (Or.inl ⟨by rfl, ?_⟩) ?_
    rotate_left 1
    · intro w; (go_simp <;> with_reducible rfl)
    simp only [List.getElem_toArray, List.getElem_cons_zero, Act.put, List.setIfInBounds_toArray, List.set_cons_succ, List.set_cons_zero]
    refine wpAny_take (i := 1) (v := ?_) rfl (by kernel_rfl) (by kernel_rfl) (by kernel_rfl) (fun _ _ _ h => h) (Or.inl ⟨by rfl, ?_⟩) ?_
    rotate_left 1
    · intro w; (go_simp <;> with_reducible rfl)
    simp only [List.getElem_toArray, List.getElem_cons_succ, List.getElem_cons_zero, Act.put, List.setIfInBounds_toArray, List.set_cons_succ, List.set_cons_zero]
    refine wpAny_take (i := 2) (v := ?_) rfl (by kernel_rfl) (by kernel_rfl) (by kernel_rfl) (fun _ _ _ h => h) (Or.inl ⟨by rfl, ?_⟩) ?_
    rotate_left 1
    · intro w; (go_simp <;> with_reducible rfl)
    simp only [List.getElem_toArray, List.getElem_cons_succ, List.getElem_cons_zero, Act.put, List.setIfInBounds_toArray, List.set_cons_succ, List.set_cons_zero]
    refine wpAny_take (i := 3) (v := ?_) rfl (by kernel_rfl) (by kernel_rfl) (by kernel_rfl) (fun _ _ _ h => h) (Or.inl ⟨by rfl, ?_⟩) ?_
    rotate_left 1
    · intro w; (go_simp <;> with_reducible rfl)
    simp only [List.getElem_toArray, List.getElem_cons_succ, List.getElem_cons_zero, Act.put, List.setIfInBounds_toArray, List.set_cons_succ, List.set_cons_zero]
    refine wpAny_take (i := 4) (v := ?_) rfl (by kernel_rfl) (by kernel_rfl) (by kernel_rfl) (fun _ _ _ h => h) (Or.inl ⟨by rfl, ?_⟩) ?_
    rotate_left 1
    · intro w; (go_simp <;> with_reducible rfl)
    simp only [List.getElem_toArray, List.getElem_cons_succ, List.getElem_cons_zero, Act.put, List.setIfInBounds_toArray, List.set_cons_succ, List.set_cons_zero]
    refine wpAny_take (i := 5) (v := ?_) rfl (by kernel_rfl) (by kernel_rfl) (by kernel_rfl) (fun _ _ _ h => h) (Or.inl ⟨by rfl, ?_⟩) ?_
    rotate_left 1
    · intro w; (go_simp <;> with_reducible rfl)
    simp only [List.getElem_toArray, List.getElem_cons_succ, List.getElem_cons_zero, Act.put, List.setIfInBounds_toArray, List.set_cons_succ, List.set_cons_zero]
    refine wpAny_take (i := 6) (v := ?_) rfl (by kernel_rfl) (by kernel_rfl) (by kernel_rfl) (fun _ _ _ h => h) (Or.inl ⟨by rfl, ?_⟩) ?_
    rotate_left 1
    · intro w; (go_simp <;> with_reducible rfl)
    simp only [List.getElem_toArray, List.getElem_cons_succ, List.getElem_cons_zero, Act.put, List.setIfInBounds_toArray, List.set_cons_succ, List.set_cons_zero]
    refine wpAny_take (i := 7) (v := ?_) rfl (by kernel_rfl) (by kernel_rfl) (by kernel_rfl) (fun _ _ _ h => h) (Or.inl ⟨by rfl, ?_⟩) ?_
    rotate_left 1
    · intro w; (go_simp <;> with_reducible rfl)
    simp only [List.getElem_toArray, List.getElem_cons_succ, List.getElem_cons_zero, Act.put, List.setIfInBounds_toArray, List.set_cons_succ, List.set_cons_zero]
    refine wpAny_take (i := 8) (v := ?_) rfl (by kernel_rfl) (by kernel_rfl) (by kernel_rfl) (fun _ _ _ h => h) (Or.inl ⟨by rfl, ?_⟩) ?_
    rotate_left 1
    · intro w; (go_simp <;> with_reducible rfl)
    simp only [List.getElem_toArray, List.getElem_cons_succ, List.getElem_cons_zero, Act.put, List.setIfInBounds_toArray, List.set_cons_succ, List.set_cons_zero]
    refine wpAny_ready (rs := [9, 10, 11]) (by kernel_rfl) (by simp) ?_
    refine AllReady.cons rfl (fun K hK => ?_) (AllReady.cons rfl (fun K hK => ?_) (AllReady.cons rfl (fun K hK => ?_) AllReady.nil))
    · go_simp
      go_wp2_with (first | (go_at_call 14; refine (unhide HS4 _ (unhide KK0)).mono ?_; rintro e y1 ⟨rfl, k1⟩; have KK1 := hide ((unhide KK0).step k1); clear k1))
      (try (refine hK _ _ ?_; clear hK K))
      refine wpAny_ready (rs := [10, 11]) (by kernel_rfl) (by simp) ?_
      refine AllReady.cons rfl (fun K hK => ?_) (AllReady.cons rfl (fun K hK => ?_) AllReady.nil)
      · refine step_load_row rfl 30 _ rfl _ rfl 30 _ (0, 0) _ (unhide HBP _ (unhide KK1)) Tryd.underlying30 rfl infoMail ?_
        refine hK _ _ ?_; clear hK K
        simp only [List.getElem_toArray, List.getElem_cons_succ, List.getElem_cons_zero, Act.put, List.setIfInBounds_toArray, List.set_cons_succ, List.set_cons_zero]
        refine wpAny_ready (rs := [11]) (by kernel_rfl) (by simp) ?_
        refine AllReady.cons rfl (fun K hK => ?_) AllReady.nil
        refine step_load_row rfl 30 _ rfl _ rfl 30 _ (0, 0) _ (unhide HBQ _ (unhide KK1)) Tryd.underlying30 rfl infoMail ?_
        refine hK _ _ ?_; clear hK K
        simp only [List.getElem_toArray, List.getElem_cons_succ, List.getElem_cons_zero, Act.put, List.setIfInBounds_toArray, List.set_cons_succ, List.set_cons_zero]
        refine wpAny_ready (rs := [12]) (by kernel_rfl) (by simp) ?_
        refine AllReady.cons rfl (fun K hK => ?_) AllReady.nil
        go_simp
        go_wp2_with (first | (go_at_call 16; refine (unhide HR4 _ (unhide KK1)).mono ?_; rintro e y2 ⟨rfl, k2⟩; have KK2 := hide ((unhide KK1).step k2); clear k2))
        (try (refine hK _ _ ?_; clear hK K))
        refine wpAny_take (i := 13) (v := ?_) rfl (by kernel_rfl) (by kernel_rfl) (by kernel_rfl) (fun _ _ _ h => h) (Or.inl ⟨by rfl, ?_⟩) ?_
        rotate_left 1
        · intro w; (go_simp <;> with_reducible rfl)
        simp only [List.getElem_toArray, List.getElem_cons_succ, List.getElem_cons_zero, Act.put, List.setIfInBounds_toArray, List.set_cons_succ, List.set_cons_zero]
        refine wpAny_take (i := 14) (v := ?_) rfl (by kernel_rfl) (by kernel_rfl) (by kernel_rfl) (fun _ _ _ h => h) (Or.inl ⟨by rfl, ?_⟩) ?_
        rotate_left 1
        · intro w; (go_simp <;> with_reducible rfl)
        simp only [List.getElem_toArray, List.getElem_cons_succ, List.getElem_cons_zero, Act.put, List.setIfInBounds_toArray, List.set_cons_succ, List.set_cons_zero]
        refine wpAny_done (by kernel_rfl) ?_ _
        go_wp2_with fail
        go_meet
        exact ⟨by simp, _, rfl, KK2⟩
      · refine step_load_row rfl 30 _ rfl _ rfl 30 _ (0, 0) _ (unhide HBQ _ (unhide KK1)) Tryd.underlying30 rfl infoMail ?_
        refine hK _ _ ?_; clear hK K
        simp only [List.getElem_toArray, List.getElem_cons_succ, List.getElem_cons_zero, Act.put, List.setIfInBounds_toArray, List.set_cons_succ, List.set_cons_zero]
        refine wpAny_ready (rs := [10]) (by kernel_rfl) (by simp) ?_
        refine AllReady.cons rfl (fun K hK => ?_) AllReady.nil
        refine step_load_row rfl 30 _ rfl _ rfl 30 _ (0, 0) _ (unhide HBP _ (unhide KK1)) Tryd.underlying30 rfl infoMail ?_
        refine hK _ _ ?_; clear hK K
        simp only [List.getElem_toArray, List.getElem_cons_succ, List.getElem_cons_zero, Act.put, List.setIfInBounds_toArray, List.set_cons_succ, List.set_cons_zero]
        refine wpAny_ready (rs := [12]) (by kernel_rfl) (by simp) ?_
        refine AllReady.cons rfl (fun K hK => ?_) AllReady.nil
        go_simp
        go_wp2_with (first | (go_at_call 16; refine (unhide HR4 _ (unhide KK1)).mono ?_; rintro e y2 ⟨rfl, k2⟩; have KK2 := hide ((unhide KK1).step k2); clear k2))
        (try (refine hK _ _ ?_; clear hK K))
        refine wpAny_take (i := 13) (v := ?_) rfl (by kernel_rfl) (by kernel_rfl) (by kernel_rfl) (fun _ _ _ h => h) (Or.inl ⟨by rfl, ?_⟩) ?_
        rotate_left 1
        · intro w; (go_simp <;> with_reducible rfl)
        simp only [List.getElem_toArray, List.getElem_cons_succ, List.getElem_cons_zero, Act.put, List.setIfInBounds_toArray, List.set_cons_succ, List.set_cons_zero]
        refine wpAny_take (i := 14) (v := ?_) rfl (by kernel_rfl) (by kernel_rfl) (by kernel_rfl) (fun _ _ _ h => h) (Or.inl ⟨by rfl, ?_⟩) ?_
        rotate_left 1
        · intro w; (go_simp <;> with_reducible rfl)
        simp only [List.getElem_toArray, List.getElem_cons_succ, List.getElem_cons_zero, Act.put, List.setIfInBounds_toArray, List.set_cons_succ, List.set_cons_zero]
        refine wpAny_done (by kernel_rfl) ?_ _
        go_wp2_with fail
        go_meet
        exact ⟨by simp, _, rfl, KK2⟩
    · refine step_load_row rfl 30 _ rfl _ rfl 30 _ (0, 0) _ (unhide HBP _ (unhide KK0)) Tryd.underlying30 rfl infoMail ?_
      refine hK _ _ ?_; clear hK K
      simp only [List.getElem_toArray, List.getElem_cons_succ, List.getElem_cons_zero, Act.put, List.setIfInBounds_toArray, List.set_cons_succ, List.set_cons_zero]
      refine wpAny_ready (rs := [9, 11]) (by kernel_rfl) (by simp) ?_
      refine AllReady.cons rfl (fun K hK => ?_) (AllReady.cons rfl (fun K hK => ?_) AllReady.nil)
      · go_simp
        go_wp2_with (first | (go_at_call 14; refine (unhide HS4 _ (unhide KK0)).mono ?_; rintro e y1 ⟨rfl, k1⟩; have KK1 := hide ((unhide KK0).step k1); clear k1))
        (try (refine hK _ _ ?_; clear hK K))
        refine wpAny_ready (rs := [11]) (by kernel_rfl) (by simp) ?_
        refine AllReady.cons rfl (fun K hK => ?_) AllReady.nil
        refine step_load_row rfl 30 _ rfl _ rfl 30 _ (0, 0) _ (unhide HBQ _ (unhide KK1)) Tryd.underlying30 rfl infoMail ?_
        refine hK _ _ ?_; clear hK K
        simp only [List.getElem_toArray, List.getElem_cons_succ, List.getElem_cons_zero, Act.put, List.setIfInBounds_toArray, List.set_cons_succ, List.set_cons_zero]
        refine wpAny_ready (rs := [12]) (by kernel_rfl) (by simp) ?_
        refine AllReady.cons rfl (fun K hK => ?_) AllReady.nil
        go_simp
        go_wp2_with (first | (go_at_call 16; refine (unhide HR4 _ (unhide KK1)).mono ?_; rintro e y2 ⟨rfl, k2⟩; have KK2 := hide ((unhide KK1).step k2); clear k2))
        (try (refine hK _ _ ?_; clear hK K))
        refine wpAny_take (i := 13) (v := ?_) rfl (by kernel_rfl) (by kernel_rfl) (by kernel_rfl) (fun _ _ _ h => h) (Or.inl ⟨by rfl, ?_⟩) ?_
        rotate_left 1
        · intro w; (go_simp <;> with_reducible rfl)
        simp only [List.getElem_toArray, List.getElem_cons_succ, List.getElem_cons_zero, Act.put, List.setIfInBounds_toArray, List.set_cons_succ, List.set_cons_zero]
        refine wpAny_take (i := 14) (v := ?_) rfl (by kernel_rfl) (by kernel_rfl) (by kernel_rfl) (fun _ _ _ h => h) (Or.inl ⟨by rfl, ?_⟩) ?_
        rotate_left 1
        · intro w; (go_simp <;> with_reducible rfl)
        simp only [List.getElem_toArray, List.getElem_cons_succ, List.getElem_cons_zero, Act.put, List.setIfInBounds_toArray, List.set_cons_succ, List.set_cons_zero]
        refine wpAny_done (by kernel_rfl) ?_ _
        go_wp2_with fail
        go_meet
        exact ⟨by simp, _, rfl, KK2⟩
      · refine step_load_row rfl 30 _ rfl _ rfl 30 _ (0, 0) _ (unhide HBQ _ (unhide KK0)) Tryd.underlying30 rfl infoMail ?_
        refine hK _ _ ?_; clear hK K
        simp only [List.getElem_toArray, List.getElem_cons_succ, List.getElem_cons_zero, Act.put, List.setIfInBounds_toArray, List.set_cons_succ, List.set_cons_zero]
        refine wpAny_ready (rs := [9]) (by kernel_rfl) (by simp) ?_
        refine AllReady.cons rfl (fun K hK => ?_) AllReady.nil
        go_simp
        go_wp2_with (first | (go_at_call 14; refine (unhide HS4 _ (unhide KK0)).mono ?_; rintro e y1 ⟨rfl, k1⟩; have KK1 := hide ((unhide KK0).step k1); clear k1))
        (try (refine hK _ _ ?_; clear hK K))
        refine wpAny_ready (rs := [12]) (by kernel_rfl) (by simp) ?_
        refine AllReady.cons rfl (fun K hK => ?_) AllReady.nil
        go_simp
        go_wp2_with (first | (go_at_call 16; refine (unhide HR4 _ (unhide KK1)).mono ?_; rintro e y2 ⟨rfl, k2⟩; have KK2 := hide ((unhide KK1).step k2); clear k2))
        (try (refine hK _ _ ?_; clear hK K))
        refine wpAny_take (i := 13) (v := ?_) rfl (by kernel_rfl) (by kernel_rfl) (by kernel_rfl) (fun _ _ _ h => h) (Or.inl ⟨by rfl, ?_⟩) ?_
        rotate_left 1
        · intro w; (go_simp <;> with_reducible rfl)
        simp only [List.getElem_toArray, List.getElem_cons_succ, List.getElem_cons_zero, Act.put, List.setIfInBounds_toArray, List.set_cons_succ, List.set_cons_zero]
        refine wpAny_take (i := 14) (v := ?_) rfl (by kernel_rfl) (by kernel_rfl) (by kernel_rfl) (fun _ _ _ h => h) (Or.inl ⟨by rfl, ?_⟩) ?_
        rotate_left 1
        · intro w; (go_simp <;> with_reducible rfl)
        simp only [List.getElem_toArray, List.getElem_cons_succ, List.getElem_cons_zero, Act.put, List.setIfInBounds_toArray, List.set_cons_succ, List.set_cons_zero]
        refine wpAny_done (by kernel_rfl) ?_ _
        go_wp2_with fail
        go_meet
        exact ⟨by simp, _, rfl, KK2⟩
    · refine step_load_row rfl 30 _ rfl _ rfl 30 _ (0, 0) _ (unhide HBQ _ (unhide KK0)) Tryd.underlying30 rfl infoMail ?_
      refine hK _ _ ?_; clear hK K
      simp only [List.getElem_toArray, List.getElem_cons_succ, List.getElem_cons_zero, Act.put, List.setIfInBounds_toArray, List.set_cons_succ, List.set_cons_zero]
      refine wpAny_ready (rs := [9, 10]) (by kernel_rfl) (by simp) ?_
      refine AllReady.cons rfl (fun K hK => ?_) (AllReady.cons rfl (fun K hK => ?_) AllReady.nil)
      · go_simp
        go_wp2_with (first | (go_at_call 14; refine (unhide HS4 _ (unhide KK0)).mono ?_; rintro e y1 ⟨rfl, k1⟩; have KK1 := hide ((unhide KK0).step k1); clear k1))
        (try (refine hK _ _ ?_; clear hK K))
        refine wpAny_ready (rs := [10]) (by kernel_rfl) (by simp) ?_
        refine AllReady.cons rfl (fun K hK => ?_) AllReady.nil
        refine step_load_row rfl 30 _ rfl _ rfl 30 _ (0, 0) _ (unhide HBP _ (unhide KK1)) Tryd.underlying30 rfl infoMail ?_
        refine hK _ _ ?_; clear hK K
        simp only [List.getElem_toArray, List.getElem_cons_succ, List.getElem_cons_zero, Act.put, List.setIfInBounds_toArray, List.set_cons_succ, List.set_cons_zero]
        refine wpAny_ready (rs := [12]) (by kernel_rfl) (by simp) ?_
        refine AllReady.cons rfl (fun K hK => ?_) AllReady.nil
        go_simp
        go_wp2_with (first | (go_at_call 16; refine (unhide HR4 _ (unhide KK1)).mono ?_; rintro e y2 ⟨rfl, k2⟩; have KK2 := hide ((unhide KK1).step k2); clear k2))
        (try (refine hK _ _ ?_; clear hK K))
        refine wpAny_take (i := 13) (v := ?_) rfl (by kernel_rfl) (by kernel_rfl) (by kernel_rfl) (fun _ _ _ h => h) (Or.inl ⟨by rfl, ?_⟩) ?_
        rotate_left 1
        · intro w; (go_simp <;> with_reducible rfl)
        simp only [List.getElem_toArray, List.getElem_cons_succ, List.getElem_cons_zero, Act.put, List.setIfInBounds_toArray, List.set_cons_succ, List.set_cons_zero]
        refine wpAny_take (i := 14) (v := ?_) rfl (by kernel_rfl) (by kernel_rfl) (by kernel_rfl) (fun _ _ _ h => h) (Or.inl ⟨by rfl, ?_⟩) ?_
        rotate_left 1
        · intro w; (go_simp <;> with_reducible rfl)
        simp only [List.getElem_toArray, List.getElem_cons_succ, List.getElem_cons_zero, Act.put, List.setIfInBounds_toArray, List.set_cons_succ, List.set_cons_zero]
        refine wpAny_done (by kernel_rfl) ?_ _
        go_wp2_with fail
        go_meet
        exact ⟨by simp, _, rfl, KK2⟩
      · refine step_load_row rfl 30 _ rfl _ rfl 30 _ (0, 0) _ (unhide HBP _ (unhide KK0)) Tryd.underlying30 rfl infoMail ?_
        refine hK _ _ ?_; clear hK K
        simp only [List.getElem_toArray, List.getElem_cons_succ, List.getElem_cons_zero, Act.put, List.setIfInBounds_toArray, List.set_cons_succ, List.set_cons_zero]
        refine wpAny_ready (rs := [9]) (by kernel_rfl) (by simp) ?_
        refine AllReady.cons rfl (fun K hK => ?_) AllReady.nil
        go_simp
        go_wp2_with (first | (go_at_call 14; refine (unhide HS4 _ (unhide KK0)).mono ?_; rintro e y1 ⟨rfl, k1⟩; have KK1 := hide ((unhide KK0).step k1); clear k1))
        (try (refine hK _ _ ?_; clear hK K))
        refine wpAny_ready (rs := [12]) (by kernel_rfl) (by simp) ?_
        refine AllReady.cons rfl (fun K hK => ?_) AllReady.nil
        go_simp
        go_wp2_with (first | (go_at_call 16; refine (unhide HR4 _ (unhide KK1)).mono ?_; rintro e y2 ⟨rfl, k2⟩; have KK2 := hide ((unhide KK1).step k2); clear k2))
        (try (refine hK _ _ ?_; clear hK K))
        refine wpAny_take (i := 13) (v := ?_) rfl (by kernel_rfl) (by kernel_rfl) (by kernel_rfl) (fun _ _ _ h => h) (Or.inl ⟨by rfl, ?_⟩) ?_
        rotate_left 1
        · intro w; (go_simp <;> with_reducible rfl)
        simp only [List.getElem_toArray, List.getElem_cons_succ, List.getElem_cons_zero, Act.put, List.setIfInBounds_toArray, List.set_cons_succ, List.set_cons_zero]
        refine wpAny_take (i := 14) (v := ?_) rfl (by kernel_rfl) (by kernel_rfl) (by kernel_rfl) (fun _ _ _ h => h) (Or.inl ⟨by rfl, ?_⟩) ?_
        rotate_left 1
        · intro w; (go_simp <;> with_reducible rfl)
        simp only [List.getElem_toArray, List.getElem_cons_succ, List.getElem_cons_zero, Act.put, List.setIfInBounds_toArray, List.set_cons_succ, List.set_cons_zero]
        refine wpAny_done (by kernel_rfl) ?_ _
        go_wp2_with fail
        go_meet
        exact ⟨by simp, _, rfl, KK2⟩
  case rest =>
    obtain ⟨rfl, Z, rfl, hz⟩ := hcut
    have HX4 := hide ((unhide HX3).go (unhide hz))
    have HE4 := hide ((unhide HE3).kept (unhide hz))
    clear HX3 HE3 hz
    have hd := decE_enc (unhide HS) (unhide HR).1.1
    have HDB := hide (enc_lt (unhide HS) (unhide HR).1.1 (unhide HR).1.2)
    have HD := hide (dec_all (unhide HT _ (unhide HX4).kept) (unhide HE4).all (unhide HDB) hd.1)
    rw [hd.2] at HD
    have e1 : (((L : Int) + 4) < 9) = False := eq_false (by omega)
    have e2 : wrap64 ((L : Int) + 4 - 4) = (L : Int) := by unfold wrap64; omega
    have e3 : ((262168 : Int) < ((L : Int) + 4)) = False := eq_false (by omega)
    clear hd
    go_upto_region 13 with (first
      | (go_at_call 17; refine (unhide HD).mono ?_; rintro e w5 ⟨l5, rfl, hm5, k5⟩; have HX5 := hide ((unhide HX4).go k5); have HE5 := hide ((unhide HE4).kept k5); have HM5 := hide hm5; clear hm5 k5 HX4 HE4 HD)
      | (refine wpList_store_row rfl 30 _ _ rfl _ (mcc p l5) rfl rfl 30 _ (Blk.new w5 _ _) infoMail rfl (by simp [mcc, Value.oneCell']) ?_; refine world_at (R := fun X => Blk X w5.heap.size (mcc p l5) 30 ∧ Kept [] w5 X) ⟨setRow_heap _ _ _ _ _ _ (Blk.new w5 _ _), ((Kept.refl [] w5).alloc _).setRow (Or.inr (Nat.le_refl _)) _⟩ ?_; rintro X6 ⟨hb6, k6⟩; have HB6 := hide hb6; have HM6 := hide ((unhide HM5).kept k6); have HX6 := hide ((unhide HX5).go k6); have HE6 := hide ((unhide HE5).kept k6); clear hb6 k6 HM5 HX5 HE5)
      | (refine wpList_load_guard 30 _ rfl _ rfl 30 _ (0, 0) _ (unhide HX6).one Tryd.underlying30 rfl infoMail rfl ?_)
      | (refine wpList_load_guard 30 _ rfl _ rfl 30 _ (0, 0) _ (unhide HB6) Tryd.underlying30 rfl infoMail rfl ?_)
      | (go_at_call 16; refine (same_mail (unhide HM _ (unhide HX6).kept) (unhide HM6)).mono ?_; rintro e w7 ⟨rfl, k7⟩; have HX7 := hide ((unhide HX6).go k7); have HE7 := hide ((unhide HE6).kept k7); clear k7 HX6 HE6 HM6 HB6)
      | (refine wpList_load_guard 30 _ rfl _ rfl 30 _ (0, 0) _ (unhide HX7).one Tryd.underlying30 rfl infoMail rfl ?_)
      | (go_at_call 12; refine sound_is.mono ?_; rintro e w8 ⟨rfl, k8⟩; rw [unhide HS]; have HX8 := hide ((unhide HX7).go k8); have HE8 := hide ((unhide HE7).kept k8); clear k8 HX7 HE7))
    obtain ⟨ka, kb, kc, kd, q1, q2, q3, q4, q5, q6, q7, q8⟩ := enc_four (unhide HS)
    have hel := enc_len p
    have hcell : ∀ i, i < L + 4 → w8.cell? ⟨b, off + i, none⟩ = some (.int .u8 ((enc p).getD i 0 : Nat)) := by
      obtain ⟨b', off', h1, -, -, -, -, h4⟩ := wides (unhide HE8).all (by omega)
      cases h1
      intro i hi
      exact h4 i (by omega)
    have l0 : ka < 256 := by rw [← q5]; exact getD_lt8 (unhide HDB) (by omega)
    have v0 : IntKind.i64.wrap (ka : Int) = (ka : Int) := by rw [IntKind.wrap_i64]; omega
    have l1 : kb < 256 := by rw [← q6]; exact getD_lt8 (unhide HDB) (by omega)
    have v1 : IntKind.i64.wrap (kb : Int) = (kb : Int) := by rw [IntKind.wrap_i64]; omega
    have l2 : kc < 256 := by rw [← q7]; exact getD_lt8 (unhide HDB) (by omega)
    have v2 : IntKind.i64.wrap (kc : Int) = (kc : Int) := by rw [IntKind.wrap_i64]; omega
    have l3 : kd < 256 := by rw [← q8]; exact getD_lt8 (unhide HDB) (by omega)
    have v3 : IntKind.i64.wrap (kd : Int) = (kd : Int) := by rw [IntKind.wrap_i64]; omega
    have d0 : w8.cell? ⟨b, off, none⟩ = some (.int .u8 ((enc p).getD 0 0 : Nat)) := hcell 0 (by omega)
    have d1 := hcell 1 (by omega)
    have d2 := hcell 2 (by omega)
    have d3 := hcell 3 (by omega)
    rw [q5] at d0
    rw [q6] at d1
    rw [q7] at d2
    rw [q8] at d3
    obtain ⟨c0, c1, c2, c3, -⟩ := box20 (unhide HX8).one
    rw [q1] at c0
    rw [q2] at c1
    rw [q3] at c2
    rw [q4] at c3
    have HSB : Hid (∀ W, Kept [] w8 W → Calls Tryd.prog 18 #[.slice (some ⟨b, off, none⟩) L cap] W fun e w' => ∃ a c, e = .returned (.slice a (L + 4) c) ∧ Wide w' (.slice a (L + 4) c) (enc p) ∧ Kept [] W w') := hide (fun W (k : Kept [] w8 W) => by
      have hw := ((unhide HE8).kept k).part L (Nat.le_refl _)
      rw [List.take_of_length_le (by omega)] at hw
      refine (summed_any (unhide HT _ ((unhide HX8).kept.step k)) hw (body_lt (unhide HS) (unhide HR).1.1 (unhide HR).1.2) (by omega)).mono ?_
      rintro e w' ⟨hk, a, c, rfl, ho⟩
      have e2 : (summed (body p)).length = L + 4 := by rw [summed_len, hL]
      have hwd : Wide w' _ (summed (body p)) := Or.inl (Sees.of_own ho)
      rw [e2] at hwd ⊢
      exact ⟨a, c, rfl, hwd, hk⟩)
    have HCL := hide (And.intro c0 (And.intro c1 (And.intro c2 c3)))
    have HLE : Hid ((enc p).length ≤ 140737488355328) := by unfold Hid; omega
    have HALL := hide (fun W (k : Kept [] w8 W) => (unhide HE8).all.kept k)
    have HKX := hide (unhide HX8).kept
    have HL1 := hide (And.intro (unhide HE8).lt (unhide HX8).one.lt)
    have d0k := fun W (k : Kept [] w8 W) => (k.cell (p := ⟨b, off, none⟩) (unhide HL1).1 (by simp)).trans d0
    have d1k := fun W (k : Kept [] w8 W) => (k.cell (p := ⟨b, off + 1, none⟩) (unhide HL1).1 (by simp)).trans d1
    have d2k := fun W (k : Kept [] w8 W) => (k.cell (p := ⟨b, off + 2, none⟩) (unhide HL1).1 (by simp)).trans d2
    have d3k := fun W (k : Kept [] w8 W) => (k.cell (p := ⟨b, off + 3, none⟩) (unhide HL1).1 (by simp)).trans d3
    have c0k := fun W (k : Kept [] w8 W) => (k.cell (p := ⟨w.heap.size, 0, none⟩) (unhide HL1).2 (by simp)).trans c0
    have c1k := fun W (k : Kept [] w8 W) => (k.cell (p := ⟨w.heap.size, 1, none⟩) (unhide HL1).2 (by simp)).trans c1
    have c2k := fun W (k : Kept [] w8 W) => (k.cell (p := ⟨w.heap.size, 2, none⟩) (unhide HL1).2 (by simp)).trans c2
    have c3k := fun W (k : Kept [] w8 W) => (k.cell (p := ⟨w.heap.size, 3, none⟩) (unhide HL1).2 (by simp)).trans c3
    clear hcell q1 q2 q3 q4 q5 q6 q7 q8 hel HE8 HX8 HDB HM HM2 HR HS HS2 HT HCL hL
    have f0 : (0 : Int) < (L : Int) + 4 := by omega
    have f1 : (1 : Int) < (L : Int) + 4 := by omega
    have f2 : (2 : Int) < (L : Int) + 4 := by omega
    have f3 : (3 : Int) < (L : Int) + 4 := by omega
    have g0 : 0 < L + 4 := by omega
    have g1 : 1 < L + 4 := by omega
    have g2 : 2 < L + 4 := by omega
    have g3 : 3 < L + 4 := by omega
    have f4 : (L : Int) ≤ (cap : Int) := by omega
    have f5 : L ≤ cap := by omega
    have f6 : (0 : Int) ≤ (L : Int) := by omega
    go_region_held3 (fun W => W.cell? ⟨b, off, none⟩ = some (.int .u8 (ka : Nat)) ∧ W.cell? ⟨b, off + 1, none⟩ = some (.int .u8 (kb : Nat)) ∧ W.cell? ⟨b, off + 2, none⟩ = some (.int .u8 (kc : Nat)) ∧ W.cell? ⟨b, off + 3, none⟩ = some (.int .u8 (kd : Nat)) ∧ W.cell? ⟨w.heap.size, 0, none⟩ = some (.int .i64 (ka : Nat)) ∧ W.cell? ⟨w.heap.size, 1, none⟩ = some (.int .i64 (kb : Nat)) ∧ W.cell? ⟨w.heap.size, 2, none⟩ = some (.int .i64 (kc : Nat)) ∧ W.cell? ⟨w.heap.size, 3, none⟩ = some (.int .i64 (kd : Nat))) (go_keep) (first
      | (go_at_call 18; refine (unhide HSB _ (by first | exact Kept.refl _ _ | exact (Kept.refl _ _).drew)).mono ?_; rintro e w9 ⟨a9, c9, rfl, hw9, k9⟩; have K9 : Hid (Kept [] w8 w9) := hide (by first | exact k9 | exact Kept.step ((Kept.refl [] w8).drew) k9); have HW9 := hide hw9; have d0 := d0k _ (unhide K9); have d1 := d1k _ (unhide K9); have d2 := d2k _ (unhide K9); have d3 := d3k _ (unhide K9); have c0 := c0k _ (unhide K9); have c1 := c1k _ (unhide K9); have c2 := c2k _ (unhide K9); have c3 := c3k _ (unhide K9); clear k9 hw9)
      | (go_at_call 14; refine (same_full (by first | exact unhide HW9 | exact (unhide HW9).kept (Kept.refl _ _).drew) (by first | exact unhide HALL _ (unhide K9) | exact unhide HALL _ (unhide K9).drew) (unhide HLE)).mono ?_; rintro e w10 ⟨rfl, k10⟩; have K10 : Hid (Kept [] w8 w10) := hide (by first | exact (unhide K9).step k10 | exact (unhide K9).drew.step k10); rw [show decide (enc p = enc p) = true from decide_eq_true rfl]; have d0 := d0k _ (unhide K10); have d1 := d1k _ (unhide K10); have d2 := d2k _ (unhide K10); have d3 := d3k _ (unhide K10); have c0 := c0k _ (unhide K10); have c1 := c1k _ (unhide K10); have c2 := c2k _ (unhide K10); have c3 := c3k _ (unhide K10); clear k10))
    all_goals
      go_wp2_with fail
      go_ret
      exact ⟨rfl, (unhide HKX).step (unhide K10)⟩
theorem back_walk (w : World) (p q : Ml) (l m : Lm) (ht : Tab w) (h1 : MW w p l) (h2 : MW w q m) : Calls Tryd.prog 4 #[mv p l, mv q m] w fun e w' => e = .returned (.bool true) ∧ Kept [] w w' := by
  cases hs : snd p with
  | true =>
    cases hs2 : snd q with
    | true => exact back_yy w p q l m ht h1 h2 hs hs2
    | false => exact back_yn w p q l m ht h1 h2 hs hs2
  | false =>
    cases hs2 : snd q with
    | true => exact back_ny w p q l m ht h1 h2 hs hs2
    | false => exact back_nn w p q l m ht h1 h2 hs hs2
end Go.Proofs.YtfhfkpgfnlmfhaaDoor
