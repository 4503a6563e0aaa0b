/- Texts laid one behind the other: MCut MTurn. -/
import Derived.Test.YtfhfkpgfnlmfhaaDoorPkBD
import Derived.Test.YtfhfkpgfnlmfhaaDoorPkBE
import Derived.OpenShut
import Derived.Laws.BitsAllLaws
/- MailCut. -/
namespace Go.Proofs.YtfhfkpgfnlmfhaaDoor
open Go.RowKit

/-- Decode, whatever it answers. -/
theorem dec_all {w : World} {x : Value} {bs : List Nat} (ht : Tab w) (hx : Wide w x bs) (hb : ∀ y ∈ bs, y < 256) {c : Nat} (h : decE bs = c) : Calls Tryd.prog 17 #[x] w fun e w' => ∃ l, e = .returned (.tuple #[.agg (mcc (decM bs) l), .int .i64 (c : Nat)]) ∧ MW w' (decM bs) l ∧ Kept [] w w' := by
  refine (decode_any w x bs ht hx hb).mono ?_
  rintro e w' ⟨hk, l, rfl, hn⟩
  have hm := hn.mw hb
  rw [h]
  exact ⟨l, rfl, hm, hk⟩
/-- A form in memory, and its beginnings. -/
structure EncAt (w : World) (p : Ml) (b off cap L : Nat) (X : World) : Prop where
  len : (body p).length = L
  l5 : 5 ≤ L ∧ L ≤ 262164
  cap1 : L + 4 ≤ cap
  all : Wide X (.slice (some ⟨b, off, none⟩) (L + 4) cap) (enc p)
  part : ∀ m, m ≤ L → Wide X (.slice (some ⟨b, off, none⟩) m cap) ((body p).take m)
  blt : w.heap.size ≤ b
theorem EncAt.kept {w X Y : World} {p : Ml} {b off cap L : Nat} (h : EncAt w p b off cap L X) (k : Kept [] X Y) : EncAt w p b off cap L Y := ⟨h.len, h.l5, h.cap1, h.all.kept k, fun m hm => (h.part m hm).kept k, h.blt⟩
theorem sees_part {w : World} {b off cap : Nat} {bs : List Nat} {m : Nat} (hn : m ≤ bs.length) (h1 : bs.length ≤ cap) (h2 : cap ≤ maxLen) (h3 : b < w.heap.size) (h4 : ∀ j, j < bs.length → w.cell? ⟨b, off + j, none⟩ = some (.int .u8 (bs.getD j 0 : Nat))) : Wide w (.slice (some ⟨b, off, none⟩) m cap) (bs.take m) := by
  have e1 : (bs.take m).length = m := by simp; omega
  refine Or.inl (Or.inr ⟨b, off, cap, by rw [e1], by omega, h2, h3, fun j hj => ?_⟩)
  rw [h4 j (by omega)]
  have : (bs.take m).getD j 0 = bs.getD j 0 := by
    rw [List.getD_eq_getElem?_getD, List.getD_eq_getElem?_getD, List.getElem?_take_of_lt (by omega)]
  rw [this]
theorem enc_at {w : World} {p : Ml} {l : Lm} (ht : Tab w) (hm : MW w p l) (hs : snd p = true) : Calls Tryd.prog 11 #[.agg (mcc p l)] w fun e w' => ∃ b off cap L, e = .returned (.tuple #[.slice (some ⟨b, off, none⟩) (L + 4) cap, .int .i64 0]) ∧ EncAt w p b off cap L w' ∧ Kept [] w w' := by
  refine (encode_any w p l ht hm).mono ?_
  rintro e w' ⟨hk, ⟨_, a, cap, rfl, ho⟩ | ⟨hs', _⟩⟩
  · have hl := snd_len hs
    have he := enc_len p
    obtain ⟨b, off, rfl, -, h1, h2, h3, h4⟩ := wides (Or.inl (Sees.of_own ho)) (by omega)
    refine ⟨b, off, cap, (body p).length, by rw [he], ⟨rfl, ⟨by omega, by omega⟩, by omega, ?_, fun m hm => ?_, ?_⟩, hk⟩
    · rw [← he]; exact Or.inl (Sees.of_own ho)
    · have := sees_part (w := w') (b := b) (off := off) (cap := cap) (bs := enc p) (m := m) (by omega) h1 h2 h3 h4
      have e2 : (enc p).take m = (body p).take m := by unfold enc summed; rw [List.take_append_of_le_length hm]
      rw [e2] at this
      exact this
    · exact (ho.lt b (by simp [Value.ownBlock])).1
  · rw [hs] at hs'; cases hs'

set_option maxRecDepth 100000 in
set_option maxHeartbeats 1600000 in
theorem cut_no (w : World) (p : Ml) (l : Lm) (cut : Int) (a : Option Addr) (n c : Nat) (ht : Tab w) (hm : MW w p l) (hs : snd p = false) : Calls Tryd.prog 7 #[mv p l, .int .i64 cut, .slice a n c] w fun e w' => e = .returned (.bool true) ∧ Kept [] w w' := by
  have HT := hide (fun W (k : Kept [] w W) => ht.kept k (by simp))
  have HM := hide (fun W (k : Kept [] w W) => hm.kept k)
  have HS := hide hs
  clear ht hm hs
  unfold mv
  go_enter Tryd.func7, Tryd.ntmps7
  go_upto_region 1 with fail
  refine world_at (R := fun X => Blk X w.heap.size (mcc p l) 30 ∧ Kept [] w X) ⟨Blk.new _ _ _, (Kept.refl [] w).alloc _⟩ ?_
  rintro X ⟨hb, hk⟩
  have HB := hide hb
  have HK := hide hk
  clear hb hk
  go_wp2_with (first
    | (go_at_call 15; refine (awake_any _ (unhide HT _ (unhide HK))).mono ?_; rintro e w1 ⟨rfl, k1⟩; have HB1 := hide ((unhide HB).kept k1 (by simp)); have HK1 := hide ((unhide HK).step k1); clear k1 HB HK)
    | (refine wpList_load_guard 30 _ rfl _ rfl 30 _ (0, 0) _ (unhide HB1) Tryd.underlying30 rfl infoMail rfl ?_)
    | (go_at_call 11; refine (enc_bad (unhide HT _ (unhide HK1)) (unhide HM _ (unhide HK1)) (unhide HS)).mono ?_; rintro e w2 ⟨rfl, k2⟩; have HK2 := hide ((unhide HK1).step k2); clear k2))
  all_goals
    go_ret
    exact ⟨rfl, unhide HK2⟩
set_option maxRecDepth 100000 in
set_option maxHeartbeats 1600000 in
theorem cut_yes (w : World) (p : Ml) (l : Lm) (cut : Int) (a : Option Addr) (c : Nat) (more : List Nat) (ht : Tab w) (hm : MW w p l) (hc : (Lit.int .i64 cut).wf = true) (hw : Wide w (.slice a more.length c) more) (hb : ∀ x ∈ more, x < 256) (hl : more.length ≤ 140737488351232) (hs : snd p = true) : Calls Tryd.prog 7 #[mv p l, .int .i64 cut, .slice a more.length c] w fun e w' => e = .returned (.bool true) ∧ Kept [] w w' := by
  have HT := hide (fun W (k : Kept [] w W) => ht.kept k (by simp))
  have HM := hide (fun W (k : Kept [] w W) => hm.kept k)
  have HS := hide hs
  have HW := hide (And.intro hw (And.intro hb hl))
  have HC := hide (bounds_i64 hc)
  have HR := hide (And.intro hm.root hm.byt)
  clear ht hm hs hw hb hl hc
  generalize hN : more.length = N at *
  have HN := hide hN
  clear hN
  unfold mv
  go_enter Tryd.func7, Tryd.ntmps7
  go_upto_region 1 with fail
  refine world_at (R := fun X => Blk X w.heap.size (mcc p l) 30 ∧ Kept [] w X) ⟨Blk.new _ _ _, (Kept.refl [] w).alloc _⟩ ?_
  rintro X ⟨hb, hk⟩
  have HB := hide hb
  have HK := hide hk
  clear hb hk
  go_upto_region 4 with (first
    | (go_at_call 15; refine (awake_any _ (unhide HT _ (unhide HK))).mono ?_; rintro e w1 ⟨rfl, k1⟩; have HB1 := hide ((unhide HB).kept k1 (by simp)); have HK1 := hide ((unhide HK).step k1); clear k1 HB HK)
    | (refine wpList_load_guard 30 _ rfl _ rfl 30 _ (0, 0) _ (unhide HB1) Tryd.underlying30 rfl infoMail rfl ?_)
    | (go_at_call 11; refine (enc_at (unhide HT _ (unhide HK1)) (unhide HM _ (unhide HK1)) (unhide HS)).mono ?_; rintro e w2 ⟨b, off, cap, L, rfl, he, k2⟩; have HK2 := hide ((unhide HK1).step k2); have HE := hide he; have hl5 := he.l5; have hcap := he.cap1; clear k2 he HB1 HK1))
  have e1 : (((L : Int) + 4) < 8) = False := eq_false (by omega)
  have e2 : wrap64 ((L : Int) + 4 - 4) = (L : Int) := by unfold wrap64; omega
  go_upto_if 32 with fail
  go_cut [1] (fun t wc => ∃ (Z : World) (n : Nat), Z = wc ∧ n < 9223372036854775808 ∧ t = .int .i64 (n : Nat) ∧ Hid (Kept [] w2 Z))
  case first =>
    obtain ⟨c1, c2⟩ := unhide HC
    by_cases h0 : cut < 0
    · go_wp2_with fail
      go_meet
      exact ⟨_, (-(cut + 1)).toNat, rfl, by omega, by go_num, hide (Kept.refl _ _)⟩
    · go_wp2_with fail
      go_meet
      exact ⟨_, cut.toNat, rfl, by omega, by go_num, hide (Kept.refl _ _)⟩
  case rest =>
    obtain ⟨Z, n, rfl, hn, rfl, hz⟩ := hcut
    have HZ := hz
    clear hz
    go_upto_region 9 with fail
    go_cut [1] (fun t wc => ∃ (Y : World) (j m : Nat), Y = wc ∧ m + j = L ∧ t = .int .i64 (j : Nat) ∧ Hid (Kept [] Z Y))
    case first =>
      go_wp2_with fail
      go_meet
      have hlt : n % (L + 1) < L + 1 := Nat.mod_lt _ (by omega)
      exact ⟨_, n % (L + 1), L - n % (L + 1), rfl, by omega, by push_cast; rfl, hide (Kept.refl _ _)⟩
    case rest =>
      obtain ⟨Y, j, m, rfl, hmj, rfl, hz⟩ := hcut
      have hke := ((unhide HZ).step (unhide hz))
      have HKY := hide ((unhide HK2).step hke)
      have HEY := hide ((unhide HE).kept hke)
      clear HK2 HE HZ hz hke hn HM
      have HE := HEY
      clear HEY
      have hL := (unhide HE).len
      have HB1 := hide (fun x (hx : x ∈ (body p).take m) => body_lt (unhide HS) (unhide HR).1 (unhide HR).2 x (List.mem_of_mem_take hx))
      obtain ⟨s1, hs1⟩ : ∃ s1, summed ((body p).take m) = s1 := ⟨_, rfl⟩
      have hmL : m ≤ L := by omega
      have HB1l : Hid (((body p).take m).length + 4 ≤ 140737488355328) := by unfold Hid; rw [List.length_take]; omega
      have HB2 := hide (summed_lt (unhide HB1))
      have hcf := cut_form (unhide HS) (unhide HR).1 (unhide HR).2 m (by omega)
      rw [hs1] at HB2 hcf
      have HS1 := hide hs1
      have HCF := hide hcf
      clear hs1 hcf
      subst hmj
      have e4 : wrap64 ((m : Int) + (j : Int) - (j : Int)) = (m : Int) := by unfold wrap64; omega
      have e5 : ((m : Int) + (j : Int) - (j : Int)) = (m : Int) := by omega
      obtain ⟨i0, hi, hz0, hz1, hz2⟩ := info_parts Tryd.info5
      obtain ⟨q1, hq1, hq2⟩ : ∃ q1, decE s1 = q1 ∧ ((q1 = 0 ∧ j = 0) ∨ (q1 = 190 ∧ j ≠ 0)) := by
        obtain ⟨g1, g2⟩ := unhide HCF
        rcases g2 with g2 | g2
        · exact ⟨0, g2, Or.inl ⟨rfl, by have := g1.1 g2; omega⟩⟩
        · refine ⟨190, g2, Or.inr ⟨rfl, fun h => ?_⟩⟩
          have := g1.2 (by omega)
          omega
      have HD1 := hide hq1
      clear hq1 HCF
      have HWB := hide (fun X5 X (h : EncAt w1 p b off cap (m + j) X5) (k : Kept [] X5 X) => (show Wide X (.slice (some ⟨b, off, none⟩) (m + j) cap) (body p) from by have := ((h.kept k).part (m + j) (Nat.le_refl _)); rwa [List.take_of_length_le (by omega)] at this))
      go_wp2_with (first
        | (go_at_call 18; refine (summed_any (unhide HT _ (unhide HKY)) ((unhide HE).part m hmL) (unhide HB1) (unhide HB1l)).mono ?_; rintro e w3 ⟨k3, a3, c3, rfl, ho3⟩; rw [unhide HS1]; have HK3 := hide ((unhide HKY).step k3); have HE3 := hide ((unhide HE).kept k3); have HO3 := hide (Sees.of_own ho3); rw [unhide HS1] at HO3; clear k3 ho3 HE HKY)
        | (go_at_call 17; refine (dec_all (unhide HT _ (unhide HK3)) (Or.inl (unhide HO3)) (unhide HB2) (unhide HD1)).mono ?_; rintro e w4 ⟨l4, rfl, -, k4⟩; have HK4 := hide ((unhide HK3).step k4); have HE4 := hide ((unhide HE3).kept k4); clear k4 HE3 HK3 HO3)
        | (refine wpList_store_row rfl 30 _ _ rfl _ (mcc (decM s1) l4) rfl rfl 30 _ (Blk.new w4 _ _) infoMail rfl (by simp [mcc, Value.oneCell']) ?_; refine world_at (R := fun X => Kept [] w4 X) (((Kept.refl [] w4).alloc _).setRow (Or.inr (Nat.le_refl _)) _) ?_; intro X5 k5; have HK5 := hide ((unhide HK4).step k5); have HE5 := hide ((unhide HE4).kept k5); clear k5 HK4 HE4)
        | (at_builtin; refine wpList_append_wide _ rfl _ _ 23 rfl X5.heap.size 5 i0 (.int .u8 0) Tryd.underlying23 hi hz0 hz1 hz2 rfl _ [] rfl (World.ownsRow_made X5 #[] 0 (Nat.le_refl _) (Nat.zero_le _) rfl) _ (body p) rfl (unhide HWB _ _ (unhide HE5) ((Kept.refl [] X5).alloc _)) ?c1 ?c2 ?_))
      case c1 => have h1 := (unhide HE5).len; simp; omega
      case c2 => simp
      intro v1 w6 hown hg hat
      have hk6 : Kept [] X5 w6 := ((Kept.refl [] X5).alloc _).grown hg (fun k hk => by simp [Value.ownBlock] at hk; right; omega)
      obtain ⟨a6, c6, hv⟩ := own_len hown
      subst hv
      have HO6 : Hid (w6.ownsRow X5.heap.size 5 1 (.slice a6 (m + j) c6) (body p).length (u8s (body p))) := hide (by first | (rw [hL]; exact hown) | exact hown)
      have HK6 := hide hk6
      have hs6 := hk6.size
      have HKW := hide ((unhide HK5).step hk6)
      clear hown hg hat hk6
      go_wp2_with (at_builtin; refine wpList_append_wideX _ rfl _ _ 23 rfl X5.heap.size 5 i0 (.int .u8 0) Tryd.underlying23 hi hz0 hz1 hz2 rfl _ (body p) rfl (unhide HO6) _ more rfl ((unhide HW).1.kept (unhide HKW)) ?c3 ?c4 ?_)
      case c3 => have h1 := (unhide HE5).len; have h2 := (unhide HW).2.2; rw [unhide HN]; omega
      case c4 => exact hs6
      intro v2 w7 hown hg
      have hk7 : Kept [] X5 w7 := (unhide HK6).grown hg (fun k hk => Or.inr ((unhide HO6).lt k hk).1)
      obtain ⟨lg, hlg⟩ : ∃ lg, body p ++ more = lg := ⟨_, rfl⟩
      have hq3 : ∃ q2, decE (summed lg) = q2 ∧ ((524288 < lg.length + 4 ∧ q2 = 3) ∨ (lg.length + 4 ≤ 524288 ∧ q2 = 0 ∧ N = 0) ∨ (lg.length + 4 ≤ 524288 ∧ q2 = 190 ∧ N ≠ 0)) := by
        obtain ⟨g1, g2⟩ := more_form (unhide HS) (unhide HR).1 (unhide HR).2 more (unhide HW).2.1
        rw [hlg] at g1 g2
        refine ⟨_, rfl, ?_⟩
        rcases Nat.lt_or_ge 524288 (lg.length + 4) with h | h
        · exact Or.inl ⟨h, g1 h⟩
        · obtain ⟨g3, g4⟩ := g2 h
          by_cases h0 : more = []
          · exact Or.inr (Or.inl ⟨h, g3.2 h0, by rw [← unhide HN, h0]; rfl⟩)
          · refine Or.inr (Or.inr ⟨h, ?_, fun h5 => h0 (List.length_eq_zero_iff.1 (by rw [unhide HN]; exact h5))⟩)
            rcases g4 with g4 | g4
            · exact absurd (g3.1 g4) h0
            · exact g4
      obtain ⟨q2, hq2e, hq3⟩ := hq3
      have hblg : ∀ x ∈ lg, x < 256 := by
        rw [← hlg]
        intro x hx
        rcases List.mem_append.1 hx with hx | hx
        · exact body_lt (unhide HS) (unhide HR).1 (unhide HR).2 x hx
        · exact (unhide HW).2.1 x hx
      have hllg : lg.length + 4 ≤ 200000000000000 := by
        have h1 := (unhide HE5).len
        have h2 := (unhide HW).2.2
        rw [← hlg, List.length_append, unhide HN]
        omega
      have hgl : lg.length = m + j + more.length := by rw [← hlg, List.length_append, hL]
      rw [hlg, ← hgl] at hown
      obtain ⟨a7, c7, hv⟩ := own_len hown
      subst hv
      have HO7 := hide (Sees.of_own hown)
      have HK7 := hide ((unhide HK5).step hk7)
      have HLB := hide hblg
      have HLL := hide hllg
      have HSL := hide (summed_len lg)
      have HD2 := hide hq2e
      have HSB := hide (summed_lt hblg)
      clear hown hg hk7 HO6 HK6 HKW HW HWB hblg hllg hlg hq2e HB1 HB1l HB2 HS1 HD1 HE5 HK5 HC
      clear hgl
      obtain ⟨G, hG⟩ : ∃ G, lg.length = G := ⟨_, rfl⟩
      rw [hG] at HO7 HSL hq3
      rw [hG]
      clear hG
      obtain ⟨s2, hs2⟩ : ∃ s2, summed lg = s2 := ⟨_, rfl⟩
      have HS2 := hide hs2
      rw [hs2] at HD2 HSB HSL
      clear hs2
      go_upto_region 13 with (first
        | (go_at_call 18; refine (summed_anyX (unhide HT _ (unhide HK7)) (Or.inl (unhide HO7)) (unhide HLB) (unhide HLL)).mono ?_; rintro e w8 ⟨k8, a8, c8, rfl, ho8⟩; rw [unhide HS2, unhide HSL]; have HK8 := hide ((unhide HK7).step k8); have HO8 := hide (Sees.of_own ho8); rw [unhide HS2, unhide HSL] at HO8; clear k8 ho8 HK7 HO7)
        | (go_at_call 17; refine (dec_all (unhide HT _ (unhide HK8)) (Or.inl (unhide HO8)) (unhide HSB) (unhide HD2)).mono ?_; rintro e w9 ⟨l9, rfl, -, k9⟩; have HK9 := hide ((unhide HK8).step k9); clear k9 HK8 HO8)
        | (refine wpList_store_row rfl 30 _ _ rfl _ (mcc (decM s2) l9) rfl rfl 30 _ (Blk.new w9 _ _) infoMail rfl (by simp [mcc, Value.oneCell']) ?_; refine world_at (R := fun X => Kept [] w9 X) (((Kept.refl [] w9).alloc _).setRow (Or.inr (Nat.le_refl _)) _) ?_; intro X9 k9; have HK10 := hide ((unhide HK9).step k9); clear k9 HK9))
      rcases hq2 with ⟨rfl, rfl⟩ | ⟨rfl, hj⟩
      · rcases hq3 with ⟨h3, rfl⟩ | ⟨h3, rfl, rfl⟩ | ⟨h3, rfl, hn0⟩
        · have f1 : ((524288 : Int) < (G : Int) + 4) = True := eq_true (by omega)
          go_wp2_with fail
          go_ret
          exact ⟨rfl, unhide HK10⟩
        · have f1 : ((524288 : Int) < (G : Int) + 4) = False := eq_false (by omega)
          go_wp2_with fail
          go_ret
          exact ⟨rfl, unhide HK10⟩
        · have f1 : ((524288 : Int) < (G : Int) + 4) = False := eq_false (by omega)
          have f2 : ((N : Int) == 0) = false := by rw [beq_eq_false_iff_ne]; omega
          go_wp2_with fail
          go_ret
          exact ⟨rfl, unhide HK10⟩
      · have f0 : ((j : Int) == 0) = false := by rw [beq_eq_false_iff_ne]; omega
        rcases hq3 with ⟨h3, rfl⟩ | ⟨h3, rfl, rfl⟩ | ⟨h3, rfl, hn0⟩
        · have f1 : ((524288 : Int) < (G : Int) + 4) = True := eq_true (by omega)
          go_wp2_with fail
          go_ret
          exact ⟨rfl, unhide HK10⟩
        · have f1 : ((524288 : Int) < (G : Int) + 4) = False := eq_false (by omega)
          go_wp2_with fail
          go_ret
          exact ⟨rfl, unhide HK10⟩
        · have f1 : ((524288 : Int) < (G : Int) + 4) = False := eq_false (by omega)
          have f2 : ((N : Int) == 0) = false := by rw [beq_eq_false_iff_ne]; omega
          go_wp2_with fail
          go_ret
          exact ⟨rfl, unhide HK10⟩
end Go.Proofs.YtfhfkpgfnlmfhaaDoor

/- MailTurned: the form with some bytes turned. -/
namespace Go.Proofs.YtfhfkpgfnlmfhaaDoor
open Go.RowKit

theorem row_of_own {w : World} {base n : Nat} {v : Value} {bs : List Nat} (h : w.ownsRow base 5 1 v n (u8s bs)) (hn : 0 < n) :
    ∃ g cap, v = .slice (some ⟨g, 0, none⟩) n cap ∧ base ≤ g ∧ g < w.heap.size ∧ n ≤ cap ∧ cap ≤ maxLen := by
  rcases h.2 with ⟨_, h2⟩ | ⟨g, cap, cur, hv, hb, hg, hc, hm, _⟩
  · omega
  · exact ⟨g, cap, hv, hb, (Array.getElem?_eq_some_iff.1 hg).1, hc, hm⟩

theorem u8s_at (l : List Nat) {j : Nat} (hj : j < l.length) : (u8s l)[j]? = some (.int .u8 (l.getD j 0 : Nat)) := by
  simp [u8s, List.getElem?_eq_getElem hj]
theorem own_cell {w : World} {base n g cap : Nat} {bs : List Nat} (h : w.ownsRow base 5 1 (.slice (some ⟨g, 0, none⟩) n cap) n (u8s bs)) {k : Nat} (hk : k < bs.length) :
    w.cell? ⟨g, k, none⟩ = some (.int .u8 (bs.getD k 0 : Nat)) := by
  have := h.cells (g := g) rfl k (.int .u8 (bs.getD k 0 : Nat)) (u8s_at bs hk)
  have hadd : (⟨g, 0, none⟩ : Addr).add k = ⟨g, k, none⟩ := by unfold Addr.add; split <;> simp_all
  rw [hadd] at this
  simpa using this

theorem own_frozen {w : World} {base n g cap : Nat} {xs : List Value} (h : w.ownsRow base 5 1 (.slice (some ⟨g, 0, none⟩) n cap) n xs) (k : Nat) : w.frozen? ⟨g, k, none⟩ = false := by
  rcases h.2 with ⟨h1, _⟩ | ⟨g', cap', cur, hv, hb, hg, _⟩
  · cases h1
  · cases hv
    exact Blk.frozen hg k

theorem u8s_set (bs : List Nat) (k y : Nat) : u8s (bs.set k y) = (u8s bs).set k (.int .u8 (y : Int)) := by
  simp [u8s, List.map_set]

theorem own_set {w : World} {base n g cap : Nat} {bs : List Nat} (h : w.ownsRow base 5 1 (.slice (some ⟨g, 0, none⟩) n cap) n (u8s bs)) (k y : Nat) :
    (w.setCell ⟨g, k, none⟩ (.int .u8 (y : Int))).ownsRow base 5 1 (.slice (some ⟨g, 0, none⟩) n cap) n (u8s (bs.set k y)) := by
  refine ⟨by rw [u8s_length, List.length_set, ← u8s_length]; exact h.1, ?_⟩
  rcases h.2 with ⟨h1, _⟩ | ⟨g', cap', cur, hv, hb, hg, hc, hm, hs, ht⟩
  · cases h1
  · cases hv
    refine Or.inr ⟨g, cap, cur.setIfInBounds k (.int .u8 (y : Int)), rfl, hb, Blk.set hg k _, hc, hm, by simpa using hs, ?_⟩
    rw [u8s_set, ← ht]
    rw [Array.toList_setIfInBounds, List.take_set]

theorem own_len_eq {w : World} {base n : Nat} {v : Value} {bs : List Nat} (h : w.ownsRow base 5 1 v n (u8s bs)) : bs.length = n := by
  have := h.1
  rw [u8s_length] at this
  omega


theorem Wide.apart {w w' : World} {v : Value} {bs : List Nat} {F : List Nat} (h : Wide w v bs) (k : Kept F w w') (hn : ∀ x, v.ownBlock = some x → x ∉ F) : Wide w' v bs := by
  rcases h with h | h
  · exact Or.inl (h.kept k hn)
  · exact Or.inr h
theorem EncAt.apart {w X Y : World} {p : Ml} {b off cap L g : Nat} (h : EncAt w p b off cap L X) (k : Kept [g] X Y) (hg : b ≠ g) : EncAt w p b off cap L Y := by
  have hn : ∀ n x, (Value.slice (some ⟨b, off, none⟩) n cap).ownBlock = some x → x ∉ [g] := by
    intro n x hx
    simp [Value.ownBlock] at hx
    subst hx
    simpa using hg
  exact ⟨h.len, h.l5, h.cap1, h.all.apart k (hn _), fun m hm => (h.part m hm).apart k (hn _), h.blt⟩
theorem EncAt.lt {w X : World} {p : Ml} {b off cap L : Nat} (h : EncAt w p b off cap L X) : b < X.heap.size := by
  obtain ⟨b', off', h1, -, -, -, h2, -⟩ := wides h.all (by omega)
  cases h1
  exact h2
/-- The form, of which i bytes have been looked at from place k on. -/
structure TurnI (p : Ml) (L k i : Nat) (zs : List Nat) : Prop where
  len : zs.length = L + 4
  byt : ∀ x ∈ zs, x < 256
  mode : (k < L ∧ ∃ qb u, zs = qb ++ le (crc (body p)) 4 ∧ Told (body p) k i qb u) ∨ (L ≤ k ∧ ∃ s, s.length = 4 ∧ zs = body p ++ s)
theorem TurnI.start {p : Ml} {L : Nat} (hs : snd p = true) (hr : p.root < 18446744073709551616) (hb : ∀ o, isT o → ∀ x ∈ getT p o, x < 256) (hL : (body p).length = L) (k : Nat) : TurnI p L k 0 (enc p) := by
  refine ⟨by rw [enc_len, hL], enc_lt hs hr hb, ?_⟩
  rcases Nat.lt_or_ge k L with h | h
  · exact Or.inl ⟨h, body p, 0, rfl, Told.start (body_lt hs hr hb) k⟩
  · exact Or.inr ⟨h, _, le_len _ 4, rfl⟩
theorem TurnI.skip {p : Ml} {L k i : Nat} {zs : List Nat} (h : TurnI p L k i zs) : TurnI p L k (i + 1) zs := by
  refine ⟨h.len, h.byt, ?_⟩
  rcases h.mode with ⟨h1, qb, u, h2, h3⟩ | h1
  · exact Or.inl ⟨h1, qb, u, h2, h3.skip⟩
  · exact Or.inr h1
theorem TurnI.turn {p : Ml} {L k i d : Nat} {zs : List Nat} (hs : snd p = true) (hr : p.root < 18446744073709551616) (hb : ∀ o, isT o → ∀ x ∈ getT p o, x < 256) (hL : (body p).length = L) (h : TurnI p L k i zs) (hd : d < 256) (hk : (k < L ∧ k + i < L) ∨ (L ≤ k ∧ k + i < L + 4)) : TurnI p L k (i + 1) (zs.set (k + i) (zs.getD (k + i) 0 ^^^ d)) := by
  have hz := h.len
  have hlt := getD_lt8 h.byt (show k + i < zs.length by omega)
  have hb2 : ∀ x ∈ zs.set (k + i) (zs.getD (k + i) 0 ^^^ d), x < 256 := set_bytes h.byt (Nat.xor_lt_two_pow (n := 8) hlt hd)
  refine ⟨by rw [List.length_set, hz], hb2, ?_⟩
  rcases h.mode with ⟨h1, qb, u, h2, h3⟩ | ⟨h1, s, h2, h3⟩
  · have hki : k + i < L := by omega
    have hq : qb.length = L := by rw [h3.len, hL]
    have e1 : zs.getD (k + i) 0 = qb.getD (k + i) 0 := by
      rw [h2, List.getD_eq_getElem?_getD, List.getD_eq_getElem?_getD, List.getElem?_append_left (by omega)]
    have e2 : ∀ y, zs.set (k + i) y = qb.set (k + i) y ++ le (crc (body p)) 4 := fun y => by rw [h2, List.set_append_left _ _ (by omega)]
    rw [e2, e1]
    by_cases h0 : d = 0
    · refine Or.inl ⟨h1, _, u, rfl, ?_⟩
      rw [h0]
      exact h3.zero (by omega)
    · exact Or.inl ⟨h1, _, u + 1, rfl, h3.turn (body_lt hs hr hb) (by omega) hd h0⟩
  · refine Or.inr ⟨h1, s.set (k + i - L) (zs.getD (k + i) 0 ^^^ d), by rw [List.length_set]; exact h2, ?_⟩
    rw [h3, List.set_append_right _ _ (by omega), hL]
theorem TurnI.done {p : Ml} {L k : Nat} {zs : List Nat} (hs : snd p = true) (hr : p.root < 18446744073709551616) (hb : ∀ o, isT o → ∀ x ∈ getT p o, x < 256) (h : TurnI p L k 4 zs) : zs = enc p ∨ (zs ≠ enc p ∧ decE zs = 191) := by
  rcases h.mode with ⟨h1, qb, u, h2, h3⟩ | ⟨h1, s, h2, h3⟩
  · rcases turned_body hs hr hb h3 with ⟨_, h4⟩ | ⟨_, h4, h5⟩
    · exact Or.inl (h2.trans h4)
    · rw [h2]; exact Or.inr ⟨h5, h4⟩
  · rcases turned_sum hs h2 with ⟨_, h4⟩ | ⟨_, h4, h5⟩
    · exact Or.inl (h3.trans h4)
    · rw [h3]; exact Or.inr ⟨h5, h4⟩
end Go.Proofs.YtfhfkpgfnlmfhaaDoor
