/- MailOwn, where the message is sound. -/
import Derived.Test.YtfhfkpgfnlmfhabDoorPkBE
namespace Go.Proofs.YtfhfkpgfnlmfhabDoor
open Go.RowKit

/-- Which row of the pool each list of all is. -/
def piA : Nat → Nat
  | 0 => 16 | 1 => 17 | 2 => 18 | 3 => 19 | 4 => 20 | 5 => 15 | 6 => 14 | 7 => 1 | 8 => 0 | 9 => 12
  | 10 => 7 | 11 => 8 | 12 => 9 | 13 => 10 | 14 => 11 | 15 => 2 | 16 => 3 | 17 => 4 | 18 => 5 | _ => 6
theorem piA_lt : ∀ i, i < 20 → piA i < 21 := by decide
theorem piA_inj : ∀ i j, i < 20 → j < 20 → i ≠ j → piA i ≠ piA j := by
  have h : ∀ i, i < 20 → ∀ j, j < 20 → i ≠ j → piA i ≠ piA j := by decide
  exact fun i j hi hj hn => h i hi j hj hn
/-- The rows when all has been decoded, k of the lent lists turned. -/
def rowsK (p : Ml) (k : Nat) (G la lb : Lm) (vb vw vq vp : Value) : List (Value × List Nat) := rows5 p lb ++ (rows5 p la ++ ((vb, enc p) :: (vw, enc p) :: (vq, enc p) :: (vp, enc p) :: rows5K p k G))
theorem rows5K_zero (p : Ml) (l : Lm) : rows5K p 0 l = rows5 p l := rfl
set_option maxRecDepth 100000 in
set_option maxHeartbeats 6400000 in
theorem own_yes (w : World) (p q : Ml) (l mo : Lm) (ht : Tab w) (h1 : MW w p l) (h2 : MW w q mo) (hs : snd p = true) : Calls Tryd.prog 4 #[mv p l, mv q mo] w fun e w' => e = .returned (.bool true) ∧ Kept [] w w' := by
  have HT := hide (fun W (k : Kept [] w W) => ht.kept k (by simp))
  have HMp := hide (fun W (k : Kept [] w W) => h1.kept k)
  have HMq := hide (fun W (k : Kept [] w W) => h2.kept k)
  have HR := hide (And.intro h1.root h1.byt)
  have HTX := hide (snd_texts hs)
  have HEY := hide (enc_lt hs h1.root h1.byt)
  have hel : (enc p).length ≤ 262168 ∧ 9 ≤ (enc p).length := by have := snd_len hs; have := enc_len p; omega
  have HEL := hide hel
  have HS := hide hs
  clear ht h1 h2 hs hel
  unfold mv
  go_enter Tryd.func4, Tryd.ntmps4
  go_upto_region 1 with fail
  refine world_at (R := fun X => OS w [] [(w.heap.size + 1, mcc q mo), (w.heap.size, mcc p l)] X) ⟨((Kept.refl [] w).alloc _).alloc _, Pool.nil _ _, fun x hx => by simp at hx; rcases hx with rfl | rfl; exact new1 _ _ _ _; exact (Blk.new _ _ _).alloc _⟩ ?_
  rintro X0 hx
  have H0 := hide hx
  clear hx
  go_upto_region 4 with (first
    | (go_at_call 5; refine (awake_any _ (unhide HT _ (unhide H0).kept)).mono ?_; rintro e w1 ⟨rfl, k⟩; have H1 := hide ((unhide H0).go k); clear k H0)
    | (refine wpList_load_guard 30 _ rfl _ rfl 30 _ (0, 0) _ ((unhide H1).nth (i := 1) rfl) Tryd.underlying30 rfl infoMail rfl ?_)
    | (go_at_call 7; refine (lentT (unhide HMp _ (unhide H1).kept) (unhide HS)).mono ?_; rintro e w2 ⟨g1, c1, g2, c2, g3, c3, g4, c4, g5, c5, rfl, hp, k⟩; have H2 := hide ((unhide H1).join k hp); clear k hp H1)
    | (refine wpList_store_row rfl 30 _ _ rfl _ (mcc p (lnM g1 c1 g2 c2 g3 c3 g4 c4 g5 c5)) rfl rfl 30 _ (Blk.new w2 _ _) infoMail rfl (by simp [mcc, Value.oneCell']) ?_; refine world_at (R := fun X => OS w (rows5 p (lnM g1 c1 g2 c2 g3 c3 g4 c4 g5 c5) ++ []) ((w2.heap.size, mcc p (lnM g1 c1 g2 c2 g3 c3 g4 c4 g5 c5)) :: [(w.heap.size + 1, mcc q mo), (w.heap.size, mcc p l)]) X) ((unhide H2).boxRow _ _) ?_; rintro X3 hx3; have H3 := hide hx3; clear hx3 H2))
  generalize w2.heap.size = bG at *
  go_upto_region 5 with (first
    | (refine wpList_load_guard 30 _ rfl _ rfl 30 _ (0, 0) _ ((unhide H3).nth (i := 0) rfl) Tryd.underlying30 rfl infoMail rfl ?_)
    | (go_at_call 6; refine (encT (unhide HT _ (unhide H3).kept) ((unhide H3).mw (by intro r hr; simp [hr]) (fun o ho => by have := unhide HTX o ho; omega) (unhide HR).2 (unhide HR).1) (unhide HS)).mono ?_; rintro e w4 ⟨a4, x4, rfl, ho, k⟩; have H4 := hide ((unhide H3).push k ho (by have := (unhide HEL).1; omega)); clear ho k H3))
  go_upto_region 6 with (first
    | (refine wpList_load_guard 30 _ rfl _ rfl 30 _ (0, 0) _ ((unhide H4).nth (i := 1) rfl) Tryd.underlying30 rfl infoMail rfl ?_)
    | (go_at_call 6; refine (encO (unhide HT _ (unhide H4).kept) (unhide HMq _ (unhide H4).kept)).mono ?_; rintro e w5 ⟨a5, n5, c5', r5, rfl, k⟩; have H5 := hide ((unhide H4).go k); clear k H4))
  go_upto_region 7 with (first
    | (refine wpList_load_guard 30 _ rfl _ rfl 30 _ (0, 0) _ ((unhide H5).nth (i := 0) rfl) Tryd.underlying30 rfl infoMail rfl ?_)
    | (go_at_call 6; refine (encT (unhide HT _ (unhide H5).kept) ((unhide H5).mw (by intro r hr; simp [hr]) (fun o ho => by have := unhide HTX o ho; omega) (unhide HR).2 (unhide HR).1) (unhide HS)).mono ?_; rintro e w6 ⟨a6, x6, rfl, ho, k⟩; have H6 := hide ((unhide H5).push k ho (by have := (unhide HEL).1; omega)); clear ho k H5))
  have hle : (enc p).length ≤ 140737488355328 := by have := (unhide HEL).1; omega
  have HLE := hide hle
  clear hle
  go_upto_region 11 with (go_at_call 8; refine (same_rfl ((unhide H6).wide (v := .slice a4 (enc p).length x4) (l := enc p) (by simp)) ((unhide H6).wide (v := .slice a6 (enc p).length x6) (l := enc p) (by simp)) (unhide HLE)).mono ?_; rintro e w7 ⟨rfl, k⟩; have H7 := hide ((unhide H6).go k); clear k H6)
  obtain ⟨i0, hi, hz0, hz1, hz2⟩ := info_parts Tryd.info5
  have HI := hide (And.intro hi (And.intro hz0 (And.intro hz1 hz2)))
  go_upto_region 12 with (at_builtin; refine wpList_append_wide _ rfl _ _ 23 rfl w7.heap.size 5 i0 (.int .u8 0) Tryd.underlying23 hi hz0 hz1 hz2 rfl _ [] rfl (World.ownsRow_made w7 #[] 0 (Nat.le_refl _) (Nat.zero_le _) rfl) _ (enc p) rfl (((unhide H7).wide (v := .slice a4 (enc p).length x4) (l := enc p) (by simp)).kept ((Kept.refl [] w7).alloc _)) ?c1 ?c2 ?_)
  case c1 => have := (unhide HEL).1; simp; omega
  case c2 => simp
  intro v8 w8 hown hg hat
  have hk8 : Kept [] w7 w8 := ((Kept.refl [] w7).alloc _).grown hg (fun k hk => by simp [Value.ownBlock] at hk; right; omega)
  have hown2 : w8.ownsRow w7.heap.size 5 1 v8 (enc p).length (u8s (enc p)) := hown
  obtain ⟨a8, x8, hv⟩ := own_len hown2
  subst hv
  have H8 := hide ((unhide H7).push hk8 hown2 (by have := (unhide HEL).1; omega))
  clear hown hown2 hg hat hk8 H7
  go_upto_region 13 with (go_at_call 9; refine (lentB ((unhide H8).wide (v := .slice a4 (enc p).length x4) (l := enc p) (by simp)) (by have := (unhide HEL).1; omega)).mono ?_; rintro e w9 ⟨g9, x9, rfl, ho, k⟩; have H9 := hide ((unhide H8).push k ho (by have := (unhide HEL).1; omega)); clear ho k H8)
  go_upto_region 14 with (first
    | (go_at_call 10; refine (decT (unhide HT _ (unhide H9).kept) ((unhide H9).wide (v := .slice (some ⟨g9, 0, none⟩) (enc p).length x9) (l := enc p) (by simp)) (unhide HS) (unhide HR).1 (unhide HR).2).mono ?_; rintro e w10 ⟨la, rfl, hn, k⟩; have H10 := hide ((unhide H9).join k (pool_newM hn (unhide HS))); clear k hn H9)
    | (refine wpList_store_row rfl 30 _ _ rfl _ (mcc p la) rfl rfl 30 _ (Blk.new w10 _ _) infoMail rfl (by simp [mcc, Value.oneCell']) ?_; refine world_at (R := fun X => OS w (rows5 p la ++ ((.slice (some ⟨g9, 0, none⟩) (enc p).length x9, enc p) :: (.slice a8 (enc p).length x8, enc p) :: (.slice a6 (enc p).length x6, enc p) :: (.slice a4 (enc p).length x4, enc p) :: (rows5 p (lnM g1 c1 g2 c2 g3 c3 g4 c4 g5 c5) ++ []))) ((w10.heap.size, mcc p la) :: (bG, mcc p (lnM g1 c1 g2 c2 g3 c3 g4 c4 g5 c5)) :: [(w.heap.size + 1, mcc q mo), (w.heap.size, mcc p l)]) X) ((unhide H10).boxRow _ _) ?_; rintro X11 hx; have H11 := hide hx; clear hx H10))
  generalize w10.heap.size = bA at *
  go_upto_region 15 with (first
    | (go_at_call 10; refine (decT (unhide HT _ (unhide H11).kept) ((unhide H11).wide (v := .slice (some ⟨g9, 0, none⟩) (enc p).length x9) (l := enc p) (by simp)) (unhide HS) (unhide HR).1 (unhide HR).2).mono ?_; rintro e w12 ⟨lb, rfl, hn, k⟩; have H12 := hide ((unhide H11).join k (pool_newM hn (unhide HS))); clear k hn H11)
    | (refine wpList_store_row rfl 30 _ _ rfl _ (mcc p lb) rfl rfl 30 _ (Blk.new w12 _ _) infoMail rfl (by simp [mcc, Value.oneCell']) ?_; refine world_at (R := fun X => OS w (rowsK p 0 (lnM g1 c1 g2 c2 g3 c3 g4 c4 g5 c5) la lb (.slice (some ⟨g9, 0, none⟩) (enc p).length x9) (.slice a8 (enc p).length x8) (.slice a6 (enc p).length x6) (.slice a4 (enc p).length x4)) ((w12.heap.size, mcc p lb) :: (bA, mcc p la) :: (bG, mcc p (lnM g1 c1 g2 c2 g3 c3 g4 c4 g5 c5)) :: [(w.heap.size + 1, mcc q mo), (w.heap.size, mcc p l)]) X) (by have h := (unhide H12).boxRow (mcc zeroM nilM) (mcc p lb); rw [List.append_nil] at h; exact h) ?_; rintro X13 hx; have H13 := hide hx; clear hx H12))
  generalize w12.heap.size = bB at *
  go_upto_region 17 with (first
    | (refine wpList_load_guard 30 _ rfl _ rfl 30 _ (0, 0) _ ((unhide H13).nth (i := 1) rfl) Tryd.underlying30 rfl infoMail rfl ?_)
    | (refine wpList_load_guard 30 _ rfl _ rfl 30 _ (0, 0) _ ((unhide H13).nth (i := 4) rfl) Tryd.underlying30 rfl infoMail rfl ?_)
    | (go_at_call 11; refine (same_mail (p := p) (l := la) (m := l) ((unhide H13).mw (p := p) (l := la) (by intro r hr; simp [rowsK, hr]) (fun o ho => by have := unhide HTX o ho; omega) (unhide HR).2 (unhide HR).1) (unhide HMp _ (unhide H13).kept)).mono ?_; rintro e w14 ⟨rfl, k⟩; have H14 := hide ((unhide H13).go k); clear k H13)
    | (refine wpList_load_guard 30 _ rfl _ rfl 30 _ (0, 0) _ ((unhide H14).nth (i := 0) rfl) Tryd.underlying30 rfl infoMail rfl ?_)
    | (refine wpList_load_guard 30 _ rfl _ rfl 30 _ (0, 0) _ ((unhide H14).nth (i := 4) rfl) Tryd.underlying30 rfl infoMail rfl ?_)
    | (go_at_call 11; refine (same_mail (p := p) (l := lb) (m := l) ((unhide H14).mw (p := p) (l := lb) (by intro r hr; simp [rowsK, hr]) (fun o ho => by have := unhide HTX o ho; omega) (unhide HR).2 (unhide HR).1) (unhide HMp _ (unhide H14).kept)).mono ?_; rintro e w15 ⟨rfl, k⟩; have H15 := hide ((unhide H14).go k); clear k H14))
  go_upto_region 18 with (first
    | (refine wpList_load_guard 30 _ rfl _ rfl 30 _ (0, 0) _ ((unhide H15).nth (i := 2) rfl) Tryd.underlying30 rfl infoMail rfl ?_)
    | (go_at_call 12; refine (lists_any _ p (lnM g1 c1 g2 c2 g3 c3 g4 c4 g5 c5)).mono ?_; rintro e w16 ⟨ab, rfl, hab, hbl, k⟩; have HAB := hide hab; have HBL : Hid (w.heap.size ≤ ab) := (by have := (unhide H15).kept.size; exact hide (by omega)); have H16 := hide ((unhide H15).go k); clear hab hbl k H15))
  go_wp2_with fail
  go_loopw [17] (fun s wr => ∃ k : Nat, k ≤ 5 ∧ s = .int .i64 k ∧ Hid (OS w (rowsK p k (lnM g1 c1 g2 c2 g3 c3 g4 c4 g5 c5) la lb (.slice (some ⟨g9, 0, none⟩) (enc p).length x9) (.slice a8 (enc p).length x8) (.slice a6 (enc p).length x6) (.slice a4 (enc p).length x4)) ((bB, mcc p lb) :: (bA, mcc p la) :: (bG, mcc p (lnM g1 c1 g2 c2 g3 c3 g4 c4 g5 c5)) :: [(w.heap.size + 1, mcc q mo), (w.heap.size, mcc p l)]) wr ∧ Blk wr ab (sls p (lnM g1 c1 g2 c2 g3 c3 g4 c4 g5 c5)).toArray 23)) (fun s _ => 5 - (intOf s).toNat)
  case atStart => exact ⟨0, by omega, rfl, hide ⟨unhide H16, unhide HAB⟩⟩
  case round =>
    obtain ⟨k, hk, rfl, HI⟩ := hrel
    clear H16 HAB
    by_cases hlt : k < 5
    · obtain rfl | rfl | rfl | rfl | rfl : k = 0 ∨ k = 1 ∨ k = 2 ∨ k = 3 ∨ k = 4 := by omega
      · have hr : wr.ownsRow w.heap.size 5 1 (.slice (some ⟨g1, 0, none⟩) p.copy.length c1) p.copy.length (u8s p.copy) := (unhide HI).1.row (i := 14) (x := ((.slice (some ⟨g1, 0, none⟩) p.copy.length c1), p.copy)) rfl
        have d : wr.cell? ⟨ab, 0, none⟩ = some (.slice (some ⟨g1, 0, none⟩) p.copy.length c1) := (unhide HI).2.cell 0
        have hlen : p.copy.length ≤ 140737488355328 := by have := unhide HTX 6 (by simp [isT]); change p.copy.length ≤ _ at this; omega
        have HTN := hide (turn_any (P := p.copy) ((unhide HR).2 6 (by simp [isT])) hlen hr)
        have HNB : Hid (ab ∉ [g1]) := hide (by simp; intro e; exact own_type hr (unhide HI).2 (by decide) (by rw [e]; rfl))
        clear hr hlen
        go_wp2_with (go_at_call 13; refine (unhide HTN).mono ?_; rintro e wt ⟨rfl, ho, kk⟩; have HO := hide ho; have HKK := hide kk; clear ho kk)
        go_roundw
        case rel => exact ⟨1, by omega, by go_num, hide ⟨(unhide HI).1.turnAt (g := g1) (l := p.copy) (l' := trn p.copy) (v := (.slice (some ⟨g1, 0, none⟩) p.copy.length c1)) 14 rfl rfl (unhide HKK) (by rw [trn_len]; exact unhide HO) (trn_len _), (unhide HI).2.kept (unhide HKK) (unhide HNB)⟩⟩
        case measure => simp [intOf]
      · have hr : wr.ownsRow w.heap.size 5 1 (.slice (some ⟨g2, 0, none⟩) p.key.length c2) p.key.length (u8s p.key) := (unhide HI).1.row (i := 15) (x := ((.slice (some ⟨g2, 0, none⟩) p.key.length c2), p.key)) rfl
        have d : wr.cell? ⟨ab, 1, none⟩ = some (.slice (some ⟨g2, 0, none⟩) p.key.length c2) := (unhide HI).2.cell 1
        have hlen : p.key.length ≤ 140737488355328 := by have := unhide HTX 10 (by simp [isT]); change p.key.length ≤ _ at this; omega
        have HTN := hide (turn_any (P := p.key) ((unhide HR).2 10 (by simp [isT])) hlen hr)
        have HNB : Hid (ab ∉ [g2]) := hide (by simp; intro e; exact own_type hr (unhide HI).2 (by decide) (by rw [e]; rfl))
        clear hr hlen
        go_wp2_with (go_at_call 13; refine (unhide HTN).mono ?_; rintro e wt ⟨rfl, ho, kk⟩; have HO := hide ho; have HKK := hide kk; clear ho kk)
        go_roundw
        case rel => exact ⟨2, by omega, by go_num, hide ⟨(unhide HI).1.turnAt (g := g2) (l := p.key) (l' := trn p.key) (v := (.slice (some ⟨g2, 0, none⟩) p.key.length c2)) 15 rfl rfl (unhide HKK) (by rw [trn_len]; exact unhide HO) (trn_len _), (unhide HI).2.kept (unhide HKK) (unhide HNB)⟩⟩
        case measure => simp [intOf]
      · have hr : wr.ownsRow w.heap.size 5 1 (.slice (some ⟨g3, 0, none⟩) p.val.length c3) p.val.length (u8s p.val) := (unhide HI).1.row (i := 16) (x := ((.slice (some ⟨g3, 0, none⟩) p.val.length c3), p.val)) rfl
        have d : wr.cell? ⟨ab, 2, none⟩ = some (.slice (some ⟨g3, 0, none⟩) p.val.length c3) := (unhide HI).2.cell 2
        have hlen : p.val.length ≤ 140737488355328 := by have := unhide HTX 11 (by simp [isT]); change p.val.length ≤ _ at this; omega
        have HTN := hide (turn_any (P := p.val) ((unhide HR).2 11 (by simp [isT])) hlen hr)
        have HNB : Hid (ab ∉ [g3]) := hide (by simp; intro e; exact own_type hr (unhide HI).2 (by decide) (by rw [e]; rfl))
        clear hr hlen
        go_wp2_with (go_at_call 13; refine (unhide HTN).mono ?_; rintro e wt ⟨rfl, ho, kk⟩; have HO := hide ho; have HKK := hide kk; clear ho kk)
        go_roundw
        case rel => exact ⟨3, by omega, by go_num, hide ⟨(unhide HI).1.turnAt (g := g3) (l := p.val) (l' := trn p.val) (v := (.slice (some ⟨g3, 0, none⟩) p.val.length c3)) 16 rfl rfl (unhide HKK) (by rw [trn_len]; exact unhide HO) (trn_len _), (unhide HI).2.kept (unhide HKK) (unhide HNB)⟩⟩
        case measure => simp [intOf]
      · have hr : wr.ownsRow w.heap.size 5 1 (.slice (some ⟨g4, 0, none⟩) p.akey.length c4) p.akey.length (u8s p.akey) := (unhide HI).1.row (i := 17) (x := ((.slice (some ⟨g4, 0, none⟩) p.akey.length c4), p.akey)) rfl
        have d : wr.cell? ⟨ab, 3, none⟩ = some (.slice (some ⟨g4, 0, none⟩) p.akey.length c4) := (unhide HI).2.cell 3
        have hlen : p.akey.length ≤ 140737488355328 := by have := unhide HTX 15 (by simp [isT]); change p.akey.length ≤ _ at this; omega
        have HTN := hide (turn_any (P := p.akey) ((unhide HR).2 15 (by simp [isT])) hlen hr)
        have HNB : Hid (ab ∉ [g4]) := hide (by simp; intro e; exact own_type hr (unhide HI).2 (by decide) (by rw [e]; rfl))
        clear hr hlen
        go_wp2_with (go_at_call 13; refine (unhide HTN).mono ?_; rintro e wt ⟨rfl, ho, kk⟩; have HO := hide ho; have HKK := hide kk; clear ho kk)
        go_roundw
        case rel => exact ⟨4, by omega, by go_num, hide ⟨(unhide HI).1.turnAt (g := g4) (l := p.akey) (l' := trn p.akey) (v := (.slice (some ⟨g4, 0, none⟩) p.akey.length c4)) 17 rfl rfl (unhide HKK) (by rw [trn_len]; exact unhide HO) (trn_len _), (unhide HI).2.kept (unhide HKK) (unhide HNB)⟩⟩
        case measure => simp [intOf]
      · have hr : wr.ownsRow w.heap.size 5 1 (.slice (some ⟨g5, 0, none⟩) p.aval.length c5) p.aval.length (u8s p.aval) := (unhide HI).1.row (i := 18) (x := ((.slice (some ⟨g5, 0, none⟩) p.aval.length c5), p.aval)) rfl
        have d : wr.cell? ⟨ab, 4, none⟩ = some (.slice (some ⟨g5, 0, none⟩) p.aval.length c5) := (unhide HI).2.cell 4
        have hlen : p.aval.length ≤ 140737488355328 := by have := unhide HTX 16 (by simp [isT]); change p.aval.length ≤ _ at this; omega
        have HTN := hide (turn_any (P := p.aval) ((unhide HR).2 16 (by simp [isT])) hlen hr)
        have HNB : Hid (ab ∉ [g5]) := hide (by simp; intro e; exact own_type hr (unhide HI).2 (by decide) (by rw [e]; rfl))
        clear hr hlen
        go_wp2_with (go_at_call 13; refine (unhide HTN).mono ?_; rintro e wt ⟨rfl, ho, kk⟩; have HO := hide ho; have HKK := hide kk; clear ho kk)
        go_roundw
        case rel => exact ⟨5, by omega, by go_num, hide ⟨(unhide HI).1.turnAt (g := g5) (l := p.aval) (l' := trn p.aval) (v := (.slice (some ⟨g5, 0, none⟩) p.aval.length c5)) 18 rfl rfl (unhide HKK) (by rw [trn_len]; exact unhide HO) (trn_len _), (unhide HI).2.kept (unhide HKK) (unhide HNB)⟩⟩
        case measure => simp [intOf]
    · obtain rfl : k = 5 := by omega
      have H17 : Hid (OS2 w (rowsK p 5 (lnM g1 c1 g2 c2 g3 c3 g4 c4 g5 c5) la lb (.slice (some ⟨g9, 0, none⟩) (enc p).length x9) (.slice a8 (enc p).length x8) (.slice a6 (enc p).length x6) (.slice a4 (enc p).length x4)) ((bB, mcc p lb) :: (bA, mcc p la) :: (bG, mcc p (lnM g1 c1 g2 c2 g3 c3 g4 c4 g5 c5)) :: [(w.heap.size + 1, mcc q mo), (w.heap.size, mcc p l)]) ab (sls p (lnM g1 c1 g2 c2 g3 c3 g4 c4 g5 c5)).toArray wr) := hide ⟨(unhide HI).1, (unhide HI).2⟩
      clear HI hlt hk
      have HEZ : Hid ((enc (trnM p)).length ≤ 262168) := by have := snd_len (p := trnM p) (by rw [snd_trn]; exact unhide HS); have := enc_len (trnM p); unfold Hid; omega
      have HLZ : Hid ((enc (trnM p)).length ≤ 140737488355328) := by have := unhide HEZ; unfold Hid; omega
      have HMT : Hid (∀ (rows : List (Value × List Nat)) boxes W, OS w rows boxes W → (∀ r ∈ rows5K p 5 (lnM g1 c1 g2 c2 g3 c3 g4 c4 g5 c5), r ∈ rows) → MW W (trnM p) (lnM g1 c1 g2 c2 g3 c3 g4 c4 g5 c5)) := fun rows boxes W h hsub => mw_trn h hsub (unhide HTX) (unhide HR).2 (unhide HR).1
      go_upto_region 23 with (first
        | (refine wpList_load_guard 30 _ rfl _ rfl 30 _ (0, 0) _ ((unhide H17).os.nth (i := 2) rfl) Tryd.underlying30 rfl infoMail rfl ?_)
        | (go_at_call 6; refine (encTT (unhide HT _ (unhide H17).os.kept) (unhide HMT _ _ _ (unhide H17).os (by intro r hr; simp [rowsK, hr])) (unhide HS)).mono ?_; rintro e w18 ⟨a18, x18, rfl, ho, k⟩; have H18 := hide ((unhide H17).push k ho (by have := unhide HEZ; omega)); clear ho k H17))
      go_upto_region 24 with (first
        | (refine wpList_load_guard 30 _ rfl _ rfl 30 _ (0, 0) _ ((unhide H18).os.nth (i := 2) rfl) Tryd.underlying30 rfl infoMail rfl ?_)
        | (go_at_call 7; refine (lentTT (unhide HMT _ _ _ (unhide H18).os (by intro r hr; simp [rowsK, hr])) (unhide HS)).mono ?_; rintro e w19 ⟨m19, rfl, hm, k⟩; have H19 := hide ((unhide H18).go k); have HM19 := hide hm; clear hm k H18)
        | (go_at_call 6; refine (encTT (unhide HT _ (unhide H19).os.kept) (unhide HM19) (unhide HS)).mono ?_; rintro e w20 ⟨a20, x20, rfl, ho, k⟩; have H20 := hide ((unhide H19).push k ho (by have := unhide HEZ; omega)); clear ho k H19 HM19))
      have HTB := hide (turn_any (P := enc p) (unhide HEY) (unhide HLE) ((unhide H20).os.row (i := 12) (x := (.slice (some ⟨g9, 0, none⟩) (enc p).length x9, enc p)) rfl))
      go_upto_region 25 with (go_at_call 13; refine (unhide HTB).mono ?_; rintro e w21 ⟨rfl, ho, kk⟩; have H21 : Hid (OS2 w (rowsZ p (lnM g1 c1 g2 c2 g3 c3 g4 c4 g5 c5) la lb (.slice a20 (enc (trnM p)).length x20) (.slice a18 (enc (trnM p)).length x18) (.slice (some ⟨g9, 0, none⟩) (enc p).length x9) (.slice a8 (enc p).length x8) (.slice a6 (enc p).length x6) (.slice a4 (enc p).length x4)) ((bB, mcc p lb) :: (bA, mcc p la) :: (bG, mcc p (lnM g1 c1 g2 c2 g3 c3 g4 c4 g5 c5)) :: [(w.heap.size + 1, mcc q mo), (w.heap.size, mcc p l)]) ab (sls p (lnM g1 c1 g2 c2 g3 c3 g4 c4 g5 c5)).toArray w21) := hide ((unhide H20).turnAt (g := g9) (l := enc p) (l' := trn (enc p)) (v := .slice (some ⟨g9, 0, none⟩) (enc p).length x9) 12 rfl rfl kk (by rw [trn_len]; exact ho) (trn_len _)); clear ho kk H20 HTB)
      obtain ⟨c0, hc0⟩ : ∃ c, decE (trn (enc p)) = c := ⟨_, rfl⟩
      obtain ⟨pz, hpz⟩ : ∃ c, decM (trn (enc p)) = c := ⟨_, rfl⟩
      have HDD : Hid (∀ W x, Tab W → Wide W x (trn (enc p)) → Calls Tryd.prog 10 #[x] W fun e w' => ∃ l, e = .returned (.tuple #[.agg (mcc pz l), .int .i64 (c0 : Nat)]) ∧ Kept [] W w') := fun W x ht hx => decD ht hx (trn_by (unhide HEY)) hc0 hpz
      clear hc0 hpz
      have HWB : Hid (Wide w21 (.slice (some ⟨g9, 0, none⟩) (enc p).length x9) (trn (enc p))) := by
        have h := (unhide H21).os.wide (v := .slice (some ⟨g9, 0, none⟩) (enc p).length x9) (l := trn (enc p)) (by simp [rowsZ])
        exact h
      go_upto_region 26 with (first
        | (go_at_call 10; refine (unhide HDD _ _ (unhide HT _ (unhide H21).os.kept) (unhide HWB)).mono ?_; rintro e w22 ⟨l22, rfl, k⟩; have H22 := hide ((unhide H21).go k); have HWB := hide ((unhide HWB).kept k); clear k H21)
        | (refine wpList_store_row rfl 30 _ _ rfl _ (mcc pz l22) rfl rfl 30 _ (Blk.new w22 _ _) infoMail rfl (by simp [mcc, Value.oneCell']) ?_; refine world_at (R := fun X => Kept [] w22 X) (skipK _ _ _) ?_; rintro X23 k; have H23 := hide ((unhide H22).go k); have HWB := hide ((unhide HWB).kept k); clear k H22))
      go_upto_region 27 with (at_builtin; refine wpList_append_wide _ rfl _ _ 23 rfl X23.heap.size 5 i0 (.int .u8 0) Tryd.underlying23 hi hz0 hz1 hz2 rfl _ [] rfl (World.ownsRow_made X23 #[] 0 (Nat.le_refl _) (Nat.zero_le _) rfl) _ (trn (enc p)) rfl ((unhide HWB).kept ((Kept.refl [] X23).alloc _)) ?c1 ?c2 ?_)
      case c1 => have := (unhide HEL).1; simp [trn_len]; omega
      case c2 => simp
      intro v25 w25 hown hg hat
      have hk25 : Kept [] X23 w25 := ((Kept.refl [] X23).alloc _).grown hg (fun k hk => by simp [Value.ownBlock] at hk; right; omega)
      have hw25 : Wide w25 v25 (trn (enc p)) := Or.inl (Sees.of_own hown)
      obtain ⟨a25, x25, hv⟩ := own_len hown
      subst hv
      have H25 := hide ((unhide H23).go hk25)
      have HWD := hide hw25
      clear hown hg hat hk25 hw25 H23 HWB
      go_upto_region 27 with (first
        | (go_at_call 10; refine (unhide HDD _ _ (unhide HT _ (unhide H25).os.kept) (unhide HWD)).mono ?_; rintro e w26 ⟨l26, rfl, k⟩; have H26 := hide ((unhide H25).go k); clear k H25)
        | (refine wpList_store_row rfl 30 _ _ rfl _ (mcc pz l26) rfl rfl 30 _ (Blk.new w26 _ _) infoMail rfl (by simp [mcc, Value.oneCell']) ?_; refine world_at (R := fun X => Kept [] w26 X) (skipK _ _ _) ?_; rintro X27 k; have H27 := hide ((unhide H26).go k); clear k H26))
      clear HDD HWD
      have hcc : ((c0 : Int) != (c0 : Int)) = false := by simp
      go_upto_region 29 with (first
        | (go_at_call 8; refine (same_rfl ((unhide H27).os.wide (v := .slice a18 (enc (trnM p)).length x18) (l := enc (trnM p)) (by simp [rowsZ])) ((unhide H27).os.wide (v := .slice a20 (enc (trnM p)).length x20) (l := enc (trnM p)) (by simp [rowsZ])) (unhide HLZ)).mono ?_; rintro e w28 ⟨rfl, k⟩; have H28 := hide ((unhide H27).go k); clear k H27)
        | (go_at_call 8; refine (same_rfl ((unhide H28).os.wide (v := .slice a4 (enc p).length x4) (l := enc p) (by simp [rowsZ])) ((unhide H28).os.wide (v := .slice a8 (enc p).length x8) (l := enc p) (by simp [rowsZ])) (unhide HLE)).mono ?_; rintro e w29 ⟨rfl, k⟩; have H29 := hide ((unhide H28).go k); clear k H28)
        | (refine wpList_load_guard 30 _ rfl _ rfl 30 _ (0, 0) _ ((unhide H29).os.nth (i := 1) rfl) Tryd.underlying30 rfl infoMail rfl ?_)
        | (refine wpList_load_guard 30 _ rfl _ rfl 30 _ (0, 0) _ ((unhide H29).os.nth (i := 4) rfl) Tryd.underlying30 rfl infoMail rfl ?_)
        | (go_at_call 11; refine (same_mail (p := p) (l := la) (m := l) ((unhide H29).os.mw (p := p) (l := la) (by intro r hr; simp [rowsZ, hr]) (fun o ho => by have := unhide HTX o ho; omega) (unhide HR).2 (unhide HR).1) (unhide HMp _ (unhide H29).os.kept)).mono ?_; rintro e w30 ⟨rfl, k⟩; have H30 := hide ((unhide H29).go k); clear k H29))
      obtain ⟨i1, hi1, hy0, hy1, hy2⟩ := info_parts info22p
      have HO0 := hide (own_blk (base := w.heap.size) (n := 5) (vs := sls p (lnM g1 c1 g2 c2 g3 c3 g4 c4 g5 c5)) rfl (unhide H30).al (unhide HBL) (by omega))
      have hs30 := (unhide H30).os.kept.size
      go_upto_region 30 with (at_builtin; refine wpList_append_own_wide _ rfl _ _ 41 rfl w.heap.size 23 i1 (.slice none 0 0) 1 24 Tryd.underlying41 hi1 hy0 hy1 hy2 rfl (by decide) (.slice (some ⟨ab, 0, none⟩) 5 5) 5 (sls p (lnM g1 c1 g2 c2 g3 c3 g4 c4 g5 c5)) (by rfl) ((unhide HO0).alloc _) ⟨w30.heap.size, 0, none⟩ 5 5 ([.slice a4 (enc p).length x4, .slice a6 (enc p).length x6, .slice a18 (enc (trnM p)).length x18, .slice a20 (enc (trnM p)).length x20, .slice (some ⟨g9, 0, none⟩) (enc p).length x9]) (by rfl) (by rfl) (blk_cells (Blk.new w30 _ _)) ?d1 ?d2 ?d3 ?d4 ?_)
      case d1 => intro u hu; simp at hu; rcases hu with rfl | rfl | rfl | rfl | rfl <;> rfl
      case d2 => decide
      case d3 => decide
      case d4 => simp; omega
      intro v31 w31 hown hg _
      have kf : Kept [ab] w30 w31 := ((Kept.refl [ab] w30).alloc _).grown hg (fun k hk => Or.inl (by simp [Value.ownBlock] at hk; simp [hk]))
      have H31 := hide ((unhide H30).os.far kf (unhide H30).al (unhide HBL))
      have hown : w31.ownsRow w.heap.size 23 1 v31 10 (sls p (lnM g1 c1 g2 c2 g3 c3 g4 c4 g5 c5) ++ [.slice a4 (enc p).length x4, .slice a6 (enc p).length x6, .slice a18 (enc (trnM p)).length x18, .slice a20 (enc (trnM p)).length x20, .slice (some ⟨g9, 0, none⟩) (enc p).length x9]) := hown
      obtain ⟨b31, x31, cs31, hv31, hb31, -, -⟩ := blk_own hown (by omega)
      subst hv31
      have HO1 := hide hown
      clear hown hg kf H30 HO0 HBL
      have hb31' := HO1
      go_upto_region 31 with (first
        | (refine wpList_load_guard 30 _ rfl _ rfl 30 _ (0, 0) _ ((unhide H31).nth (i := 1) rfl) Tryd.underlying30 rfl infoMail rfl ?_)
        | (go_at_call 12; refine (lists_any _ p la).mono ?_; rintro e w32 ⟨l32, rfl, hbl, -, k⟩; have HL32 := hide hbl; have HO2 := hide (own_kept (unhide HO1) k (by simp)); have H32 := hide ((unhide H31).go k); have hs32 := (unhide H32).kept.size; clear hbl k H31 HO1 hb31')
        | (at_builtin; refine wpList_append_own_wide _ rfl _ _ 41 rfl w.heap.size 23 i1 (.slice none 0 0) 1 24 Tryd.underlying41 hi1 hy0 hy1 hy2 rfl (by decide) (.slice (some ⟨b31, 0, none⟩) 10 x31) 10 (sls p (lnM g1 c1 g2 c2 g3 c3 g4 c4 g5 c5) ++ [.slice a4 (enc p).length x4, .slice a6 (enc p).length x6, .slice a18 (enc (trnM p)).length x18, .slice a20 (enc (trnM p)).length x20, .slice (some ⟨g9, 0, none⟩) (enc p).length x9]) (by rfl) (unhide HO2) ⟨l32, 0, none⟩ 5 5 (sls p la) (by rfl) (by rfl) (blk_cells (unhide HL32)) ?e1 ?e2 ?e3 ?e4 ?_))
      case e1 => exact sls_one _ _
      case e2 => decide
      case e3 => decide
      case e4 => exact hs32
      intro v33 w33 hown hg _
      obtain ⟨b32, x32, cs32, hv32, hb32, hblk32, -⟩ := blk_own (unhide HO2) (by omega)
      have kf : Kept [b31] w32 w33 := (Kept.refl [b31] w32).grown hg (fun k hk => Or.inl (by simp [Value.ownBlock] at hk; simp [hk]))
      have he32 : b31 = b32 := by injection hv32 with h1 h2 h3; injection h1 with h1; injection h1
      have H33 := hide ((unhide H32).far kf (by rw [he32]; exact hblk32) (by rw [he32]; exact hb32))
      have hown : w33.ownsRow w.heap.size 23 1 v33 15 (sls p (lnM g1 c1 g2 c2 g3 c3 g4 c4 g5 c5) ++ [.slice a4 (enc p).length x4, .slice a6 (enc p).length x6, .slice a18 (enc (trnM p)).length x18, .slice a20 (enc (trnM p)).length x20, .slice (some ⟨g9, 0, none⟩) (enc p).length x9] ++ sls p la) := hown
      obtain ⟨b33, x33, cs33, hv33, hb33, -, -⟩ := blk_own hown (by omega)
      subst hv33
      have HO3 := hide hown
      clear hown hg kf H32 HO2 HL32 hv32 hblk32 he32 hb32 hb31
      go_upto_region 32 with (first
        | (refine wpList_load_guard 30 _ rfl _ rfl 30 _ (0, 0) _ ((unhide H33).nth (i := 0) rfl) Tryd.underlying30 rfl infoMail rfl ?_)
        | (go_at_call 12; refine (lists_any _ p lb).mono ?_; rintro e w34 ⟨l34, rfl, hbl, -, k⟩; have HL34 := hide hbl; have HO4 := hide (own_kept (unhide HO3) k (by simp)); have H34 := hide ((unhide H33).go k); have hs34 := (unhide H34).kept.size; clear hbl k H33 HO3)
        | (at_builtin; refine wpList_append_own_wide _ rfl _ _ 41 rfl w.heap.size 23 i1 (.slice none 0 0) 1 24 Tryd.underlying41 hi1 hy0 hy1 hy2 rfl (by decide) (.slice (some ⟨b33, 0, none⟩) 15 x33) 15 (sls p (lnM g1 c1 g2 c2 g3 c3 g4 c4 g5 c5) ++ [.slice a4 (enc p).length x4, .slice a6 (enc p).length x6, .slice a18 (enc (trnM p)).length x18, .slice a20 (enc (trnM p)).length x20, .slice (some ⟨g9, 0, none⟩) (enc p).length x9] ++ sls p la) (by rfl) (unhide HO4) ⟨l34, 0, none⟩ 5 5 (sls p lb) (by rfl) (by rfl) (blk_cells (unhide HL34)) ?f1 ?f2 ?f3 ?f4 ?_))
      case f1 => exact sls_one _ _
      case f2 => decide
      case f3 => decide
      case f4 => exact hs34
      intro v35 w35 hown hg _
      obtain ⟨b34, x34, cs34, hv34, hb34, hblk34, -⟩ := blk_own (unhide HO4) (by omega)
      have kf : Kept [b33] w34 w35 := (Kept.refl [b33] w34).grown hg (fun k hk => Or.inl (by simp [Value.ownBlock] at hk; simp [hk]))
      have he34 : b33 = b34 := by injection hv34 with h1 h2 h3; injection h1 with h1; injection h1
      have H35 := hide ((unhide H34).far kf (by rw [he34]; exact hblk34) (by rw [he34]; exact hb34))
      have hown : w35.ownsRow w.heap.size 23 1 v35 20 (sls p (lnM g1 c1 g2 c2 g3 c3 g4 c4 g5 c5) ++ [.slice a4 (enc p).length x4, .slice a6 (enc p).length x6, .slice a18 (enc (trnM p)).length x18, .slice a20 (enc (trnM p)).length x20, .slice (some ⟨g9, 0, none⟩) (enc p).length x9] ++ sls p la ++ sls p lb) := hown
      obtain ⟨b35, x35, cs35, hv35, hb35, -, -⟩ := blk_own hown (by omega)
      subst hv35
      have HO5 := hide hown
      clear hown hg kf H34 HO4 HL34 hv34 hblk34 he34 hb34 hb33
      go_upto_region 33 with (first
        | (go_at_call 10; refine (decT (unhide HT _ (unhide H35).kept) ((unhide H35).wide (v := .slice a8 (enc p).length x8) (l := enc p) (by simp [rowsZ])) (unhide HS) (unhide HR).1 (unhide HR).2).mono ?_; rintro e w36 ⟨lc, rfl, hn, k⟩; have HPB := hide (unhide H35).pool; have HNW := hide hn; have HO6 := hide (own_kept (unhide HO5) k (by simp)); have H36 := hide ((unhide H35).go k); clear hn k H35 HO5)
        | (refine wpList_store_row rfl 30 _ _ rfl _ (mcc p lc) rfl rfl 30 _ (Blk.new w36 _ _) infoMail rfl (by simp [mcc, Value.oneCell']) ?_; refine world_at (R := fun X => OS w (rowsZ p (lnM g1 c1 g2 c2 g3 c3 g4 c4 g5 c5) la lb (.slice a20 (enc (trnM p)).length x20) (.slice a18 (enc (trnM p)).length x18) (.slice (some ⟨g9, 0, none⟩) (enc p).length x9) (.slice a8 (enc p).length x8) (.slice a6 (enc p).length x6) (.slice a4 (enc p).length x4)) ((w36.heap.size, mcc p lc) :: (bB, mcc p lb) :: (bA, mcc p la) :: (bG, mcc p (lnM g1 c1 g2 c2 g3 c3 g4 c4 g5 c5)) :: [(w.heap.size + 1, mcc q mo), (w.heap.size, mcc p l)]) X ∧ Kept [] w36 X) ⟨(unhide H36).boxRow _ _, skipK _ _ _⟩ ?_; rintro X37 ⟨hx, k⟩; have H37 := hide hx; have HNW := hide ((unhide HNW).kept k); have HO7 := hide (own_kept (unhide HO6) k (by simp)); clear hx k H36 HO6))
      obtain ⟨b37, x37, cs37, hv37, -, hblk37, hcs37⟩ := blk_own (unhide HO7) (by omega)
      have he37 : b35 = b37 := by injection hv37 with h1 h2 h3; injection h1 with h1; injection h1
      rw [← he37] at hblk37
      have HBK := hide hblk37
      have HCS : Hid (∀ i, i < 20 → cs37[i]? = some ((rowsZ p (lnM g1 c1 g2 c2 g3 c3 g4 c4 g5 c5) la lb (.slice a20 (enc (trnM p)).length x20) (.slice a18 (enc (trnM p)).length x18) (.slice (some ⟨g9, 0, none⟩) (enc p).length x9) (.slice a8 (enc p).length x8) (.slice a6 (enc p).length x6) (.slice a4 (enc p).length x4)).getD (piA i) default).1) := by
        intro i hi
        rw [hcs37 i hi]
        have h20 : i = 0 ∨ i = 1 ∨ i = 2 ∨ i = 3 ∨ i = 4 ∨ i = 5 ∨ i = 6 ∨ i = 7 ∨ i = 8 ∨ i = 9 ∨ i = 10 ∨ i = 11 ∨ i = 12 ∨ i = 13 ∨ i = 14 ∨ i = 15 ∨ i = 16 ∨ i = 17 ∨ i = 18 ∨ i = 19 := by omega
        rcases h20 with rfl | rfl | rfl | rfl | rfl | rfl | rfl | rfl | rfl | rfl | rfl | rfl | rfl | rfl | rfl | rfl | rfl | rfl | rfl | rfl <;> rfl
      clear hv37 hblk37 hcs37 he37
      go_wp2_with (first
        | (go_at_call 14; refine (apart_pool (unhide H37).pool (unhide H37).kept.size (m := 20) (by omega) piA piA_lt piA_inj (unhide HBK) (unhide HCS)).mono ?_; rintro e w38 ⟨rfl, kk⟩; have HCW := hide (over_newM (unhide HNW) (unhide HPB) kk ((unhide HNW).mwS (unhide HTX) (unhide HR).2 (unhide HR).1)); have H38 := hide ((unhide H37).over kk); clear kk H37 HNW HPB HBK HCS)
        | (refine wpList_load_guard 30 _ rfl _ rfl 30 _ (0, 0) _ ((unhide H38).nth (i := 0) rfl) Tryd.underlying30 rfl infoMail rfl ?_)
        | (refine wpList_load_guard 30 _ rfl _ rfl 30 _ (0, 0) _ ((unhide H38).nth (i := 5) rfl) Tryd.underlying30 rfl infoMail rfl ?_)
        | (go_at_call 11; refine (same_mail (p := p) (l := lc) (m := l) (unhide HCW) (unhide HMp _ (unhide H38).kept)).mono ?_; rintro e w39 ⟨rfl, k⟩; have HKZ := hide ((unhide H38).kept.step k); clear k))
      all_goals
        go_ret
        exact ⟨rfl, unhide HKZ⟩
theorem own_walk (w : World) (p q : Ml) (l mo : Lm) (ht : Tab w) (h1 : MW w p l) (h2 : MW w q mo) (hl : ∀ o, isT o → (getT p o).length ≤ 140737488355326) : Calls Tryd.prog 4 #[mv p l, mv q mo] w fun e w' => e = .returned (.bool true) ∧ Kept [] w w' := by
  cases hs : snd p with
  | true => exact own_yes w p q l mo ht h1 h2 hs
  | false => exact own_no w p q l mo ht h1 h2 hl hs
end Go.Proofs.YtfhfkpgfnlmfhabDoor
