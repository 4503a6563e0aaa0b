/- A text of the base. -/
import Derived.Test.YtfhfkpgfnlmfhaaGreatDoorPkBN
import Derived.Test.YtfhfkpgfnlmfhaaGreatDoorPkBO
import Derived.Test.YtfhfkpgfnlmfhaaGreatDoorPkBS
/- The document's Decode, the sum being right; and whatever the bytes. -/
namespace Go.Proofs.YtfhfkpgfnlmfhaaGreatDoor
open Go.RowKit
set_option linter.unusedSimpArgs false

theorem takP_cl (s : Rdm) (c : Pc) : (takP s c).ml.client = s.ml.client := by
  cases c with
  | byte o => simp only [takP]; unfold setN; split <;> rfl
  | num o => simp only [takP]; unfold setN; split <;> rfl
  | flag => rfl
  | root => rfl
  | text o => simp only [takP]; unfold setT; split <;> rfl
theorem takL_cl : ∀ (ks : List Pc) (s : Rdm), (takL s ks).ml.client = s.ml.client
  | [], _ => rfl
  | c :: ks, s => (takL_cl ks (takP s c)).trans (takP_cl s c)
theorem looM_cl (bs : List Nat) : -9223372036854775808 ≤ (looM bs).client ∧ (looM bs).client ≤ 9223372036854775807 := by
  have h0 : (looR bs).ml.client = 0 := by
    unfold looR read2 read1
    rw [takL_cl, takL_cl, takL_cl]
    rfl
  have hw : ∀ n : Int, -9223372036854775808 ≤ wrap64 n ∧ wrap64 n ≤ 9223372036854775807 := fun n => by unfold wrap64; omega
  unfold looM named
  split
  · exact hw _
  · split
    · exact hw _
    · rw [h0]; omega
theorem loo_mw {W : World} {bs : List Nat} {l : Lm} (hb : ∀ x ∈ bs, x < 256) (hs : snd (looM bs) = true) (hn : ∀ o, isT o → Wide W (slT l (looM bs) o) (getT (looM bs) o)) : MW W (looM bs) l := by
  obtain ⟨h1, h2⟩ := looM_byt hb
  exact ⟨hn, fun o ho => by have := snd_texts hs o ho; omega, h2, h1⟩

set_option maxRecDepth 100000 in
set_option maxHeartbeats 3200000 in
theorem rdec_no (w : World) (bs : List Nat) (b off m xc c v : Nat) (hx : Wide w (.slice (some ⟨b, off, none⟩) (m + 4 : Nat) xc) bs) (hd : Dc w b off m xc bs c v) (hc1 : m + 4 ≤ xc) (hn : v = c) {p : Ml} (hp : looM (bs.take m) = p) (hs : snd p = false) : Calls Tryz.prog 4 #[.slice (some ⟨b, off, none⟩) (m + 4) xc] w (RDcP w bs) := by
  have HD := hide hd
  have HW := hide hx
  have HTL : Hid (∀ y ∈ bs.take m, y < 256) := fun y hy => hd.byt y (List.mem_of_mem_take hy)
  have HLN : Hid ((bs.take m).length + 4 ≤ 140737488355328) := by have := hd.m5; unfold Hid; simp; omega
  have HSB := hide (hd.sums.1 hn)
  have hse : ((strB (summed (bs.take m))).toList == (strB bs).toList) = true := by rw [hd.sums.1 hn]; simp
  have hlm : bs.length - 4 = m := by have := hd.len; omega
  have HSD : Hid (∀ (W : World) (l : Lm), Calls Tryz.prog 11 #[.agg (mcc p l)] W fun e w' => e = .returned (.bool false) ∧ Kept [] W w') := fun W l => by have := rsound_any W p l (by rw [← hp]; exact looM_cl _); rw [hs] at this; exact this
  have HE : Hid (decE bs = 190) := dec_loo_no hd.byt (by have := hd.len; have := hd.m5; omega) (by have := hd.len; have := hd.m5; omega) (by rw [hlm, ← hd.cc]; exact (sum_iff (by simp; have := hd.len; omega) (fun y hy => hd.byt y (List.mem_of_mem_drop hy)) hd.cl).1 (hd.vv.symm.trans hn)) (by rw [hlm, hp]; rintro ⟨h, _⟩; rw [hs] at h; cases h)
  have HP := hide hp
  have hm := hd.m5
  have hg1 : ((524288 : Int) < ((m + 4 : Nat) : Int)) = False := eq_false (by omega)
  have hg2 : (((m + 4 : Nat) : Int) < 8) = False := eq_false (by omega)
  have hg3 : ((524288 : Int) < (m : Int) + 4) = False := eq_false (by omega)
  have hg4 : ((m : Int) + 4 < 8) = False := eq_false (by omega)
  have e2 : wrap64 ((m : Int) + 4 - 4) = (m : Int) := by unfold wrap64; omega
  have e3 : wrap64 (m : Int) = (m : Int) := by unfold wrap64; omega
  have e4 : IntKind.i64.wrap (m : Int) = (m : Int) := by rw [IntKind.wrap_i64]; omega
  have hm1 : m ≤ xc := by omega
  clear hd hn hx hp
  go_enter Tryz.func4, Tryz.ntmps4
  go_upto_region 1 with fail
  refine world_at (R := fun X => Blk X w.heap.size (mcc zeroM nilM) 30 ∧ Kept [] w X) ⟨Blk.new _ _ _, (Kept.refl [] w).alloc _⟩ ?_
  rintro X ⟨hR, hK⟩
  have HR := hide hR
  have HK := hide hK
  clear hR hK
  go_upto_region 6 with fail
  have HWX := hide (fun (W : World) (k : Kept [] X W) => conv_wide ((unhide HW).kept ((unhide HK).step k)))
  go_cut [22] (fun t wc => t = .bool false ∧ Hid (Kept [] X wc))
  case first =>
    have hc0 := unhide HWX X (Kept.refl _ _)
    have hc3 := unhide HWX X.drew (Kept.refl _ _).drew
    go_region_with (first
      | (go_at_call 9; refine (rsummed_any ((unhide HD).parts _ (by first | exact unhide HK | exact (unhide HK).drew | exact (unhide HK).drewN _)).1 (unhide HTL) (unhide HLN)).mono ?_; rintro e w20 ⟨k20, a20, cap20, rfl, ho⟩; have K20 : Hid (Kept [] X w20) := (by first | exact k20 | exact ((Kept.refl [] X).drew).step k20); clear k20; have hc1 := conv_wide (Or.inl (Sees.of_own ho)); have hc2 := unhide HWX _ (unhide K20); clear ho))
    all_goals
      go_wp2_with fail
      go_meet
      exact ⟨by simp [hse], hide (unhide K20)⟩
  case rest =>
    obtain ⟨rfl, HKC⟩ := hcut
    have HK2 := hide ((unhide HK).step (unhide HKC))
    have HR2 := hide ((unhide HR).kept (unhide HKC) (by simp))
    clear HWX HKC HK HR hse
    go_upto_region 9 with (first
      | (go_at_call 10; refine (rread_any ((unhide HD).parts _ (unhide HK2)).1 (unhide HTL) (by have := unhide HLN; omega)).mono ?_; rintro e w3 ⟨k3, l, rfl, hnv⟩; rw [unhide HP] at hnv ⊢; have HK3 := hide ((unhide HK2).step k3); have HR3 := hide ((unhide HR2).kept k3 (by simp)); have HNV := hide hnv; have HLT := hide (unhide HR2).lt; clear k3 hnv HK2 HR2)
      | (refine wpList_store_row rfl 30 _ _ rfl _ (mcc p l) rfl rfl 30 _ (Blk.new w3 _ _) infoMail rfl (by simp [mcc, Value.oneCell']) ?_; refine world_at (R := fun Z => Blk Z w3.heap.size (mcc p l) 30 ∧ Kept [] w3 Z) ⟨setRow_heap _ _ _ _ _ _ (Blk.new w3 _ _), ((Kept.refl [] w3).alloc _).setRow (Or.inr (Nat.le_refl _)) _⟩ ?_; rintro Z ⟨hzb, hzk⟩))
    generalize w3.heap.size = B at *
    have HB := hide hzb
    have HKZ := hide ((unhide HK3).step hzk)
    have HRZ := hide ((unhide HR3).kept hzk (by simp))
    have HNZ := hide (fun o ho => (unhide HNV o ho).kept hzk (by simp))
    clear hzb hzk HK3 HR3 HNV
    have HWZ := hide (fun (W : World) (k : Kept [] Z W) => conv_wide ((unhide HW).kept ((unhide HKZ).step k)))
    dsimp only [Act.put]
    go_cut [39] (fun t wc => t = .bool true ∧ Hid (Kept [] Z wc))
    case first =>
      have HBP := hide (fun W (k : Kept [] Z W) => (unhide HB).kept k (by simp))
      refine wp_region_any (by kernel_rfl) ?_
      (try (change wpAny _ _ _ _ _ _ _ (World.drew _)))
      refine world_at (R := fun Y => Kept [] Z Y) ((Kept.refl [] Z).drew) ?_
      rintro Y hY
      have KK0 := hide hY
      clear hY
      refine wpAny_ready (rs := [0]) (by kernel_rfl) (by simp) ?_
      refine AllReady.cons rfl (fun K hK => ?_) AllReady.nil
      refine step_load_row rfl 30 _ rfl _ rfl 30 _ (0, 0) _ (unhide HBP _ (unhide KK0)) Tryz.underlying30 rfl infoMail ?_
      refine hK _ _ ?_; clear hK K
      simp only [List.getElem_toArray, List.getElem_cons_zero, Act.put, List.setIfInBounds_toArray, List.set_cons_succ, List.set_cons_zero]
      refine wpAny_ready (rs := [1]) (by kernel_rfl) (by simp) ?_
      refine AllReady.cons rfl (fun K hK => ?_) AllReady.nil
      go_simp
      go_wp2_with (first | (go_at_call 11; refine (unhide HSD _ l).mono ?_; rintro e w4 ⟨rfl, k4⟩; have KK1 := hide ((unhide KK0).step k4); clear k4))
      (try (refine hK _ _ ?_; clear hK K))
      refine wpAny_take (i := 2) (v := ?_) rfl (by kernel_rfl) (by kernel_rfl) (by kernel_rfl) (fun _ _ _ h => h) (Or.inl ⟨by rfl, ?_⟩) ?_
      rotate_left 1
      · intro w; (go_simp <;> with_reducible rfl)
      simp only [List.getElem_toArray, List.getElem_cons_succ, List.getElem_cons_zero, Act.put, List.setIfInBounds_toArray, List.set_cons_succ, List.set_cons_zero]
      refine wpAny_take (i := 3) (v := ?_) rfl (by kernel_rfl) (by kernel_rfl) (by kernel_rfl) (fun _ _ _ h => h) (Or.inl ⟨by rfl, ?_⟩) ?_
      rotate_left 1
      · intro w; (go_simp <;> with_reducible rfl)
      simp only [List.getElem_toArray, List.getElem_cons_succ, List.getElem_cons_zero, Act.put, List.setIfInBounds_toArray, List.set_cons_succ, List.set_cons_zero]
      refine wpAny_take (i := 4) (v := undef) rfl (by kernel_rfl) (by kernel_rfl) (by kernel_rfl) (fun _ _ _ h => h) (Or.inr ⟨by rfl, rfl⟩) ?_
      simp only [List.getElem_toArray, List.getElem_cons_succ, List.getElem_cons_zero, Act.put, List.setIfInBounds_toArray, List.set_cons_succ, List.set_cons_zero]
      refine wpAny_take (i := 5) (v := undef) rfl (by kernel_rfl) (by kernel_rfl) (by kernel_rfl) (fun _ _ _ h => h) (Or.inr ⟨by rfl, rfl⟩) ?_
      simp only [List.getElem_toArray, List.getElem_cons_succ, List.getElem_cons_zero, Act.put, List.setIfInBounds_toArray, List.set_cons_succ, List.set_cons_zero]
      refine wpAny_take (i := 6) (v := undef) rfl (by kernel_rfl) (by kernel_rfl) (by kernel_rfl) (fun _ _ _ h => h) (Or.inr ⟨by rfl, rfl⟩) ?_
      simp only [List.getElem_toArray, List.getElem_cons_succ, List.getElem_cons_zero, Act.put, List.setIfInBounds_toArray, List.set_cons_succ, List.set_cons_zero]
      refine wpAny_take (i := 7) (v := undef) rfl (by kernel_rfl) (by kernel_rfl) (by kernel_rfl) (fun _ _ _ h => h) (Or.inr ⟨by rfl, rfl⟩) ?_
      simp only [List.getElem_toArray, List.getElem_cons_succ, List.getElem_cons_zero, Act.put, List.setIfInBounds_toArray, List.set_cons_succ, List.set_cons_zero]
      refine wpAny_take (i := 8) (v := undef) rfl (by kernel_rfl) (by kernel_rfl) (by kernel_rfl) (fun _ _ _ h => h) (Or.inr ⟨by rfl, rfl⟩) ?_
      simp only [List.getElem_toArray, List.getElem_cons_succ, List.getElem_cons_zero, Act.put, List.setIfInBounds_toArray, List.set_cons_succ, List.set_cons_zero]
      refine wpAny_take (i := 9) (v := undef) rfl (by kernel_rfl) (by kernel_rfl) (by kernel_rfl) (fun _ _ _ h => h) (Or.inr ⟨by rfl, rfl⟩) ?_
      simp only [List.getElem_toArray, List.getElem_cons_succ, List.getElem_cons_zero, Act.put, List.setIfInBounds_toArray, List.set_cons_succ, List.set_cons_zero]
      refine wpAny_take (i := 10) (v := ?_) rfl (by kernel_rfl) (by kernel_rfl) (by kernel_rfl) (fun _ _ _ h => h) (Or.inl ⟨by rfl, ?_⟩) ?_
      rotate_left 1
      · intro w; (go_simp <;> with_reducible rfl)
      simp only [List.getElem_toArray, List.getElem_cons_succ, List.getElem_cons_zero, Act.put, List.setIfInBounds_toArray, List.set_cons_succ, List.set_cons_zero]
      refine wpAny_done (by kernel_rfl) ?_ _
      go_wp2_with fail
      go_meet
      exact ⟨by simp, hide (unhide KK1)⟩
    case rest =>
      obtain ⟨rfl, HKC⟩ := hcut
      have HK5 := hide ((unhide HKZ).step (unhide HKC))
      have HR5 := hide ((unhide HRZ).kept (unhide HKC) (by simp))
      go_wp2_with (refine wpList_store_self rfl 30 _ _ rfl _ (mcc zeroM nilM) rfl rfl 30 (unhide HR5) infoMail (by simp [mcc, Value.oneCell']) ?_)
      refine ret_struct_tmp rfl rfl (unhide HR5) Tryz.underlying30 infoMail rfl ?_
      exact RDcP.fail (c := 190) (unhide HK5) (unhide HE) (by omega)

set_option maxRecDepth 100000 in
set_option maxHeartbeats 3200000 in
theorem rdec_ne (w : World) (bs : List Nat) (b off m xc c v : Nat) (hx : Wide w (.slice (some ⟨b, off, none⟩) (m + 4 : Nat) xc) bs) (hd : Dc w b off m xc bs c v) (hc1 : m + 4 ≤ xc) (hn : v = c) {p : Ml} (hp : looM (bs.take m) = p) (hs : snd p = true) (he : enc p ≠ bs) : Calls Tryz.prog 4 #[.slice (some ⟨b, off, none⟩) (m + 4) xc] w (RDcP w bs) := by
  have HD := hide hd
  have HW := hide hx
  have HTL : Hid (∀ y ∈ bs.take m, y < 256) := fun y hy => hd.byt y (List.mem_of_mem_take hy)
  have HLN : Hid ((bs.take m).length + 4 ≤ 140737488355328) := by have := hd.m5; unfold Hid; simp; omega
  have HSB := hide (hd.sums.1 hn)
  have hse : ((strB (summed (bs.take m))).toList == (strB bs).toList) = true := by rw [hd.sums.1 hn]; simp
  have hlm : bs.length - 4 = m := by have := hd.len; omega
  have HSD : Hid (∀ (W : World) (l : Lm), Calls Tryz.prog 11 #[.agg (mcc p l)] W fun e w' => e = .returned (.bool true) ∧ Kept [] W w') := fun W l => by have := rsound_any W p l (by rw [← hp]; exact looM_cl _); rw [hs] at this; exact this
  have HE : Hid (decE bs = 190) := dec_loo_no hd.byt (by have := hd.len; have := hd.m5; omega) (by have := hd.len; have := hd.m5; omega) (by rw [hlm, ← hd.cc]; exact (sum_iff (by simp; have := hd.len; omega) (fun y hy => hd.byt y (List.mem_of_mem_drop hy)) hd.cl).1 (hd.vv.symm.trans hn)) (by rw [hlm, hp]; rintro ⟨_, h⟩; exact he h)
  have HFM : Hid (∀ (W : World) (l : Lm), (∀ o, isT o → Wide W (slT l p o) (getT p o)) → Calls Tryz.prog 12 #[.agg (mcc p l)] W (FoP W p)) := fun W l h => rform_any W p l (by have hs' := hs; subst hp; exact loo_mw (unhide HTL) hs' h) hs
  have hse2 : ((strB (enc p)).toList == (strB bs).toList) = false := str_ne (enc_lt hs (by subst hp; exact (looM_byt (unhide HTL)).1) (by subst hp; exact (looM_byt (unhide HTL)).2)) hd.byt he
  have HP := hide hp
  have hm := hd.m5
  have hg1 : ((524288 : Int) < ((m + 4 : Nat) : Int)) = False := eq_false (by omega)
  have hg2 : (((m + 4 : Nat) : Int) < 8) = False := eq_false (by omega)
  have hg3 : ((524288 : Int) < (m : Int) + 4) = False := eq_false (by omega)
  have hg4 : ((m : Int) + 4 < 8) = False := eq_false (by omega)
  have e2 : wrap64 ((m : Int) + 4 - 4) = (m : Int) := by unfold wrap64; omega
  have e3 : wrap64 (m : Int) = (m : Int) := by unfold wrap64; omega
  have e4 : IntKind.i64.wrap (m : Int) = (m : Int) := by rw [IntKind.wrap_i64]; omega
  have hm1 : m ≤ xc := by omega
  clear hd hn hx hp he
  go_enter Tryz.func4, Tryz.ntmps4
  go_upto_region 1 with fail
  refine world_at (R := fun X => Blk X w.heap.size (mcc zeroM nilM) 30 ∧ Kept [] w X) ⟨Blk.new _ _ _, (Kept.refl [] w).alloc _⟩ ?_
  rintro X ⟨hR, hK⟩
  have HR := hide hR
  have HK := hide hK
  clear hR hK
  go_upto_region 6 with fail
  have HWX := hide (fun (W : World) (k : Kept [] X W) => conv_wide ((unhide HW).kept ((unhide HK).step k)))
  go_cut [22] (fun t wc => t = .bool false ∧ Hid (Kept [] X wc))
  case first =>
    have hc0 := unhide HWX X (Kept.refl _ _)
    have hc3 := unhide HWX X.drew (Kept.refl _ _).drew
    go_region_with (first
      | (go_at_call 9; refine (rsummed_any ((unhide HD).parts _ (by first | exact unhide HK | exact (unhide HK).drew | exact (unhide HK).drewN _)).1 (unhide HTL) (unhide HLN)).mono ?_; rintro e w20 ⟨k20, a20, cap20, rfl, ho⟩; have K20 : Hid (Kept [] X w20) := (by first | exact k20 | exact ((Kept.refl [] X).drew).step k20); clear k20; have hc1 := conv_wide (Or.inl (Sees.of_own ho)); have hc2 := unhide HWX _ (unhide K20); clear ho))
    all_goals
      go_wp2_with fail
      go_meet
      exact ⟨by simp [hse], hide (unhide K20)⟩
  case rest =>
    obtain ⟨rfl, HKC⟩ := hcut
    have HK2 := hide ((unhide HK).step (unhide HKC))
    have HR2 := hide ((unhide HR).kept (unhide HKC) (by simp))
    clear HWX HKC HK HR hse
    go_upto_region 9 with (first
      | (go_at_call 10; refine (rread_any ((unhide HD).parts _ (unhide HK2)).1 (unhide HTL) (by have := unhide HLN; omega)).mono ?_; rintro e w3 ⟨k3, l, rfl, hnv⟩; rw [unhide HP] at hnv ⊢; have HK3 := hide ((unhide HK2).step k3); have HR3 := hide ((unhide HR2).kept k3 (by simp)); have HNV := hide hnv; have HLT := hide (unhide HR2).lt; clear k3 hnv HK2 HR2)
      | (refine wpList_store_row rfl 30 _ _ rfl _ (mcc p l) rfl rfl 30 _ (Blk.new w3 _ _) infoMail rfl (by simp [mcc, Value.oneCell']) ?_; refine world_at (R := fun Z => Blk Z w3.heap.size (mcc p l) 30 ∧ Kept [] w3 Z) ⟨setRow_heap _ _ _ _ _ _ (Blk.new w3 _ _), ((Kept.refl [] w3).alloc _).setRow (Or.inr (Nat.le_refl _)) _⟩ ?_; rintro Z ⟨hzb, hzk⟩))
    generalize w3.heap.size = B at *
    have HB := hide hzb
    have HKZ := hide ((unhide HK3).step hzk)
    have HRZ := hide ((unhide HR3).kept hzk (by simp))
    have HNZ := hide (fun o ho => (unhide HNV o ho).kept hzk (by simp))
    clear hzb hzk HK3 HR3 HNV
    have HWZ := hide (fun (W : World) (k : Kept [] Z W) => conv_wide ((unhide HW).kept ((unhide HKZ).step k)))
    dsimp only [Act.put]
    go_cut [39] (fun t wc => t = .bool true ∧ Hid (Kept [] Z wc))
    case first =>
      have HBP := hide (fun W (k : Kept [] Z W) => (unhide HB).kept k (by simp))
      refine wp_region_any (by kernel_rfl) ?_
      (try (change wpAny _ _ _ _ _ _ _ (World.drew _)))
      refine world_at (R := fun Y => Kept [] Z Y) ((Kept.refl [] Z).drew) ?_
      rintro Y hY
      have KK0 := hide hY
      clear hY
      refine wpAny_ready (rs := [0]) (by kernel_rfl) (by simp) ?_
      refine AllReady.cons rfl (fun K hK => ?_) AllReady.nil
      refine step_load_row rfl 30 _ rfl _ rfl 30 _ (0, 0) _ (unhide HBP _ (unhide KK0)) Tryz.underlying30 rfl infoMail ?_
      refine hK _ _ ?_; clear hK K
      simp only [List.getElem_toArray, List.getElem_cons_zero, Act.put, List.setIfInBounds_toArray, List.set_cons_succ, List.set_cons_zero]
      refine wpAny_ready (rs := [1]) (by kernel_rfl) (by simp) ?_
      refine AllReady.cons rfl (fun K hK => ?_) AllReady.nil
      go_simp
      go_wp2_with (first | (go_at_call 11; refine (unhide HSD _ l).mono ?_; rintro e w4 ⟨rfl, k4⟩; have KK1 := hide ((unhide KK0).step k4); clear k4))
      (try (refine hK _ _ ?_; clear hK K))
      refine wpAny_take (i := 2) (v := ?_) rfl (by kernel_rfl) (by kernel_rfl) (by kernel_rfl) (fun _ _ _ h => h) (Or.inl ⟨by rfl, ?_⟩) ?_
      rotate_left 1
      · intro w; (go_simp <;> with_reducible rfl)
      simp only [List.getElem_toArray, List.getElem_cons_succ, List.getElem_cons_zero, Act.put, List.setIfInBounds_toArray, List.set_cons_succ, List.set_cons_zero]
      refine wpAny_take (i := 3) (v := ?_) rfl (by kernel_rfl) (by kernel_rfl) (by kernel_rfl) (fun _ _ _ h => h) (Or.inl ⟨by rfl, ?_⟩) ?_
      rotate_left 1
      · intro w; (go_simp <;> with_reducible rfl)
      simp only [List.getElem_toArray, List.getElem_cons_succ, List.getElem_cons_zero, Act.put, List.setIfInBounds_toArray, List.set_cons_succ, List.set_cons_zero]
      refine wpAny_take (i := 7) (v := ?_) rfl (by kernel_rfl) (by kernel_rfl) (by kernel_rfl) (fun _ _ _ h => h) (Or.inl ⟨by rfl, ?_⟩) ?_
      rotate_left 1
      · intro w; (go_simp <;> with_reducible rfl)
      simp only [List.getElem_toArray, List.getElem_cons_succ, List.getElem_cons_zero, Act.put, List.setIfInBounds_toArray, List.set_cons_succ, List.set_cons_zero]
      refine wpAny_ready (rs := [4, 8]) (by kernel_rfl) (by simp) ?_
      refine AllReady.cons rfl (fun K hK => ?_) (AllReady.cons rfl (fun K hK => ?_) AllReady.nil)
      · refine step_load_row rfl 30 _ rfl _ rfl 30 _ (0, 0) _ (unhide HBP _ (unhide KK1)) Tryz.underlying30 rfl infoMail ?_
        refine hK _ _ ?_; clear hK K
        simp only [List.getElem_toArray, List.getElem_cons_succ, List.getElem_cons_zero, Act.put, List.setIfInBounds_toArray, List.set_cons_succ, List.set_cons_zero]
        refine wpAny_ready (rs := [5, 8]) (by kernel_rfl) (by simp) ?_
        refine AllReady.cons rfl (fun K hK => ?_) (AllReady.cons rfl (fun K hK => ?_) AllReady.nil)
        · go_simp
          go_wp2_with (first | (go_at_call 12; refine (unhide HFM _ l (fun o ho => (unhide HNZ o ho).wide.kept (unhide KK1))).mono ?_; rintro e y2 ⟨a5, cap5, rfl, ho, k2⟩; have KK2 := hide ((unhide KK1).step k2); have hcf := conv_wide (Or.inl (Sees.of_own ho)); clear k2 ho))
          (try (refine hK _ _ ?_; clear hK K))
          refine wpAny_ready (rs := [6, 8]) (by kernel_rfl) (by simp) ?_
          refine AllReady.cons rfl (fun K hK => ?_) (AllReady.cons rfl (fun K hK => ?_) AllReady.nil)
          · go_simp
            refine hK _ _ ?_; clear hK K
            refine wpAny_ready (rs := [8]) (by kernel_rfl) (by simp) ?_
            refine AllReady.cons rfl (fun K hK => ?_) AllReady.nil
            have hcp := unhide HWZ _ (unhide KK2)
            go_simp
            refine hK _ _ ?_; clear hK K hcp
            refine wpAny_take (i := 9) (v := ?_) rfl (by kernel_rfl) (by kernel_rfl) (by kernel_rfl) (fun _ _ _ h => h) (Or.inl ⟨by rfl, ?_⟩) ?_
            rotate_left 1
            · intro w; (go_simp <;> with_reducible rfl)
            simp only [List.getElem_toArray, List.getElem_cons_succ, List.getElem_cons_zero, Act.put, List.setIfInBounds_toArray, List.set_cons_succ, List.set_cons_zero]
            refine wpAny_take (i := 10) (v := ?_) rfl (by kernel_rfl) (by kernel_rfl) (by kernel_rfl) (fun _ _ _ h => h) (Or.inl ⟨by rfl, ?_⟩) ?_
            rotate_left 1
            · intro w; (go_simp <;> with_reducible rfl)
            simp only [List.getElem_toArray, List.getElem_cons_succ, List.getElem_cons_zero, Act.put, List.setIfInBounds_toArray, List.set_cons_succ, List.set_cons_zero]
            refine wpAny_done (by kernel_rfl) ?_ _
            go_wp2_with fail
            go_meet
            exact ⟨by simp [hse2], hide (unhide KK2)⟩
          · have hcp := unhide HWZ _ (unhide KK2)
            go_simp
            refine hK _ _ ?_; clear hK K hcp
            refine wpAny_ready (rs := [6]) (by kernel_rfl) (by simp) ?_
            refine AllReady.cons rfl (fun K hK => ?_) AllReady.nil
            go_simp
            refine hK _ _ ?_; clear hK K
            refine wpAny_take (i := 9) (v := ?_) rfl (by kernel_rfl) (by kernel_rfl) (by kernel_rfl) (fun _ _ _ h => h) (Or.inl ⟨by rfl, ?_⟩) ?_
            rotate_left 1
            · intro w; (go_simp <;> with_reducible rfl)
            simp only [List.getElem_toArray, List.getElem_cons_succ, List.getElem_cons_zero, Act.put, List.setIfInBounds_toArray, List.set_cons_succ, List.set_cons_zero]
            refine wpAny_take (i := 10) (v := ?_) rfl (by kernel_rfl) (by kernel_rfl) (by kernel_rfl) (fun _ _ _ h => h) (Or.inl ⟨by rfl, ?_⟩) ?_
            rotate_left 1
            · intro w; (go_simp <;> with_reducible rfl)
            simp only [List.getElem_toArray, List.getElem_cons_succ, List.getElem_cons_zero, Act.put, List.setIfInBounds_toArray, List.set_cons_succ, List.set_cons_zero]
            refine wpAny_done (by kernel_rfl) ?_ _
            go_wp2_with fail
            go_meet
            exact ⟨by simp [hse2], hide (unhide KK2)⟩
        · have hcp := unhide HWZ _ (unhide KK1)
          go_simp
          refine hK _ _ ?_; clear hK K hcp
          refine wpAny_ready (rs := [5]) (by kernel_rfl) (by simp) ?_
          refine AllReady.cons rfl (fun K hK => ?_) AllReady.nil
          go_simp
          go_wp2_with (first | (go_at_call 12; refine (unhide HFM _ l (fun o ho => (unhide HNZ o ho).wide.kept (unhide KK1))).mono ?_; rintro e y2 ⟨a5, cap5, rfl, ho, k2⟩; have KK2 := hide ((unhide KK1).step k2); have hcf := conv_wide (Or.inl (Sees.of_own ho)); clear k2 ho))
          (try (refine hK _ _ ?_; clear hK K))
          refine wpAny_ready (rs := [6]) (by kernel_rfl) (by simp) ?_
          refine AllReady.cons rfl (fun K hK => ?_) AllReady.nil
          go_simp
          refine hK _ _ ?_; clear hK K
          refine wpAny_take (i := 9) (v := ?_) rfl (by kernel_rfl) (by kernel_rfl) (by kernel_rfl) (fun _ _ _ h => h) (Or.inl ⟨by rfl, ?_⟩) ?_
          rotate_left 1
          · intro w; (go_simp <;> with_reducible rfl)
          simp only [List.getElem_toArray, List.getElem_cons_succ, List.getElem_cons_zero, Act.put, List.setIfInBounds_toArray, List.set_cons_succ, List.set_cons_zero]
          refine wpAny_take (i := 10) (v := ?_) rfl (by kernel_rfl) (by kernel_rfl) (by kernel_rfl) (fun _ _ _ h => h) (Or.inl ⟨by rfl, ?_⟩) ?_
          rotate_left 1
          · intro w; (go_simp <;> with_reducible rfl)
          simp only [List.getElem_toArray, List.getElem_cons_succ, List.getElem_cons_zero, Act.put, List.setIfInBounds_toArray, List.set_cons_succ, List.set_cons_zero]
          refine wpAny_done (by kernel_rfl) ?_ _
          go_wp2_with fail
          go_meet
          exact ⟨by simp [hse2], hide (unhide KK2)⟩
      · have hcp := unhide HWZ _ (unhide KK1)
        go_simp
        refine hK _ _ ?_; clear hK K hcp
        refine wpAny_ready (rs := [4]) (by kernel_rfl) (by simp) ?_
        refine AllReady.cons rfl (fun K hK => ?_) AllReady.nil
        refine step_load_row rfl 30 _ rfl _ rfl 30 _ (0, 0) _ (unhide HBP _ (unhide KK1)) Tryz.underlying30 rfl infoMail ?_
        refine hK _ _ ?_; clear hK K
        simp only [List.getElem_toArray, List.getElem_cons_succ, List.getElem_cons_zero, Act.put, List.setIfInBounds_toArray, List.set_cons_succ, List.set_cons_zero]
        refine wpAny_ready (rs := [5]) (by kernel_rfl) (by simp) ?_
        refine AllReady.cons rfl (fun K hK => ?_) AllReady.nil
        go_simp
        go_wp2_with (first | (go_at_call 12; refine (unhide HFM _ l (fun o ho => (unhide HNZ o ho).wide.kept (unhide KK1))).mono ?_; rintro e y2 ⟨a5, cap5, rfl, ho, k2⟩; have KK2 := hide ((unhide KK1).step k2); have hcf := conv_wide (Or.inl (Sees.of_own ho)); clear k2 ho))
        (try (refine hK _ _ ?_; clear hK K))
        refine wpAny_ready (rs := [6]) (by kernel_rfl) (by simp) ?_
        refine AllReady.cons rfl (fun K hK => ?_) AllReady.nil
        go_simp
        refine hK _ _ ?_; clear hK K
        refine wpAny_take (i := 9) (v := ?_) rfl (by kernel_rfl) (by kernel_rfl) (by kernel_rfl) (fun _ _ _ h => h) (Or.inl ⟨by rfl, ?_⟩) ?_
        rotate_left 1
        · intro w; (go_simp <;> with_reducible rfl)
        simp only [List.getElem_toArray, List.getElem_cons_succ, List.getElem_cons_zero, Act.put, List.setIfInBounds_toArray, List.set_cons_succ, List.set_cons_zero]
        refine wpAny_take (i := 10) (v := ?_) rfl (by kernel_rfl) (by kernel_rfl) (by kernel_rfl) (fun _ _ _ h => h) (Or.inl ⟨by rfl, ?_⟩) ?_
        rotate_left 1
        · intro w; (go_simp <;> with_reducible rfl)
        simp only [List.getElem_toArray, List.getElem_cons_succ, List.getElem_cons_zero, Act.put, List.setIfInBounds_toArray, List.set_cons_succ, List.set_cons_zero]
        refine wpAny_done (by kernel_rfl) ?_ _
        go_wp2_with fail
        go_meet
        exact ⟨by simp [hse2], hide (unhide KK2)⟩
    case rest =>
      obtain ⟨rfl, HKC⟩ := hcut
      have HK5 := hide ((unhide HKZ).step (unhide HKC))
      have HR5 := hide ((unhide HRZ).kept (unhide HKC) (by simp))
      go_wp2_with (refine wpList_store_self rfl 30 _ _ rfl _ (mcc zeroM nilM) rfl rfl 30 (unhide HR5) infoMail (by simp [mcc, Value.oneCell']) ?_)
      refine ret_struct_tmp rfl rfl (unhide HR5) Tryz.underlying30 infoMail rfl ?_
      exact RDcP.fail (c := 190) (unhide HK5) (unhide HE) (by omega)

set_option maxRecDepth 100000 in
set_option maxHeartbeats 3200000 in
theorem rdec_eq (w : World) (bs : List Nat) (b off m xc c v : Nat) (hx : Wide w (.slice (some ⟨b, off, none⟩) (m + 4 : Nat) xc) bs) (hd : Dc w b off m xc bs c v) (hc1 : m + 4 ≤ xc) (hn : v = c) {p : Ml} (hp : looM (bs.take m) = p) (hs : snd p = true) (he : enc p = bs) : Calls Tryz.prog 4 #[.slice (some ⟨b, off, none⟩) (m + 4) xc] w (RDcP w bs) := by
  have HD := hide hd
  have HW := hide hx
  have HTL : Hid (∀ y ∈ bs.take m, y < 256) := fun y hy => hd.byt y (List.mem_of_mem_take hy)
  have HLN : Hid ((bs.take m).length + 4 ≤ 140737488355328) := by have := hd.m5; unfold Hid; simp; omega
  have HSB := hide (hd.sums.1 hn)
  have hse : ((strB (summed (bs.take m))).toList == (strB bs).toList) = true := by rw [hd.sums.1 hn]; simp
  have hlm : bs.length - 4 = m := by have := hd.len; omega
  have HSD : Hid (∀ (W : World) (l : Lm), Calls Tryz.prog 11 #[.agg (mcc p l)] W fun e w' => e = .returned (.bool true) ∧ Kept [] W w') := fun W l => by have := rsound_any W p l (by rw [← hp]; exact looM_cl _); rw [hs] at this; exact this
  have HE : Hid (decE bs = 0 ∧ decM bs = p) := by have h := dec_loo_yes (bs := bs) (by rw [hlm]; exact (looM_byt (unhide HTL)).1) (by rw [hlm, hp]; exact hs) (by rw [hlm, hp]; exact he); rw [hlm, hp] at h; exact h
  have HFM : Hid (∀ (W : World) (l : Lm), (∀ o, isT o → Wide W (slT l p o) (getT p o)) → Calls Tryz.prog 12 #[.agg (mcc p l)] W (FoP W p)) := fun W l h => rform_any W p l (by have hs' := hs; subst hp; exact loo_mw (unhide HTL) hs' h) hs
  have hse2 : ((strB (enc p)).toList == (strB bs).toList) = true := by rw [he]; simp
  have HMP : Hid (∀ (W : World) (l : Lm), (∀ o, isT o → Wide W (slT l p o) (getT p o)) → MW W p l) := fun W l h => by have hs' := hs; subst hp; exact loo_mw (unhide HTL) hs' h
  have HP := hide hp
  have hm := hd.m5
  have hg1 : ((524288 : Int) < ((m + 4 : Nat) : Int)) = False := eq_false (by omega)
  have hg2 : (((m + 4 : Nat) : Int) < 8) = False := eq_false (by omega)
  have hg3 : ((524288 : Int) < (m : Int) + 4) = False := eq_false (by omega)
  have hg4 : ((m : Int) + 4 < 8) = False := eq_false (by omega)
  have e2 : wrap64 ((m : Int) + 4 - 4) = (m : Int) := by unfold wrap64; omega
  have e3 : wrap64 (m : Int) = (m : Int) := by unfold wrap64; omega
  have e4 : IntKind.i64.wrap (m : Int) = (m : Int) := by rw [IntKind.wrap_i64]; omega
  have hm1 : m ≤ xc := by omega
  clear hd hn hx hp he
  go_enter Tryz.func4, Tryz.ntmps4
  go_upto_region 1 with fail
  refine world_at (R := fun X => Blk X w.heap.size (mcc zeroM nilM) 30 ∧ Kept [] w X) ⟨Blk.new _ _ _, (Kept.refl [] w).alloc _⟩ ?_
  rintro X ⟨hR, hK⟩
  have HR := hide hR
  have HK := hide hK
  clear hR hK
  go_upto_region 6 with fail
  have HWX := hide (fun (W : World) (k : Kept [] X W) => conv_wide ((unhide HW).kept ((unhide HK).step k)))
  go_cut [22] (fun t wc => t = .bool false ∧ Hid (Kept [] X wc))
  case first =>
    have hc0 := unhide HWX X (Kept.refl _ _)
    have hc3 := unhide HWX X.drew (Kept.refl _ _).drew
    go_region_with (first
      | (go_at_call 9; refine (rsummed_any ((unhide HD).parts _ (by first | exact unhide HK | exact (unhide HK).drew | exact (unhide HK).drewN _)).1 (unhide HTL) (unhide HLN)).mono ?_; rintro e w20 ⟨k20, a20, cap20, rfl, ho⟩; have K20 : Hid (Kept [] X w20) := (by first | exact k20 | exact ((Kept.refl [] X).drew).step k20); clear k20; have hc1 := conv_wide (Or.inl (Sees.of_own ho)); have hc2 := unhide HWX _ (unhide K20); clear ho))
    all_goals
      go_wp2_with fail
      go_meet
      exact ⟨by simp [hse], hide (unhide K20)⟩
  case rest =>
    obtain ⟨rfl, HKC⟩ := hcut
    have HK2 := hide ((unhide HK).step (unhide HKC))
    have HR2 := hide ((unhide HR).kept (unhide HKC) (by simp))
    clear HWX HKC HK HR hse
    go_upto_region 9 with (first
      | (go_at_call 10; refine (rread_any ((unhide HD).parts _ (unhide HK2)).1 (unhide HTL) (by have := unhide HLN; omega)).mono ?_; rintro e w3 ⟨k3, l, rfl, hnv⟩; rw [unhide HP] at hnv ⊢; have HK3 := hide ((unhide HK2).step k3); have HR3 := hide ((unhide HR2).kept k3 (by simp)); have HNV := hide hnv; have HLT := hide (unhide HR2).lt; clear k3 hnv HK2 HR2)
      | (refine wpList_store_row rfl 30 _ _ rfl _ (mcc p l) rfl rfl 30 _ (Blk.new w3 _ _) infoMail rfl (by simp [mcc, Value.oneCell']) ?_; refine world_at (R := fun Z => Blk Z w3.heap.size (mcc p l) 30 ∧ Kept [] w3 Z) ⟨setRow_heap _ _ _ _ _ _ (Blk.new w3 _ _), ((Kept.refl [] w3).alloc _).setRow (Or.inr (Nat.le_refl _)) _⟩ ?_; rintro Z ⟨hzb, hzk⟩))
    generalize w3.heap.size = B at *
    have HB := hide hzb
    have HKZ := hide ((unhide HK3).step hzk)
    have HRZ := hide ((unhide HR3).kept hzk (by simp))
    have HNZ := hide (fun o ho => (unhide HNV o ho).kept hzk (by simp))
    clear hzb hzk HK3 HR3 HNV
    have HWZ := hide (fun (W : World) (k : Kept [] Z W) => conv_wide ((unhide HW).kept ((unhide HKZ).step k)))
    dsimp only [Act.put]
    go_cut [39] (fun t wc => t = .bool false ∧ Hid (Kept [] Z wc))
    case first =>
      have HBP := hide (fun W (k : Kept [] Z W) => (unhide HB).kept k (by simp))
      refine wp_region_any (by kernel_rfl) ?_
      (try (change wpAny _ _ _ _ _ _ _ (World.drew _)))
      refine world_at (R := fun Y => Kept [] Z Y) ((Kept.refl [] Z).drew) ?_
      rintro Y hY
      have KK0 := hide hY
      clear hY
      refine wpAny_ready (rs := [0]) (by kernel_rfl) (by simp) ?_
      refine AllReady.cons rfl (fun K hK => ?_) AllReady.nil
      refine step_load_row rfl 30 _ rfl _ rfl 30 _ (0, 0) _ (unhide HBP _ (unhide KK0)) Tryz.underlying30 rfl infoMail ?_
      refine hK _ _ ?_; clear hK K
      simp only [List.getElem_toArray, List.getElem_cons_zero, Act.put, List.setIfInBounds_toArray, List.set_cons_succ, List.set_cons_zero]
      refine wpAny_ready (rs := [1]) (by kernel_rfl) (by simp) ?_
      refine AllReady.cons rfl (fun K hK => ?_) AllReady.nil
      go_simp
      go_wp2_with (first | (go_at_call 11; refine (unhide HSD _ l).mono ?_; rintro e w4 ⟨rfl, k4⟩; have KK1 := hide ((unhide KK0).step k4); clear k4))
      (try (refine hK _ _ ?_; clear hK K))
      refine wpAny_take (i := 2) (v := ?_) rfl (by kernel_rfl) (by kernel_rfl) (by kernel_rfl) (fun _ _ _ h => h) (Or.inl ⟨by rfl, ?_⟩) ?_
      rotate_left 1
      · intro w; (go_simp <;> with_reducible rfl)
      simp only [List.getElem_toArray, List.getElem_cons_succ, List.getElem_cons_zero, Act.put, List.setIfInBounds_toArray, List.set_cons_succ, List.set_cons_zero]
      refine wpAny_take (i := 3) (v := ?_) rfl (by kernel_rfl) (by kernel_rfl) (by kernel_rfl) (fun _ _ _ h => h) (Or.inl ⟨by rfl, ?_⟩) ?_
      rotate_left 1
      · intro w; (go_simp <;> with_reducible rfl)
      simp only [List.getElem_toArray, List.getElem_cons_succ, List.getElem_cons_zero, Act.put, List.setIfInBounds_toArray, List.set_cons_succ, List.set_cons_zero]
      refine wpAny_take (i := 7) (v := ?_) rfl (by kernel_rfl) (by kernel_rfl) (by kernel_rfl) (fun _ _ _ h => h) (Or.inl ⟨by rfl, ?_⟩) ?_
      rotate_left 1
      · intro w; (go_simp <;> with_reducible rfl)
      simp only [List.getElem_toArray, List.getElem_cons_succ, List.getElem_cons_zero, Act.put, List.setIfInBounds_toArray, List.set_cons_succ, List.set_cons_zero]
      refine wpAny_ready (rs := [4, 8]) (by kernel_rfl) (by simp) ?_
      refine AllReady.cons rfl (fun K hK => ?_) (AllReady.cons rfl (fun K hK => ?_) AllReady.nil)
      · refine step_load_row rfl 30 _ rfl _ rfl 30 _ (0, 0) _ (unhide HBP _ (unhide KK1)) Tryz.underlying30 rfl infoMail ?_
        refine hK _ _ ?_; clear hK K
        simp only [List.getElem_toArray, List.getElem_cons_succ, List.getElem_cons_zero, Act.put, List.setIfInBounds_toArray, List.set_cons_succ, List.set_cons_zero]
        refine wpAny_ready (rs := [5, 8]) (by kernel_rfl) (by simp) ?_
        refine AllReady.cons rfl (fun K hK => ?_) (AllReady.cons rfl (fun K hK => ?_) AllReady.nil)
        · go_simp
          go_wp2_with (first | (go_at_call 12; refine (unhide HFM _ l (fun o ho => (unhide HNZ o ho).wide.kept (unhide KK1))).mono ?_; rintro e y2 ⟨a5, cap5, rfl, ho, k2⟩; have KK2 := hide ((unhide KK1).step k2); have hcf := conv_wide (Or.inl (Sees.of_own ho)); clear k2 ho))
          (try (refine hK _ _ ?_; clear hK K))
          refine wpAny_ready (rs := [6, 8]) (by kernel_rfl) (by simp) ?_
          refine AllReady.cons rfl (fun K hK => ?_) (AllReady.cons rfl (fun K hK => ?_) AllReady.nil)
          · go_simp
            refine hK _ _ ?_; clear hK K
            refine wpAny_ready (rs := [8]) (by kernel_rfl) (by simp) ?_
            refine AllReady.cons rfl (fun K hK => ?_) AllReady.nil
            have hcp := unhide HWZ _ (unhide KK2)
            go_simp
            refine hK _ _ ?_; clear hK K hcp
            refine wpAny_take (i := 9) (v := ?_) rfl (by kernel_rfl) (by kernel_rfl) (by kernel_rfl) (fun _ _ _ h => h) (Or.inl ⟨by rfl, ?_⟩) ?_
            rotate_left 1
            · intro w; (go_simp <;> with_reducible rfl)
            simp only [List.getElem_toArray, List.getElem_cons_succ, List.getElem_cons_zero, Act.put, List.setIfInBounds_toArray, List.set_cons_succ, List.set_cons_zero]
            refine wpAny_take (i := 10) (v := ?_) rfl (by kernel_rfl) (by kernel_rfl) (by kernel_rfl) (fun _ _ _ h => h) (Or.inl ⟨by rfl, ?_⟩) ?_
            rotate_left 1
            · intro w; (go_simp <;> with_reducible rfl)
            simp only [List.getElem_toArray, List.getElem_cons_succ, List.getElem_cons_zero, Act.put, List.setIfInBounds_toArray, List.set_cons_succ, List.set_cons_zero]
            refine wpAny_done (by kernel_rfl) ?_ _
            go_wp2_with fail
            go_meet
            exact ⟨by simp [hse2], hide (unhide KK2)⟩
          · have hcp := unhide HWZ _ (unhide KK2)
            go_simp
            refine hK _ _ ?_; clear hK K hcp
            refine wpAny_ready (rs := [6]) (by kernel_rfl) (by simp) ?_
            refine AllReady.cons rfl (fun K hK => ?_) AllReady.nil
            go_simp
            refine hK _ _ ?_; clear hK K
            refine wpAny_take (i := 9) (v := ?_) rfl (by kernel_rfl) (by kernel_rfl) (by kernel_rfl) (fun _ _ _ h => h) (Or.inl ⟨by rfl, ?_⟩) ?_
            rotate_left 1
            · intro w; (go_simp <;> with_reducible rfl)
            simp only [List.getElem_toArray, List.getElem_cons_succ, List.getElem_cons_zero, Act.put, List.setIfInBounds_toArray, List.set_cons_succ, List.set_cons_zero]
            refine wpAny_take (i := 10) (v := ?_) rfl (by kernel_rfl) (by kernel_rfl) (by kernel_rfl) (fun _ _ _ h => h) (Or.inl ⟨by rfl, ?_⟩) ?_
            rotate_left 1
            · intro w; (go_simp <;> with_reducible rfl)
            simp only [List.getElem_toArray, List.getElem_cons_succ, List.getElem_cons_zero, Act.put, List.setIfInBounds_toArray, List.set_cons_succ, List.set_cons_zero]
            refine wpAny_done (by kernel_rfl) ?_ _
            go_wp2_with fail
            go_meet
            exact ⟨by simp [hse2], hide (unhide KK2)⟩
        · have hcp := unhide HWZ _ (unhide KK1)
          go_simp
          refine hK _ _ ?_; clear hK K hcp
          refine wpAny_ready (rs := [5]) (by kernel_rfl) (by simp) ?_
          refine AllReady.cons rfl (fun K hK => ?_) AllReady.nil
          go_simp
          go_wp2_with (first | (go_at_call 12; refine (unhide HFM _ l (fun o ho => (unhide HNZ o ho).wide.kept (unhide KK1))).mono ?_; rintro e y2 ⟨a5, cap5, rfl, ho, k2⟩; have KK2 := hide ((unhide KK1).step k2); have hcf := conv_wide (Or.inl (Sees.of_own ho)); clear k2 ho))
          (try (refine hK _ _ ?_; clear hK K))
          refine wpAny_ready (rs := [6]) (by kernel_rfl) (by simp) ?_
          refine AllReady.cons rfl (fun K hK => ?_) AllReady.nil
          go_simp
          refine hK _ _ ?_; clear hK K
          refine wpAny_take (i := 9) (v := ?_) rfl (by kernel_rfl) (by kernel_rfl) (by kernel_rfl) (fun _ _ _ h => h) (Or.inl ⟨by rfl, ?_⟩) ?_
          rotate_left 1
          · intro w; (go_simp <;> with_reducible rfl)
          simp only [List.getElem_toArray, List.getElem_cons_succ, List.getElem_cons_zero, Act.put, List.setIfInBounds_toArray, List.set_cons_succ, List.set_cons_zero]
          refine wpAny_take (i := 10) (v := ?_) rfl (by kernel_rfl) (by kernel_rfl) (by kernel_rfl) (fun _ _ _ h => h) (Or.inl ⟨by rfl, ?_⟩) ?_
          rotate_left 1
          · intro w; (go_simp <;> with_reducible rfl)
          simp only [List.getElem_toArray, List.getElem_cons_succ, List.getElem_cons_zero, Act.put, List.setIfInBounds_toArray, List.set_cons_succ, List.set_cons_zero]
          refine wpAny_done (by kernel_rfl) ?_ _
          go_wp2_with fail
          go_meet
          exact ⟨by simp [hse2], hide (unhide KK2)⟩
      · have hcp := unhide HWZ _ (unhide KK1)
        go_simp
        refine hK _ _ ?_; clear hK K hcp
        refine wpAny_ready (rs := [4]) (by kernel_rfl) (by simp) ?_
        refine AllReady.cons rfl (fun K hK => ?_) AllReady.nil
        refine step_load_row rfl 30 _ rfl _ rfl 30 _ (0, 0) _ (unhide HBP _ (unhide KK1)) Tryz.underlying30 rfl infoMail ?_
        refine hK _ _ ?_; clear hK K
        simp only [List.getElem_toArray, List.getElem_cons_succ, List.getElem_cons_zero, Act.put, List.setIfInBounds_toArray, List.set_cons_succ, List.set_cons_zero]
        refine wpAny_ready (rs := [5]) (by kernel_rfl) (by simp) ?_
        refine AllReady.cons rfl (fun K hK => ?_) AllReady.nil
        go_simp
        go_wp2_with (first | (go_at_call 12; refine (unhide HFM _ l (fun o ho => (unhide HNZ o ho).wide.kept (unhide KK1))).mono ?_; rintro e y2 ⟨a5, cap5, rfl, ho, k2⟩; have KK2 := hide ((unhide KK1).step k2); have hcf := conv_wide (Or.inl (Sees.of_own ho)); clear k2 ho))
        (try (refine hK _ _ ?_; clear hK K))
        refine wpAny_ready (rs := [6]) (by kernel_rfl) (by simp) ?_
        refine AllReady.cons rfl (fun K hK => ?_) AllReady.nil
        go_simp
        refine hK _ _ ?_; clear hK K
        refine wpAny_take (i := 9) (v := ?_) rfl (by kernel_rfl) (by kernel_rfl) (by kernel_rfl) (fun _ _ _ h => h) (Or.inl ⟨by rfl, ?_⟩) ?_
        rotate_left 1
        · intro w; (go_simp <;> with_reducible rfl)
        simp only [List.getElem_toArray, List.getElem_cons_succ, List.getElem_cons_zero, Act.put, List.setIfInBounds_toArray, List.set_cons_succ, List.set_cons_zero]
        refine wpAny_take (i := 10) (v := ?_) rfl (by kernel_rfl) (by kernel_rfl) (by kernel_rfl) (fun _ _ _ h => h) (Or.inl ⟨by rfl, ?_⟩) ?_
        rotate_left 1
        · intro w; (go_simp <;> with_reducible rfl)
        simp only [List.getElem_toArray, List.getElem_cons_succ, List.getElem_cons_zero, Act.put, List.setIfInBounds_toArray, List.set_cons_succ, List.set_cons_zero]
        refine wpAny_done (by kernel_rfl) ?_ _
        go_wp2_with fail
        go_meet
        exact ⟨by simp [hse2], hide (unhide KK2)⟩
    case rest =>
      obtain ⟨rfl, HKC⟩ := hcut
      have HK5 := hide ((unhide HKZ).step (unhide HKC))
      have HR5 := hide ((unhide HRZ).kept (unhide HKC) (by simp))
      have HB5 := hide ((unhide HB).kept (unhide HKC) (by simp))
      go_wp2_with (first
        | (refine wpList_load_guard 30 _ rfl _ rfl 30 _ (0, 0) _ (unhide HB5) Tryz.underlying30 rfl infoMail rfl ?_)
        | (refine wpList_store_row rfl 30 _ _ rfl w.heap.size (mcc p l) rfl rfl 30 _ (unhide HR5) infoMail rfl (by simp [mcc, Value.oneCell']) ?_))
      refine ret_struct_tmp rfl rfl (setRow_heap _ _ _ _ _ _ (unhide HR5)) Tryz.underlying30 infoMail rfl ?_
      have kR : Kept [] w (wc.setRow w.heap.size (mcc p l)) := (unhide HK5).setRow (Or.inr (Nat.le_refl _)) _
      refine ⟨l, by rw [(unhide HE).1, (unhide HE).2]; rfl, ?_, kR⟩
      rw [(unhide HE).2]
      exact unhide HMP _ l (fun o ho => (((unhide HNZ o ho).kept (unhide HKC) (by simp)).kept (G := [w.heap.size]) ((Kept.refl _ wc).setRow (Or.inl (by simp)) _) (fun x hx hm => by have h1 := ((unhide HNZ o ho).lt hx).1; have h2 := unhide HLT; simp at hm; omega)).wide)

theorem rdecode_any (w : World) (x : Value) (bs : List Nat) (ht : Tab w) (hx : Wide w x bs) (hb : ∀ y ∈ bs, y < 256) : Calls Tryz.prog 4 #[x] w (RDcP w bs) := by
  rcases Nat.lt_or_ge 524288 bs.length with h1 | h1
  · exact rdec_far w x bs hx h1
  · rcases Nat.lt_or_ge bs.length 8 with h2 | h2
    · exact rdec_few w x bs hx h2
    · obtain ⟨xa, xc, rfl⟩ := wide_len hx
      obtain ⟨b, off, m, c, v, rfl, hm, g1, _, hd⟩ := Dc.of ht hx h2 h1 hb
      rw [hm] at hx ⊢
      by_cases hn : v = c
      · cases hs : snd (looM (bs.take m)) with
        | false => exact rdec_no w bs b off m xc c v hx hd g1 hn rfl hs
        | true =>
          by_cases he : enc (looM (bs.take m)) = bs
          · exact rdec_eq w bs b off m xc c v hx hd g1 hn rfl hs he
          · exact rdec_ne w bs b off m xc c v hx hd g1 hn rfl hs he
      · exact rdec_sum w bs b off m xc c v hx hd g1 hn
end Go.Proofs.YtfhfkpgfnlmfhaaGreatDoor
