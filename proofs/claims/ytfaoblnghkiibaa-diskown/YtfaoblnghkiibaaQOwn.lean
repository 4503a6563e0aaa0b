/- DiskOwn: the walk. -/
import Derived.Test.YtfaoblnghkiibaaQOwn0
namespace Go.Proofs.Ytfaoblnghkiibaa
open Go.RowKit

set_option maxRecDepth 100000 in
set_option maxHeartbeats 20000000 in
theorem own_yes {w : World} {iv dv : Value} {bs ds : List Nat} (hi : Sees w iv bs) (hd : Sees w dv ds) {n : Nat} (hbl : bs.length = 64 * n) (hn1 : 1 ≤ n) (hn2 : n ≤ 65536) (hdl : ds.length ≤ 140737488351232) (sec : Int) :
    Calls Try.prog 7 #[iv, .int .i64 sec, dv] w fun e w' => e = .returned (.bool true) ∧ Kept [] w w' := by
  have HNUM := hide num_any
  have HKN := hide (known_any w)
  have HIB : Hid (∀ x ∈ bs, x < 256) := by obtain ⟨_, _, _, _, _, h, _⟩ := hi; exact h
  have HDB : Hid (∀ x ∈ ds, x < 256) := by obtain ⟨_, _, _, _, _, h, _⟩ := hd; exact h
  have HLT := hide (fun W (hk : Kept [] w W) => lent_any (hi.kept hk (Or.inr (by simp))) (by omega))
  have HLD := hide (fun W (hk : Kept [] w W) => lent_any (hd.kept hk (Or.inr (by simp))) hdl)
  have HSI := hide (fun W (hk : Kept [] w W) => hi.kept hk (Or.inr (by simp)))
  have HSD := hide (fun W (hk : Kept [] w W) => hd.kept hk (Or.inr (by simp)))
  obtain ⟨K, hK, hKn⟩ : ∃ K : Nat, (sec % (n : Int)) = (K : Int) ∧ K < n := by
    have h1 := Int.emod_nonneg sec (b := (n : Int)) (by omega)
    have h2 := Int.emod_lt_of_pos sec (b := (n : Int)) (by omega)
    exact ⟨(sec % (n : Int)).toNat, by omega, by omega⟩
  obtain ⟨ia, ic, rfl, hic1, hic2, -, hia⟩ := hi
  obtain ⟨ip, io, hia'⟩ : ∃ ip io, ia = some ⟨ip, io, none⟩ := by
    rcases hia with h | ⟨p, o, e, _⟩
    · subst h; simp at hbl; omega
    · exact ⟨p, o, e⟩
  subst hia'
  obtain ⟨da, dc, rfl, hdc1, hdc2, -, -⟩ := hd
  obtain ⟨L, hL⟩ : ∃ L, 64 * n = L := ⟨_, rfl⟩
  obtain ⟨D, hD⟩ : ∃ D, ds.length = D := ⟨_, rfl⟩
  have hbL : bs.length = L := by omega
  rw [hbL] at hic1 HLT HSI ⊢
  rw [hD] at hdc1 HLD HSD hdl ⊢
  unfold maxLen at hic2 hdc2
  have hLm : L ≤ 4194304 := by omega
  have HBL := hide hbL
  have HBN := hide hbl
  have HDD := hide hD
  have HNL := hide hL
  have HIM : Hid (∀ W F b, Dk W b F (fresh n bs) → Calls Try.prog 27 #[.pointer (some ⟨b, 0, none⟩)] W fun e w' => ∃ r cap, e = .returned (.slice (some ⟨r, 0, none⟩) L cap) ∧ w'.ownsRow W.heap.size 5 1 (.slice (some ⟨r, 0, none⟩) L cap) L (u8s bs) ∧ Kept [] W w') := by
    intro W F b h
    rw [← hL]
    exact image_any h
  have HSC : Hid (∀ W F b, Dk W b F (fresh n bs) → Calls Try.prog 26 #[.pointer (some ⟨b, 0, none⟩)] W fun e w' => e = .returned (.int .i64 (n : Int)) ∧ w' = W) := fun W F b h => sectors_any h
  have HSA := hide (fun W v1 v2 l (h1 : Sees W v1 l) (h2 : Sees W v2 l) => same_any h1 h2)
  have HKN2 := hide hK
  clear hK hL hbL
  clear hbl hD hia
  go_enter Try.func7, Try.ntmps7
  go_wp2_with (first
    | (go_at_call 17; refine (unhide HKN).mono ?_; rintro e w1 ⟨rfl, hk1⟩; have HK1 := hide hk1; clear hk1 HKN)
    | (go_at_call 8; refine (unhide HLT _ (unhide HK1)).mono ?_; rintro e w2 ⟨g2, c2, rfl, hl2, hk2⟩; have HL2 := hide hl2; have HK2 := hide ((unhide HK1).trans hk2 (fun _ hx => by cases hx)); have HG2 : Hid (w.heap.size ≤ g2) := Nat.le_trans (unhide HK1).size hl2.caps.2.2.1; clear hk2 HLT hl2
       have HLO := hide (load_yes ((unhide HL2).sees) (unhide HBN) hn1 hn2))
    | (go_at_call 10; refine (unhide HLO).mono ?_; rintro e w3 ⟨b, F, rfl, hdk, hnx⟩; clear HLO
       have HF3 := hide (show Fld w w3 b F (fresh n bs) [⟨g2, c2, L + 3, bs ++ three⟩] from ⟨⟨hdk, Nx.after (unhide HK2) hnx⟩, fun e he => (by simp at he; subst he; exact ⟨(row_lent (unhide HL2)).kept hnx.kept (by simp), unhide HG2, hnx.away (by simp) (unhide HL2).caps.2.2.2⟩), by simp⟩); clear hdk hnx HL2 HG2 HK2)
    | (go_at_call 13; refine (unhide HNUM _ _).mono ?_; rintro e wq ⟨rfl, hq⟩; have hq' := hq.symm; subst hq'; clear hq)
    | (go_at_call 15; refine (over_any (unhide HBL) (unhide HIB) (by omega) (((unhide HF3).get (List.mem_singleton.2 rfl)).1.preAt (unhide HBL)) (((unhide HF3).get (List.mem_singleton.2 rfl)).1.frozen)).mono ?_; rintro e w4 ⟨rfl, hk4⟩; have HF4 := hide ((unhide HF3).over hk4); clear hk4 HF3)
    | (go_at_call 27; refine (unhide HIM _ _ _ (unhide HF4).st.dk).mono ?_; rintro e w5 ⟨r5, c5, rfl, ho5, hk5⟩; have HF5 := hide ((unhide HF4).push hk5 (row_image ho5) (own_lt ho5 rfl).1); clear ho5 hk5 HF4)
    | (go_at_call 28; refine (unhide HSA _ _ _ bs (((unhide HF5).get (List.mem_singleton.2 rfl)).1.sees (unhide HIB)) (unhide HSI _ (unhide HF5).st.nx.kept)).mono ?_; rintro e w6 ⟨rfl, hm6⟩; have HF6 : Hid (Fld w w6 b F (fresh n bs) []) := (by obtain ⟨m, rfl⟩ := hm6; have h := (unhide HF5).quiet ((Kept.refl [] w5).drewN m); exact ⟨h.st, by simp, by simp⟩); clear hm6 HF5))
  refine (unhide HSC _ _ _ (unhide HF6).st.dk).mono ?_
  rintro e w7 ⟨rfl, hq⟩
  have hq' := hq.symm
  subst hq'
  clear hq
  have t0 : ((n : Int) = 0) = False := by simp; omega
  have hb1 : Int.tmod sec (n : Int) < (n : Int) ∧ -(n : Int) < Int.tmod sec (n : Int) := ⟨Int.tmod_lt_of_pos sec (by omega), Int.lt_tmod_of_pos sec (by omega)⟩
  have hw1 : IntKind.i64.wrap (Int.tmod sec (n : Int)) = Int.tmod sec (n : Int) := by rw [IntKind.wrap_i64]; omega
  have hw2 : IntKind.i64.wrap (Int.tmod sec (n : Int) + (n : Int)) = Int.tmod sec (n : Int) + (n : Int) ∨ True := Or.inr trivial
  clear hw2
  obtain ⟨r, hr⟩ : ∃ r, Int.tmod sec (n : Int) = r := ⟨_, rfl⟩
  have HRK : Hid ((r < 0 → r + (n : Int) = (K : Int)) ∧ (¬ r < 0 → r = (K : Int))) := by
    refine ⟨fun h => ?_, fun h => ?_⟩
    · rw [← unhide HKN2, ← hr]; exact tmod_neg hn1 (by rw [hr]; exact h)
    · rw [← unhide HKN2, ← hr]
      rw [Int.tmod_eq_emod]
      split
      · omega
      · rename_i hc
        exfalso
        have h3 := Int.emod_lt_of_pos sec (b := (n : Int)) (by omega)
        rw [Int.tmod_eq_emod, if_neg hc] at hr
        simp at hr
        omega
  rw [hr] at hb1 hw1
  go_upto_if 58 with fail
  go_cut [10] (fun t wc => t = .int .i64 (K : Int) ∧ Hid (wc = w6))
  case first =>
    as_aux_lemma =>
    by_cases hneg : r < 0
    · have t1 : (r < 0) = True := by simp; exact hneg
      have e1 := (unhide HRK).1 hneg
      have hw2 : IntKind.i64.wrap (r + (n : Int)) = r + (n : Int) := by rw [IntKind.wrap_i64]; omega
      clear hneg
      go_wp2_with (first
        | (go_at_call 26; refine (unhide HSC _ _ _ (unhide HF6).st.dk).mono ?_; rintro e w7 ⟨rfl, hq⟩; have hq' := hq.symm; subst hq'; clear hq))
      go_meet
      exact ⟨by first | rfl | rw [e1], rfl⟩
    · have t1 : (r < 0) = False := by simp; omega
      have e1 := (unhide HRK).2 (by omega)
      clear hneg
      go_wp2_with fail
      go_meet
      exact ⟨by first | rfl | rw [e1], rfl⟩
  case rest =>
    obtain ⟨rfl, hwc⟩ := hcut
    have hwc' := (unhide hwc).symm
    subst hwc'
    clear hwc HRK hb1 hw1 t0 hr HSC HKN2
    have HSK := hide (newest_none (d := fresh n bs) rfl K)
    have HRD : Hid (∀ W F b, Dk W b F (fresh n bs) → Calls Try.prog 21 #[.pointer (some ⟨b, 0, none⟩), .int .i64 (K : Int)] W fun e w' => ∃ g, e = .returned (.tuple #[.slice (some ⟨g, 0, none⟩) 64 64, .int .i64 0]) ∧ Blk w' g (u8s (sect bs K)).toArray 70 ∧ W.heap.size ≤ g ∧ Kept [] W w') := by
      intro W F b h
      have := read_yes h (fresh_rE hKn) (by simp [fresh])
      rw [unhide HSK] at this
      exact this
    have HSL := hide (sect_len (unhide HBN) hKn)
    have HSB : Hid (∀ x ∈ sect bs K, x < 256) := sect_bytes (unhide HIB)
    go_upto_region 24 with (first
      | (go_at_call 27; refine (unhide HIM _ _ _ (unhide HF6).st.dk).mono ?_; rintro e w8 ⟨ga, ca, rfl, ho8, hk8⟩; have HF8 := hide ((unhide HF6).push hk8 (row_image ho8) (own_lt ho8 rfl).1); clear ho8 hk8 HF6)
      | (go_at_call 21; refine (unhide HRD _ _ _ (unhide HF8).st.dk).mono ?_; rintro e w9 ⟨gb, rfl, hb9, hg9, hk9⟩; have HF9 := hide ((unhide HF8).push hk9 (row_block hb9 (unhide HSL)) hg9); clear hb9 hg9 hk9 HF8)
      | (go_at_call 21; refine (unhide HRD _ _ _ (unhide HF9).st.dk).mono ?_; rintro e w10 ⟨gc, rfl, hb10, hg10, hk10⟩; have HF10 := hide ((unhide HF9).push hk10 (row_block hb10 (unhide HSL)) hg10); clear hb10 hg10 hk10 HF9 HRD)
      | (go_at_call 8; refine (unhide HLD _ (unhide HF10).st.nx.kept).mono ?_; rintro e w11 ⟨gx, cx, rfl, hl11, hk11⟩; have HX11 := hide hl11.sees; have HF11 := hide ((unhide HF10).push hk11 (row_lent hl11) hl11.caps.2.2.1); clear hl11 hk11 HF10 HLD)
      | (go_at_call 19; refine (write_two (unhide HF11).st.dk hKn (unhide HX11) (by intro q hq; cases hq; exact ((unhide HF11).get (List.mem_cons_self)).2.2)).mono ?_; rintro e w12 ⟨z, F2, d1, rfl, hdk, hnx, hf1, hf2, hf3, hf4⟩
         have HF12 := hide ((unhide HF11).call hdk hnx); have HD1 : Hid (d1.fuse = none ∧ d1.n = n ∧ d1.pend.length ≤ 1 ∧ d1.sync.safe = wrS bs ds K) := ⟨hf1, hf2, hf3, hf4⟩; clear hdk hnx hf1 hf2 hf3 hf4 HF11 HX11)
      | (go_at_call 15; refine (over_any (unhide HDD) (unhide HDB) (by omega) (((unhide HF12).get (List.mem_cons_self)).1.preAt (unhide HDD)) (((unhide HF12).get (List.mem_cons_self)).1.frozen)).mono ?_; rintro e w13 ⟨rfl, hk13⟩; have HF13 := hide ((unhide HF12).over hk13); clear hk13 HF12
         have HSY := hide (sync_yes (unhide HF13).st.dk (by rw [(unhide HD1).1]; simp) (by have := (unhide HD1).2.2.1; omega)))
      | (go_at_call 22; refine (unhide HSY).mono ?_; rintro e w14 ⟨rfl, hdk, hnx⟩; have HF14 := hide ((unhide HF13).call hdk hnx); clear hdk hnx HF13 HSY
         obtain ⟨d2, hd2⟩ : ∃ d2, d1.sync = d2 := ⟨_, rfl⟩
         have HD2 : Hid (d2.fuse = none ∧ d2.n = n ∧ d2.pend = [] ∧ d2.safe = wrS bs ds K) := (by rw [← hd2]; exact ⟨by show burn d1.fuse = none; rw [(unhide HD1).1]; rfl, (unhide HD1).2.1, rfl, (unhide HD1).2.2.2⟩)
         rw [hd2] at HF14; clear hd2 HD1
         obtain ⟨S, hS⟩ : ∃ S, wrS bs ds K = S := ⟨_, rfl⟩
         have HIM2 : Hid (∀ W F b, Dk W b F d2 → Calls Try.prog 27 #[.pointer (some ⟨b, 0, none⟩)] W fun e w' => ∃ r cap, e = .returned (.slice (some ⟨r, 0, none⟩) L cap) ∧ w'.ownsRow W.heap.size 5 1 (.slice (some ⟨r, 0, none⟩) L cap) L (u8s S) ∧ Kept [] W w') := (by intro W F b h; have := image_any h; rw [(unhide HD2).2.1, (unhide HD2).2.2.2, unhide HNL, hS] at this; exact this)
         have HRD2 : Hid (∀ W F b, Dk W b F d2 → Calls Try.prog 21 #[.pointer (some ⟨b, 0, none⟩), .int .i64 (K : Int)] W fun e w' => ∃ g, e = .returned (.tuple #[.slice (some ⟨g, 0, none⟩) 64 64, .int .i64 0]) ∧ Blk w' g (u8s (sect S K)).toArray 70 ∧ W.heap.size ≤ g ∧ Kept [] W w') := (by intro W F b h; have := read_yes h (sync_rE (unhide HD2).1 (unhide HD2).2.1 hKn) (by rw [(unhide HD2).2.2.1]; simp); rw [newest_none (unhide HD2).2.2.1, (unhide HD2).2.2.2, hS] at this; exact this)
         have HSO : Hid (S.length = 64 * n ∧ ∀ x ∈ S, x < 256) := (by rw [← hS]; exact wrS_ok (unhide HIB) (unhide HDB) (unhide HBN) hKn)
         have HSS : Hid ((D = 64 → sect S K = ds) ∧ (D ≠ 64 → sect S K = sect bs K)) := (by rw [← hS, ← unhide HDD]; exact ⟨fun h => by unfold wrS; rw [if_pos h]; exact sect_lay (unhide HBN) hKn h, fun h => by unfold wrS; rw [if_neg h]⟩)
         clear hS HD2)
      | (go_at_call 27; refine (unhide HIM2 _ _ _ (unhide HF14).st.dk).mono ?_; rintro e w15 ⟨gh, ch, rfl, ho15, hk15⟩; have HF15 := hide ((unhide HF14).push hk15 (row_image ho15) (own_lt ho15 rfl).1); clear ho15 hk15 HF14)
      | (go_at_call 21; refine (unhide HRD2 _ _ _ (unhide HF15).st.dk).mono ?_; rintro e w16 ⟨gi, rfl, hb16, hg16, hk16⟩; have HF16 := hide ((unhide HF15).push hk16 (row_block hb16 (sect_len (unhide HSO).1 hKn)) hg16); clear hb16 hg16 hk16 HF15 HRD2)
      | (go_at_call 13; refine (unhide HNUM _ _).mono ?_; rintro e wq ⟨rfl, hq⟩; have hq' := hq.symm; subst hq'; clear hq)
      | (go_at_call 28; refine (unhide HSA _ _ _ bs (((unhide HF16).get (g := ga) (c := ca) (n := L) (l := bs) (by simp)).1.sees (unhide HIB)) (unhide HSI _ (unhide HF16).st.nx.kept)).mono ?_; rintro e w17 ⟨rfl, hm17⟩
         have hk17 : Kept [] _ w17 := (by obtain ⟨m, rfl⟩ := hm17; exact (Kept.refl [] _).drewN m)
         have HF17 := hide ((unhide HF16).quiet hk17); clear hm17 hk17 HF16
         have HP1 := hide (sees_part (unhide HSI _ (unhide HF17).st.nx.kept) (unhide HBN) hKn); have hk1 : 64 * K + 64 ≤ L := (by have := unhide HNL; omega))
      | (go_at_call 28; refine (unhide HSA _ _ _ (sect bs K) (((unhide HF17).get (g := gb) (c := 64) (n := 64) (l := sect bs K) (by simp)).1.sees (unhide HSB)) (unhide HP1)).mono ?_; rintro e w18 ⟨rfl, hm18⟩
         have hk18 : Kept [] _ w18 := (by obtain ⟨m, rfl⟩ := hm18; exact (Kept.refl [] _).drewN m)
         have HF18 := hide ((unhide HF17).quiet hk18); clear hm18 hk18 HF17 HP1)
      | (go_at_call 28; refine (unhide HSA _ _ _ (sect bs K) (((unhide HF18).get (g := gc) (c := 64) (n := 64) (l := sect bs K) (by simp)).1.sees (unhide HSB)) (((unhide HF18).get (g := gb) (c := 64) (n := 64) (l := sect bs K) (by simp)).1.sees (unhide HSB))).mono ?_; rintro e w19 ⟨rfl, hm19⟩
         have hk19 : Kept [] _ w19 := (by obtain ⟨m, rfl⟩ := hm19; exact (Kept.refl [] _).drewN m)
         have HF19 := hide ((unhide HF18).quiet hk19); clear hm19 hk19 HF18
         have hch := ((unhide HF19).get (g := gh) (c := ch) (n := L) (l := S) (by simp)).1.cap
         have HP2 : Hid (Sees w19 (.slice (some ⟨gh, 64 * K, none⟩) 64 (ch - 64 * K)) (sect S K)) := (by have h := ((unhide HF19).get (g := gh) (c := ch) (n := L) (l := S) (by simp)).1; rw [← unhide HNL] at h; exact h.part (unhide HSO).2 hKn))
      | (go_at_call 28; refine (unhide HSA _ _ _ (sect S K) (((unhide HF19).get (g := gi) (c := 64) (n := 64) (l := sect S K) (by simp)).1.sees (sect_bytes (unhide HSO).2)) (unhide HP2)).mono ?_; rintro e w20 ⟨rfl, hm20⟩
         have hk20 : Kept [] _ w20 := (by obtain ⟨m, rfl⟩ := hm20; exact (Kept.refl [] _).drewN m)
         have HF20 := hide ((unhide HF19).quiet hk20); clear hm20 hk20 HF19 HP2))
    go_cut [163] (fun t wc => t = .bool false ∧ Fld w wc b F2 d2 [⟨gi, 64, 64, sect S K⟩, ⟨gh, ch, L, S⟩, ⟨gc, 64, 64, sect bs K⟩, ⟨gb, 64, 64, sect bs K⟩, ⟨ga, ca, L, bs⟩])
    case first =>
      as_aux_lemma =>
      by_cases hD : D = 64
      · have HE := hide ((unhide HSS).1 hD)
        subst hD
        go_wp2_with (first
          | (go_at_call 28; refine (unhide HSA _ _ _ (sect S K) (((unhide HF20).get (g := gi) (c := 64) (n := 64) (l := sect S K) (by simp)).1.sees (sect_bytes (unhide HSO).2)) (by rw [unhide HE]; exact unhide HSD _ (unhide HF20).st.nx.kept)).mono ?_; rintro e w21 ⟨rfl, hm21⟩
             have hk21 : Kept [] _ w21 := (by obtain ⟨m, rfl⟩ := hm21; exact (Kept.refl [] _).drewN m)
             have HF21 := hide ((unhide HF20).quiet hk21); clear hm21 hk21 HF20))
        go_meet
        exact ⟨rfl, unhide HF21⟩
      · have HE := hide ((unhide HSS).2 hD)
        have t1 : ((D : Int) = 64) = False := by simp; omega
        clear hD
        go_wp2_with (first
          | (go_at_call 28; refine (unhide HSA _ _ _ (sect S K) (((unhide HF20).get (g := gi) (c := 64) (n := 64) (l := sect S K) (by simp)).1.sees (sect_bytes (unhide HSO).2)) (by rw [unhide HE]; exact ((unhide HF20).get (g := gb) (c := 64) (n := 64) (l := sect bs K) (by simp)).1.sees (unhide HSB))).mono ?_; rintro e w21 ⟨rfl, hm21⟩
             have hk21 : Kept [] _ w21 := (by obtain ⟨m, rfl⟩ := hm21; exact (Kept.refl [] _).drewN m)
             have HF21 := hide ((unhide HF20).quiet hk21); clear hm21 hk21 HF20))
        go_meet
        exact ⟨rfl, unhide HF21⟩
    case rest =>
      obtain ⟨rfl, hfld⟩ := hcut
      have HFL := hide hfld
      clear hfld HF20 HSS HSI HSD HNUM HIB HDB HBN HDD HSB HSK HSL
      obtain ⟨q, hq⟩ : ∃ q, wc.heap.size = q := ⟨_, rfl⟩
      have HLH : Hid (∀ o : Obj, Calls Try.prog 8 #[.slice (some ⟨gh, 0, none⟩) L ch] (wc.alloc o) fun e w' => ∃ g cap, e = .returned (.slice (some ⟨g, 0, none⟩) L cap) ∧ Lent w' (wc.alloc o).heap.size g cap L S ∧ Kept [] (wc.alloc o) w') := by
        intro o
        have hs : Sees (wc.alloc o) (.slice (some ⟨gh, 0, none⟩) L ch) S := (((unhide HFL).get (g := gh) (c := ch) (n := L) (l := S) (by simp)).1.alloc o).sees (unhide HSO).2
        have hl : S.length = L := by rw [(unhide HSO).1]; exact unhide HNL
        have := lent_any hs (by omega)
        rw [hl] at this
        exact this
      go_wp2_with (first
        | (go_at_call 8; refine (unhide HLH _).mono ?_; rintro e W1 ⟨gw, cw, rfl, hl22, hk22⟩))
      have hk0 : Kept [] wc (wc.alloc (.cells #[.slice (some ⟨ga, 0, none⟩) L ca, .slice (some ⟨gb, 0, none⟩) 64 64, .slice (some ⟨gc, 0, none⟩) 64 64, .slice (some ⟨gh, 0, none⟩) L ch, .slice (some ⟨gi, 0, none⟩) 64 64] 22)) := (Kept.refl _ _).alloc _
      have hFl1 := ((unhide HFL).quiet hk0).push hk22 (row_lent hl22) hl22.caps.2.2.1
      have hqb := (Blk.new wc #[.slice (some ⟨ga, 0, none⟩) L ca, .slice (some ⟨gb, 0, none⟩) 64 64, .slice (some ⟨gc, 0, none⟩) 64 64, .slice (some ⟨gh, 0, none⟩) L ch, .slice (some ⟨gi, 0, none⟩) 64 64] 22).kept hk22 (by simp)
      rw [hq] at hqb
      have hlts : ∀ e ∈ ([⟨gi, 64, 64, sect S K⟩, ⟨gh, ch, L, S⟩, ⟨gc, 64, 64, sect bs K⟩, ⟨gb, 64, 64, sect bs K⟩, ⟨ga, ca, L, bs⟩] : List Ent), e.g < q := fun e he => by rw [← hq]; exact ((unhide HFL).row e he).1.lt
      have hqF : q ∉ F2 := (unhide HFL).st.new (by omega)
      have hGC : ∃ G C N : Nat → Nat, (G 0 = ga ∧ G 1 = gb ∧ G 2 = gc ∧ G 3 = gh ∧ G 4 = gi) ∧ (C 0 = ca ∧ C 1 = 64 ∧ C 2 = 64 ∧ C 3 = ch ∧ C 4 = 64) ∧ (N 0 = L ∧ N 1 = 64 ∧ N 2 = 64 ∧ N 3 = L ∧ N 4 = 64) :=
        ⟨fun r => if r = 0 then ga else if r = 1 then gb else if r = 2 then gc else if r = 3 then gh else gi, fun r => if r = 0 then ca else if r = 3 then ch else 64, fun r => if r = 0 ∨ r = 3 then L else 64, ⟨rfl, rfl, rfl, rfl, rfl⟩, ⟨rfl, rfl, rfl, rfl, rfl⟩, ⟨rfl, rfl, rfl, rfl, rfl⟩⟩
      obtain ⟨G, C, N, ⟨g0, g1, g2', g3, g4⟩, ⟨c0, c1, c2', c3, c4⟩, ⟨m0, m1, m2, m3, m4⟩⟩ := hGC
      have HQC : Hid (∀ r, r < 5 → W1.cell? ⟨q, r, none⟩ = some (.slice (some ⟨G r, 0, none⟩) (N r) (C r))) := by
        intro r hr
        rw [hqb.cell]
        match r, hr with
        | 0, _ => rw [g0, c0, m0]; rfl
        | 1, _ => rw [g1, c1, m1]; rfl
        | 2, _ => rw [g2', c2', m2]; rfl
        | 3, _ => rw [g3, c3, m3]; rfl
        | 4, _ => rw [g4, c4, m4]; rfl
      have HQL : Hid (q < W1.heap.size) := hqb.lt
      have hnd := hFl1.nd
      simp only [List.map_cons, List.map_nil, List.nodup_cons, List.mem_cons, List.not_mem_nil, or_false, not_or] at hnd
      have HSP : Hid (Sep G) := by
        intro r s hr hs hrs
        match r, hr, s, hs with
        | 0, _, 0, _ => exact absurd rfl hrs
        | 0, _, 1, _ => rw [g0, g1]; omega
        | 0, _, 2, _ => rw [g0, g2']; omega
        | 0, _, 3, _ => rw [g0, g3]; omega
        | 0, _, 4, _ => rw [g0, g4]; omega
        | 1, _, 0, _ => rw [g0, g1]; omega
        | 1, _, 1, _ => exact absurd rfl hrs
        | 1, _, 2, _ => rw [g1, g2']; omega
        | 1, _, 3, _ => rw [g1, g3]; omega
        | 1, _, 4, _ => rw [g1, g4]; omega
        | 2, _, 0, _ => rw [g2', g0]; omega
        | 2, _, 1, _ => rw [g2', g1]; omega
        | 2, _, 2, _ => exact absurd rfl hrs
        | 2, _, 3, _ => rw [g2', g3]; omega
        | 2, _, 4, _ => rw [g2', g4]; omega
        | 3, _, 0, _ => rw [g3, g0]; omega
        | 3, _, 1, _ => rw [g3, g1]; omega
        | 3, _, 2, _ => rw [g3, g2']; omega
        | 3, _, 3, _ => exact absurd rfl hrs
        | 3, _, 4, _ => rw [g3, g4]; omega
        | 4, _, 0, _ => rw [g4, g0]; omega
        | 4, _, 1, _ => rw [g4, g1]; omega
        | 4, _, 2, _ => rw [g4, g2']; omega
        | 4, _, 3, _ => rw [g4, g3]; omega
        | 4, _, 4, _ => exact absurd rfl hrs
      have hent : ∀ r, r < 5 → ∃ l, (⟨G r, C r, N r, l⟩ : Ent) ∈ ([⟨gi, 64, 64, sect S K⟩, ⟨gh, ch, L, S⟩, ⟨gc, 64, 64, sect bs K⟩, ⟨gb, 64, 64, sect bs K⟩, ⟨ga, ca, L, bs⟩] : List Ent) := by
        intro r hr
        match r, hr with
        | 0, _ => rw [g0, c0, m0]; exact ⟨bs, by simp⟩
        | 1, _ => rw [g1, c1, m1]; exact ⟨sect bs K, by simp⟩
        | 2, _ => rw [g2', c2', m2]; exact ⟨sect bs K, by simp⟩
        | 3, _ => rw [g3, c3, m3]; exact ⟨S, by simp⟩
        | 4, _ => rw [g4, c4, m4]; exact ⟨sect S K, by simp⟩
      have HGO : Hid (∀ r, r < 5 → w.heap.size ≤ G r ∧ G r < q ∧ G r ∉ F2 ∧ G r ≠ gw) := by
        intro r hr
        obtain ⟨l, hl⟩ := hent r hr
        have h1 := hFl1.row _ (List.mem_cons_of_mem _ hl)
        have h2 := hlts _ hl
        have h3 := hl22.caps.2.2.1
        have h4 : (wc.alloc (.cells #[.slice (some ⟨ga, 0, none⟩) L ca, .slice (some ⟨gb, 0, none⟩) 64 64, .slice (some ⟨gc, 0, none⟩) 64 64, .slice (some ⟨gh, 0, none⟩) L ch, .slice (some ⟨gi, 0, none⟩) 64 64] 22)).heap.size = q + 1 := by rw [← hq]; simp
        exact ⟨h1.2.1, h2, h1.2.2, by simp only at h2; omega⟩
      have HDN : Hid (Done W1 G C N 0 0) := by
        intro r hr
        obtain ⟨l, hl⟩ := hent r hr
        exact ⟨l, (hFl1.row _ (List.mem_cons_of_mem _ hl)).1, fun h => by omega, fun _ j hj => by omega⟩
      have HNN : Hid (∀ r, r < 5 → 1 ≤ N r ∧ N r ≤ 4194304) := by
        have := unhide HNL
        intro r hr
        match r, hr with
        | 0, _ => omega
        | 1, _ => omega
        | 2, _ => omega
        | 3, _ => omega
        | 4, _ => omega
      have HQF : Hid (q ∉ F2 ∧ q ≠ gw) := by
        have h3 := hl22.caps.2.2.1
        have h4 : (wc.alloc (.cells #[.slice (some ⟨ga, 0, none⟩) L ca, .slice (some ⟨gb, 0, none⟩) 64 64, .slice (some ⟨gc, 0, none⟩) 64 64, .slice (some ⟨gh, 0, none⟩) L ch, .slice (some ⟨gi, 0, none⟩) 64 64] 22)).heap.size = q + 1 := by rw [← hq]; simp
        exact ⟨hqF, by omega⟩
      have HWS := hide (hFl1.row _ (List.mem_cons_self))
      have HS1 := hide hFl1.st
      have HQ0 := hide hq
      clear hk0 hFl1 hqb hlts hqF hnd hent HLH hl22 hk22 HFL g0 g1 g2' g3 g4 c0 c1 c2' c3 c4 m0 m1 m2 m3 m4
      go_wp2_with fail
      go_loopw [22] (fun s22 wr => ∃ r : Nat, r ≤ 5 ∧ s22 = .int .i64 (r : Int) ∧ Done wr G C N r 0 ∧ Kept [G 0, G 1, G 2, G 3, G 4] W1 wr) (fun s22 _ => 5 - (intOf s22).toNat)
      case atStart => exact ⟨0, by omega, rfl, unhide HDN, Kept.refl _ _⟩
      case round =>
        obtain ⟨r, hr, rfl, hdn, hkp⟩ := hrel
        clear HDN
        have HDN := hide hdn
        have HKP := hide hkp
        have hqn : q ∉ [G 0, G 1, G 2, G 3, G 4] := by
          have h0 := unhide HGO 0 (by omega)
          have h1 := unhide HGO 1 (by omega)
          have h2 := unhide HGO 2 (by omega)
          have h3 := unhide HGO 3 (by omega)
          have h4 := unhide HGO 4 (by omega)
          simp; omega
        have HQN := hide hqn
        clear hdn hkp hqn
        by_cases hlt : r < 5
        · have t3 : ((r : Int) < 5) = True := by simp; omega
          go_wp2_with fail
          go_loopw [23] (fun s23 wr => ∃ k : Nat, k ≤ N r ∧ s23 = .int .i64 (k : Int) ∧ Done wr G C N r k ∧ Kept [G 0, G 1, G 2, G 3, G 4] W1 wr) (fun s23 _ => N r - (intOf s23).toNat)
          case atStart => exact ⟨0, by omega, rfl, unhide HDN, unhide HKP⟩
          case round =>
            obtain ⟨k, hk, rfl, hdn, hkp⟩ := hrel
            clear HDN HKP
            have HDN := hide hdn
            have HKP := hide hkp
            have c1 := hkp.cell (p := ⟨q, r, none⟩) (unhide HQL) (unhide HQN)
            rw [unhide HQC r hlt] at c1
            have hnr := unhide HNN r hlt
            clear hdn hkp
            by_cases hlk : k < N r
            · as_aux_lemma =>
              obtain ⟨l, hl, -⟩ := unhide HDN r hlt
              have cell1 := hl.at hlk
              have fz1 := hl.frozen k
              have cc1 := hl.cap
              have HPT := hide ((unhide HDN).put (unhide HSP) hlt hlk)
              have eX := wrapX r k
              generalize l.getD k 0 = old at *
              clear hl
              go_wp2_with fail
              exact ⟨⟨k + 1, by omega, by simp, unhide HPT, (unhide HKP).setCell (p := ⟨G r, k, none⟩) (Or.inl (in_five hlt)) _⟩, by simp [intOf]; omega⟩
            · have hkn : k = N r := by omega
              have t4 : ((k : Int) < ((N r : Nat) : Int)) = False := by simp; omega
              have HNX := hide ((unhide HDN).next hkn)
              clear hkn hlk
              go_wp2_with fail
              exact ⟨⟨r + 1, by omega, by simp, unhide HNX, unhide HKP⟩, by simp [intOf]; omega⟩
        · have hr5 : r = 5 := by omega
          have t3 : ((r : Int) < 5) = False := by simp; omega
          obtain ⟨B, hB⟩ : ∃ B, wr.heap.size = B := ⟨_, rfl⟩
          have HBB := hide hB
          have HMD : Hid (Mid B wr wr G C N 0) := by
            have hun : ∀ s, s < 5 → RowU wr (G s) (C s) (N s) (lX s (N s)) := by
              intro s hs
              obtain ⟨l, h1, h2, -⟩ := unhide HDN s hs
              have e := all_is h1.len (h2 (by omega))
              rw [← e]; exact h1
            refine ⟨fun r hr k hk => ?_, fun r hr _ => hun r hr, fun r hr => by rw [← hB]; exact (hun r hr).lt, by rw [hB]; exact Nat.le_refl _, Kept.refl _ _⟩
            have := (hun r hr).at hk
            rwa [lX_at r hk] at this
          obtain ⟨i5, hi, hz0, hz1, hz2⟩ := info_parts info5p
          have HI := hide (⟨hi, hz0, hz1, hz2⟩ : _ ∧ _ ∧ _ ∧ _)
          clear hi hz0 hz1 hz2
          obtain ⟨iS, hi, hz0, hz1, hz2⟩ := info_parts infoSb
          have HIS := hide (⟨hi, hz0, hz1, hz2⟩ : _ ∧ _ ∧ _ ∧ _)
          clear hi hz0 hz1 hz2 HDN hB
          have HQ2 : Hid (∀ W, Kept [G 0, G 1, G 2, G 3, G 4] wr W → ∀ r, r < 5 → W.cell? ⟨q, r, none⟩ = some (.slice (some ⟨G r, 0, none⟩) (N r) (C r))) := by
            intro W hk r hr
            rw [hk.cell (p := ⟨q, r, none⟩) (Nat.lt_of_lt_of_le (unhide HQL) (unhide HKP).size) (unhide HQN), (unhide HKP).cell (p := ⟨q, r, none⟩) (unhide HQL) (unhide HQN)]
            exact unhide HQC r hr
          have HVS : Hid (Vs B wr G N []) := ⟨fun r v h => by simp at h, fun r s u v h => by simp at h⟩
          have HOG : Hid (wr.ownsRow B 22 1 (.slice none 0 0) 0 []) := World.ownsRow_nil _ _ _ _
          have HCC : Hid (∀ r, r < 5 → N r ≤ C r ∧ C r ≤ 9223372036854775807) := fun r hr => ((unhide HMD).un r hr (Nat.zero_le _)).cap
          clear hr5 hlt
          as_aux_lemma =>
          rename World => W2
          go_wp2_with fail
          go_loopw [24, 25] (fun s24 s25 wr => ∃ ps : List (Nat × Nat), ps.length ≤ 5 ∧ s25 = .int .i64 (ps.length : Int) ∧ wr.ownsRow B 22 1 s24 ps.length (sls N 0 ps) ∧ Vs B wr G N ps ∧ Mid B W2 wr G C N ps.length) (fun _ s25 _ => 5 - (intOf s25).toNat)
          case atStart => exact ⟨[], by simp, rfl, unhide HOG, unhide HVS, unhide HMD⟩
          case round =>
            obtain ⟨ps, hps, rfl, hog, hvv, hmd⟩ := hrel
            clear HOG HVS HMD
            obtain ⟨i, hi⟩ : ∃ i, ps.length = i := ⟨_, rfl⟩
            have HVL := hide hi
            rw [hi] at hog hmd hps ⊢
            obtain ⟨oa, oc, rfl⟩ := own_len hog
            have HOG := hide hog
            have HVV := hide hvv
            have HMD := hide hmd
            clear hi hog hvv hmd
            by_cases hlt : i < 5
            · have c1 := unhide HQ2 _ (unhide HMD).kept i hlt
              have HG0 : Hid (Gr B wr G N i 0 (G i) (C i)) := by
                refine ⟨?_, Or.inl rfl⟩
                have h := (unhide HMD).un i hlt (Nat.le_refl _)
                show RowU wr (G i) (C i) (N i) (lX i (N i) ++ [])
                rw [List.append_nil]; exact h
              have HBS : Hid (Beside ps (G i)) := by
                have := beside_old (unhide HVV) (unhide HSP) (by rw [unhide HVL]; exact hlt) (unhide HMD).low
                rw [unhide HVL] at this
                exact this
              have HM1 : Hid (Mid B W2 wr G C N (i + 1)) := ⟨(unhide HMD).old, fun r hr h => (unhide HMD).un r hr (by omega), (unhide HMD).low, (unhide HMD).up, (unhide HMD).kept⟩
              have hni := unhide HNN i hlt
              clear HMD
              have t3 : ((i : Int) < 5) = True := by simp; omega
              go_wp2_with fail
              go_loopw [26, 27] (fun s26 s27 wr => ∃ j g c : Nat, j ≤ 70 ∧ s27 = .int .i64 (j : Int) ∧ s26 = .slice (some ⟨g, 0, none⟩) (N i + j) c ∧ Gr B wr G N i j g c ∧ Beside ps g ∧ wr.ownsRow B 22 1 (.slice oa i oc) i (sls N 0 ps) ∧ Vs B wr G N ps ∧ Mid B W2 wr G C N (i + 1)) (fun _ s27 _ => 70 - (intOf s27).toNat)
              case atStart => exact ⟨0, G i, C i, by omega, rfl, rfl, unhide HG0, unhide HBS, unhide HOG, unhide HVV, unhide HM1⟩
              case round =>
                obtain ⟨j, gg, cg, hj, rfl, rfl, hgr, hbs, hog, hvv, hmd⟩ := hrel
                clear HG0 HBS HOG HVV HM1 c1
                have HGR := hide hgr
                have HBS := hide hbs
                have HOG := hide hog
                have HVV := hide hvv
                have HM1 := hide hmd
                clear hgr hbs hog hvv hmd
                by_cases hlj : j < 70
                · as_aux_lemma =>
                  have eY := wrapY i j
                  go_wp2_with (first
                    | (at_builtin; refine wpList_append_rowU _ rfl _ _ 22 rfl i5 _ Try.underlying22 (unhide HI).1 (unhide HI).2.1 (unhide HI).2.2.1 (unhide HI).2.2.2 rfl gg cg (N i + j) _ rfl ((unhide HGR).own.alloc _) ⟨wr.heap.size, 0, none⟩ (wY i j) rfl (cell_one_new _ _ _) (by omega) ?_))
                  intro g' c' w' h1 h2 h3 h4
                  have h3' : g' = gg ∨ g' = wr.heap.size + 1 := by simpa using h3
                  have h1' := h1
                  rw [← List.append_assoc] at h1'
                  obtain ⟨m1, m2, m3⟩ := mid_grow (unhide HSP) hlt (unhide HBB) (unhide HM1) (unhide HGR) h1' h2 h3' h4
                  have HN1 := hide m1
                  have HN2 := hide m2
                  have HN3 := hide ((unhide HBS).next (unhide HVV) h3')
                  have HN4 := hide (own_kept (unhide HOG) m3 (fun k hk hm => row_types (unhide HOG) (unhide HGR).own (by rw [hk]; simp at hm; rw [hm])))
                  have HN5 := hide ((unhide HVV).kept m3 (fun r p hp hm => unhide HBS r p hp (by simpa using hm)))
                  clear h1 h1' h2 h3 h3' h4 m1 m2 m3 HGR HBS HOG HVV HM1
                  go_wp2_with fail
                  exact ⟨⟨j + 1, g', c', by omega, by simp, rfl, unhide HN2, unhide HN3, unhide HN4, unhide HN5, unhide HN1⟩, by simp [intOf]; omega⟩
                · as_aux_lemma =>
                  obtain ⟨T, hT⟩ : ∃ T, j = T ∧ T = 70 := ⟨j, rfl, by omega⟩
                  have hj70 : j = 70 := by omega
                  have t4 : ((j : Int) < 70) = False := by simp; omega
                  clear hT hlj
                  have HGR7 : Hid (Gr B wr G N i 70 gg cg) := by rw [← hj70]; exact unhide HGR
                  have e70 : N i + j = N i + 70 := by omega
                  have HE7 := hide e70
                  clear hj70 e70
                  go_wp2_with (first
                    | (at_builtin; refine wpList_append_own_at _ rfl _ _ 56 rfl B 22 iS _ 1 24 Try.underlying56 (unhide HIS).1 (unhide HIS).2.1 (unhide HIS).2.2.1 (unhide HIS).2.2.2 rfl (by decide) _ _ _ rfl ((unhide HOG).alloc _) ⟨wr.heap.size, 0, none⟩ 1 1 [.slice (some ⟨gg, 0, none⟩) (N i + j) cg] rfl rfl (cell_one_new _ _ _) (by simp [Value.oneCell']) (by unfold maxLen; omega) (by omega) (by have := (unhide HM1).up; simp; omega) ?_))
                  intro v' w' h1 h2 h3 h4
                  obtain ⟨oa', oc', rfl⟩ := own_len h1
                  have hkk : Kept (Value.slice oa i oc).ownBlock.toList wr w' := ((Kept.refl _ wr).alloc _).grown h2 (fun k e => Or.inl (by rw [e]; simp))
                  have HO1 : Hid (w'.ownsRow B 22 1 (.slice oa' (i + 1) oc') (i + 1) (sls N 0 (ps ++ [(gg, cg)]))) := by
                    rw [unhide HE7] at h1
                    rw [sls_app, Nat.zero_add, unhide HVL]
                    exact h1
                  have HN1 := hide ((unhide HM1).grown (unhide HBB) hkk (fun x hx => ((unhide HOG).lt x (by simpa using hx)).1))
                  have HN2 : Hid (Gr B w' G N i 70 gg cg) := ⟨(unhide HGR7).own.kept hkk (fun hm => row_types (unhide HOG) (unhide HGR7).own (by simpa using hm)), (unhide HGR7).blk⟩
                  have HN5 := hide ((unhide HVV).kept hkk (fun r p hp hm => row_types (unhide HOG) ((unhide HVV).gr r p hp).own (by simpa using hm)))
                  clear h1 h2 h3 h4 hkk HGR HGR7 HOG HVV HM1
                  go_wp2_with fail
                  have hvl := unhide HVL
                  subst hvl
                  exact ⟨⟨ps ++ [(gg, cg)], by simp; omega, by simp, by rw [List.length_append]; exact unhide HO1, (unhide HN5).push (unhide HN2) (unhide HBS), by rw [List.length_append]; exact unhide HN1⟩, by simp [intOf]; omega⟩
            · have hi3 : i = 5 := by omega
              have t3 : ((i : Int) < 5) = False := by simp; omega
              have HKF : Hid (Kept [G 0, G 1, G 2, G 3, G 4] W2 wr) := (unhide HMD).kept
              have HVG : Hid (∀ r, r < 5 → ∃ gx cx, (sls N 0 ps)[r]? = some (.slice (some ⟨gx, 0, none⟩) (N r + 70) cx) ∧ N r + 70 ≤ cx ∧ cx ≤ 9223372036854775807 ∧ wr.cell? ⟨q, r, none⟩ = some (.slice (some ⟨G r, 0, none⟩) (N r) (C r)) ∧ (∀ k, k < N r → wr.cell? ⟨gx, k, none⟩ = some (.int .u8 (wX r k : Nat))) ∧ (∀ k, k < 70 → wr.cell? ⟨gx, N r + k, none⟩ = some (.int .u8 (wY r k : Nat)))) := by
                intro r hr
                have hrl : r < ps.length := by rw [unhide HVL]; omega
                have hg := (unhide HVV).gr r ps[r] (List.getElem?_eq_getElem hrl)
                have hsl := sls_at N ps 0 r ps[r] (List.getElem?_eq_getElem hrl)
                rw [Nat.zero_add] at hsl
                refine ⟨_, _, hsl, hg.own.cap.1, hg.own.cap.2, unhide HQ2 _ (unhide HKF) r hr, fun k hk => ?_, fun k hk => ?_⟩
                · rw [hg.own.at (by omega), getD_app, if_pos (by rw [lX_len]; exact hk), lX_at r hk]
                · rw [hg.own.at (by omega), getD_app, if_neg (by rw [lX_len]; omega), lX_len, Nat.add_sub_cancel_left, lY_at r hk]
              have HOL : Hid (∀ r, r < 5 → ∀ k, k < N r → wr.cell? ⟨G r, k, none⟩ = some (.int .u8 (wX r k : Nat))) := (unhide HMD).old
              obtain ⟨go, hoa, hgo, -⟩ : ∃ go, oa = some ⟨go, 0, none⟩ ∧ B ≤ go ∧ True := by
                rcases (unhide HOG).2 with ⟨e1, e2⟩ | ⟨g', cap', cur, e1, hg', hh, _⟩
                · omega
                · cases e1; exact ⟨g', rfl, hg', trivial⟩
              subst hoa
              have HCG : Hid (∀ r u, (sls N 0 ps)[r]? = some u → wr.cell? ⟨go, r, none⟩ = some u) := by
                intro r u hu
                have := (unhide HOG).cells (g := go) rfl r u hu
                rwa [add_zero_mid] at this
              have HOC : Hid (5 ≤ oc) := by
                rcases (unhide HOG).2 with ⟨e1, e2⟩ | ⟨g', cap', cur, e1, hg', hh, hc, _⟩
                · cases e1
                · cases e1; unfold Hid; omega
              have HSF : Hid (Stand w b F2 d2 wr ∧ RowU wr gw cw (L + 3) (S ++ three)) := by
                have h0 := unhide HGO 0 (by omega)
                have h1 := unhide HGO 1 (by omega)
                have h2 := unhide HGO 2 (by omega)
                have h3 := unhide HGO 3 (by omega)
                have h4 := unhide HGO 4 (by omega)
                have hk := (unhide HKP).trans (unhide HKF) (fun x hx => Or.inl hx)
                have hs := unhide HS1
                have hF : ∀ x ∈ F2, x ∉ [G 0, G 1, G 2, G 3, G 4] := by
                  intro x hx hm
                  simp at hm
                  rcases hm with rfl | rfl | rfl | rfl | rfl
                  · exact h0.2.2.1 hx
                  · exact h1.2.2.1 hx
                  · exact h2.2.2.1 hx
                  · exact h3.2.2.1 hx
                  · exact h4.2.2.1 hx
                refine ⟨⟨hs.dk.keep hk hF, ⟨hs.nx.kept.trans hk (fun x hx => Or.inr ?_), hs.nx.sub⟩⟩, (unhide HWS).1.kept hk ?_⟩
                · simp at hx
                  omega
                · have e0 := h0.2.2.2
                  have e1 := h1.2.2.2
                  have e2 := h2.2.2.2
                  have e3 := h3.2.2.2
                  have e4 := h4.2.2.2
                  simp
                  omega
              clear hi3 HOG HVV HMD HKF HQ2 HQC HQL HQN HSP HBB HI HIS HKP HS1 HVL hgo HGO HWS
              as_aux_lemma =>
              rename World => W3
              go_wp2_with fail
              go_loopw [28] (fun s28 wr => ∃ r : Nat, r ≤ 5 ∧ s28 = .int .i64 (r : Int) ∧ Quiet W3 wr) (fun s28 _ => 5 - (intOf s28).toNat)
              case atStart => exact ⟨0, by omega, rfl, Quiet.refl _⟩
              case round =>
                obtain ⟨r, hr, rfl, hqt⟩ := hrel
                have HQT := hide hqt
                by_cases hlr : r < 5
                · have t4 : ((r : Int) < 5) = True := by simp; omega
                  obtain ⟨gx, cx, hvr, hcx, hcx2, hqr, hX, hY⟩ := unhide HVG r hlr
                  have hgr := unhide HCG r _ hvr
                  have hoc := unhide HOC
                  have hnr := unhide HNN r hlr
                  have hcc := unhide HCC r hlr
                  have HX := hide hX
                  have HY := hide hY
                  have HQR := hide hqr
                  have HGR := hide hgr
                  have hqr0 := (hqt.cell ⟨q, r, none⟩).trans hqr
                  clear hX hY hvr hqr hgr hqt
                  go_wp2_with fail
                  clear hqr0
                  go_loopw [30] (fun s30 wr => ∃ k : Nat, k ≤ N r ∧ s30 = .int .i64 (k : Int) ∧ Quiet W3 wr) (fun s30 _ => N r - (intOf s30).toNat)
                  case atStart => exact ⟨0, by omega, rfl, unhide HQT⟩
                  case round =>
                    obtain ⟨k, hk, rfl, hqt⟩ := hrel
                    clear HQT
                    have HQT := hide hqt
                    by_cases hlk : k < N r
                    · as_aux_lemma =>
                      have hqr := (hqt.cell ⟨q, r, none⟩).trans (unhide HQR)
                      have hgr := (hqt.cell ⟨go, r, none⟩).trans (unhide HGR)
                      have c3 := (hqt.cell ⟨G r, k, none⟩).trans (unhide HOL r hlr k hlk)
                      have c4 := (hqt.cell ⟨gx, k, none⟩).trans (unhide HX k hlk)
                      have eX := wrapX r k
                      have w1 : IntKind.i64.wrap (50 * (r : Int)) = 50 * (r : Int) := by rw [IntKind.wrap_i64]; omega
                      have w2 : IntKind.i64.wrap (50 * (r : Int) + (k : Int)) = 50 * (r : Int) + (k : Int) := by rw [IntKind.wrap_i64]; omega
                      clear hqt
                      generalize wX r k = y at *
                      go_wp2_with fail
                      go_region
                      go_wp2_with fail
                      exact ⟨⟨k + 1, by omega, by simp, by first | exact (unhide HQT).drew | exact unhide HQT⟩, by simp [intOf]; omega⟩
                    · have t5 : ((k : Int) < ((N r : Nat) : Int)) = False := by simp; omega
                      clear hqt hlk
                      go_wp2_with fail
                      go_loopw [31] (fun s31 wr => ∃ j : Nat, j ≤ 70 ∧ s31 = .int .i64 (j : Int) ∧ Quiet W3 wr) (fun s31 _ => 70 - (intOf s31).toNat)
                      case atStart => exact ⟨0, by omega, rfl, unhide HQT⟩
                      case round =>
                        obtain ⟨j, hj, rfl, hqt⟩ := hrel
                        clear HQT
                        have HQT := hide hqt
                        by_cases hlj : j < 70
                        · as_aux_lemma =>
                          have hgr := (hqt.cell ⟨go, r, none⟩).trans (unhide HGR)
                          have c4 := (hqt.cell ⟨gx, N r + j, none⟩).trans (unhide HY j hlj)
                          have eY := wrapY r j
                          clear hqt
                          generalize wY r j = y at *
                          go_wp2_with fail
                          exact ⟨⟨j + 1, by omega, by simp, by first | exact unhide HQT | exact (unhide HQT).drew⟩, by simp [intOf]; omega⟩
                        · have t6 : ((j : Int) < 70) = False := by simp; omega
                          clear hqt hlj
                          go_wp2_with fail
                          exact ⟨⟨r + 1, by omega, by simp, unhide HQT⟩, by simp [intOf]; omega⟩
                · as_aux_lemma =>
                  have t4 : ((r : Int) < 5) = False := by simp; omega
                  have HS9 := hide ((unhide HSF).1.quiet hqt.kept)
                  have HL9 := hide ((unhide HSF).2.kept hqt.kept (by simp))
                  have hSL : S.length = L := by rw [(unhide HSO).1]; exact unhide HNL
                  have HSL := hide hSL
                  clear hqt hlr hSL
                  go_wp2_with (first
                    | (go_at_call 27; refine (unhide HIM2 _ _ _ (unhide HS9).dk).mono ?_; rintro e w30 ⟨g30, c30, rfl, ho30, hk30⟩
                       have HRS := hide (unhide HSA _ _ _ S (sees_image ho30 (unhide HSO).2) (((unhide HL9).kept hk30 (by simp)).pre (unhide HSL) (unhide HSO).2)); have HKZ := hide ((unhide HS9).nx.kept.trans hk30 (fun x hx => by simp at hx)); clear ho30 hk30)
                    | (go_at_call 28; refine (unhide HRS).mono ?_; rintro e w31 ⟨rfl, hm31⟩; have HKY : Hid (Kept [] w w31) := (by obtain ⟨m, rfl⟩ := hm31; exact (unhide HKZ).drewN m); clear HRS hm31 HKZ))
                  go_ret
                  exact ⟨rfl, unhide HKY⟩
end Go.Proofs.Ytfaoblnghkiibaa
