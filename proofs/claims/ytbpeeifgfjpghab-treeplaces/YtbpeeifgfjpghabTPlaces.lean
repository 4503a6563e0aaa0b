/- TreePlaces: places, ranks and searches go together. -/
import Derived.Test.YtbpeeifgfjpghabTMade2
namespace Go.Proofs.Ytbpeeifgfjpghab
open Go.RowKit
set_option linter.unusedVariables false

/-- a world by a letter: what is known of it is named -/
theorem world_at {R C : World → Prop} {x : World} (h : R x) (H : ∀ wr, R wr → C wr) : C x := H x h
theorem place_at {t : TI} (h : Rise t.list) {i : Nat} (hi : i < t.size) : ∃ k x, t.at' (i : Int) = some (k, x) ∧ t.find k = some (k, x) ∧ t.rank k = i := by
  have hi' : i < t.list.length := by rw [Tr.list_length]; exact hi
  obtain ⟨⟨k, x⟩, he⟩ : ∃ e, t.list[i]? = some e := ⟨t.list[i], List.getElem?_eq_getElem hi'⟩
  have hsp : t.list = t.list.take i ++ (k, x) :: t.list.drop (i + 1) := by
    have h1 : t.list[i] = (k, x) := by rw [List.getElem?_eq_getElem hi'] at he; exact Option.some.inj he
    rw [← h1, List.getElem_cons_drop, List.take_append_drop]
  have hr := h
  rw [hsp] at hr
  obtain ⟨_, _, a1, a2⟩ := rise_node hr
  have hlow : lowL k t.list = t.list.take i := by
    conv => lhs; rw [hsp]
    rw [lowL_append, lowL_all a1, lowL_none (A := (k, x) :: t.list.drop (i + 1)) (by
      intro y hy
      rcases List.mem_cons.1 hy with rfl | hy
      · exact klt_irr _
      · exact klt_asym (a2 y hy))]
    simp
  have hrest : restL k t.list = (k, x) :: t.list.drop (i + 1) := by
    have h1 := low_rest k h
    rw [hlow] at h1
    have h2 : t.list.take i ++ restL k t.list = t.list.take i ++ ((k, x) :: t.list.drop (i + 1)) := by rw [h1]; exact hsp
    exact List.append_cancel_left h2
  refine ⟨k, x, ?_, ?_, ?_⟩
  · rw [Tr.at_list, if_pos (by omega)]; simpa using he
  · rw [Tr.find_list t k h, hrest]
    simp [klt, KOrd.irr]
  · rw [Tr.rank_list t k h, hlow]; simp; omega

theorem place_key {t : TI} (h : Rise t.list) (key : Int) :
    (t.rank key < t.size ∧ ∃ k x, t.at' ((t.rank key : Nat) : Int) = some (k, x) ∧ ¬ k < key ∧ ((k = key ∧ t.find key = some (k, x)) ∨ (k ≠ key ∧ t.find key = none))) ∨
    (t.rank key = t.size ∧ t.at' ((t.rank key : Nat) : Int) = none ∧ t.find key = none) := by
  have h1 := low_rest key h
  have hr := Tr.rank_list t key h
  have hat : t.at' ((t.rank key : Nat) : Int) = (restL key t.list)[0]? := by
    rw [Tr.at_list, if_pos (by omega)]
    have gen : ∀ (A B L : List (Int × Int)), A ++ B = L → L[A.length]? = B[0]? := by
      intro A B L e
      rw [← e, List.getElem?_append_right (Nat.le_refl _), Nat.sub_self]
    have := gen _ _ _ h1
    simpa [hr] using this
  have hlen := congrArg List.length h1
  rw [List.length_append, Tr.list_length] at hlen
  have hf := Tr.find_list t key h
  cases hrest : restL key t.list with
  | nil =>
    right
    rw [hrest] at hat hf hlen
    exact ⟨by simp at hlen; omega, by simpa using hat, hf⟩
  | cons e R =>
    left
    obtain ⟨k, x⟩ := e
    rw [hrest] at hat hf hlen
    have hmem : (k, x) ∈ restL key t.list := by rw [hrest]; exact List.mem_cons_self ..
    have hk := mem_rest hmem
    simp only [klt, KOrd.lt, decide_eq_false_iff_not] at hk
    refine ⟨by simp at hlen; omega, k, x, by simpa using hat, hk, ?_⟩
    by_cases hkk : k = key
    · left
      refine ⟨hkk, ?_⟩
      rw [hf]
      simp [klt, KOrd.lt, hkk]
    · right
      refine ⟨hkk, ?_⟩
      rw [hf]
      simp only [List.head?_cons, klt, KOrd.lt]
      rw [if_pos (by simp; omega)]

theorem place_below {t : TI} (h : Rise t.list) (key : Int) (hn : 0 < t.rank key) : ∃ k x, t.at' (((t.rank key : Nat) : Int) - 1) = some (k, x) ∧ k < key := by
  have h1 := low_rest key h
  have hr := Tr.rank_list t key h
  have hi : t.rank key - 1 < (lowL key t.list).length := by omega
  have hmem := mem_low (List.getElem_mem hi)
  simp only [klt, KOrd.lt, decide_eq_true_eq] at hmem
  refine ⟨((lowL key t.list)[t.rank key - 1]).1, ((lowL key t.list)[t.rank key - 1]).2, ?_, hmem⟩
  rw [Tr.at_list, if_pos (by omega), show (((t.rank key : Nat) : Int) - 1).toNat = t.rank key - 1 by omega]
  have : (lowL key t.list ++ restL key t.list)[t.rank key - 1]? = some (lowL key t.list)[t.rank key - 1] := by
    rw [List.getElem?_append_left hi, List.getElem?_eq_getElem hi]
  rw [h1] at this
  exact this

set_option maxRecDepth 100000 in
set_option maxHeartbeats 4000000 in
theorem places_walk {w : World} {v kv : Value} {os : List OpI} {ks : List Int} (h : Ops w v os) (hl : os.length ≤ 4398046511104) (hk : SeesI w kv ks) : Calls Try.prog 4 #[v, kv] w fun e w' => e = .returned (.bool true) ∧ Kept [] w w' := by
  have HKN := hide (known_any w)
  have HOPS := hide h
  obtain ⟨a, cap, rfl, -, -, -, -⟩ := h
  obtain ⟨ka, kcap, rfl, k1, k2, k3⟩ := hk
  have hkc : kcap ≤ 9223372036854775807 := by unfold maxLen at k2; omega
  have HK3 := hide k3
  have hkl : ks.length ≤ 9223372036854775807 := by omega
  generalize hKL : ks.length = KL at *
  have HKL := hide hKL
  clear k1 k2 k3 hKL
  go_enter Try.func4, Try.ntmps4
  go_wp2_with (first
    | (go_at_call 6; refine (unhide HKN).mono ?_; rintro e w1 ⟨rfl, hk1⟩; have HK1 := hide hk1; have HM := hide (made_any (w := w1) (v := .slice a os.length cap) (os := os) ((unhide HOPS).kept hk1) hl); clear hk1 HKN)
    | fail)
  refine (unhide HM).mono ?_
  rintro e w2 ⟨v', ts, Ks, rfl, hrow, hne, hlen, hfine, hKs, hk2⟩
  obtain ⟨va, vc, rfl⟩ := hrow.val
  have hpos : 0 < ts.length := List.length_pos_iff.2 hne
  obtain ⟨-, g, q, rfl, hcell, htt⟩ := hrow.get (ts.length - 1) (by omega)
  have hmem : ts[ts.length - 1] ∈ ts := List.getElem_mem _
  have hf := hfine _ hmem
  have hsz : (ts[ts.length - 1]).size ≤ 4398046511104 := Nat.le_trans hf.size (by omega)
  generalize ts[ts.length - 1] = t at *
  generalize hn : ts.length = n at *
  have HRI := hide hf.1
  have HTT := hide htt
  have HKW := hide ((unhide HK1).trans hk2 (by simp))
  have hn2 : n ≤ 17592186044416 := by omega
  obtain ⟨m, rfl⟩ : ∃ m, n = m + 1 := ⟨n - 1, by omega⟩
  rw [Nat.add_sub_cancel] at hcell
  have i1 : (m : Int) < (m : Int) + 1 := by omega
  have i2 : (m : Int) + 1 - 1 = (m : Int) := by omega
  clear hrow hfine hf htt hmem hne HM HK1 hk2 hlen hKs hn hpos
  have hsz2 : t.size < 4611686018427384000 := by omega
  go_wp2_with fail
  go_loopw [7] (fun i wr => ∃ k : Nat, i = .int .i64 (k : Int) ∧ k ≤ t.size ∧ Kept [] w2 wr) (fun i _ => t.size - (intOf i).toNat)
  case atStart => exact ⟨0, rfl, by omega, Kept.refl _ _⟩
  case round =>
    obtain ⟨k, rfl, hks, hkw⟩ := hrel
    have HW := hide hkw
    have htr := (unhide HTT).kept hkw
    have HT := hide htr
    have HLN := hide (Len_any htr)
    clear hkw htr
    by_cases hke : k = t.size
    · rw [← hke] at HLN
      have t1 : ((k : Int) < (k : Int)) = False := by simp
      go_wp2_with (first
        | (go_at_call 16; refine (unhide HLN).mono ?_; rintro e w4 ⟨rfl, hq⟩; have hq' := hq.symm; subst hq'))
      clear HLN t1 hke hks HT
      have HK4 := hide ((unhide HKW).trans (unhide HW) (by simp))
      have HT2 := hide ((unhide HTT).kept (unhide HW))
      clear HW
      go_wp2_with fail
      refine world_at (R := fun W => Kept [] w W ∧ Tt W q t) ⟨unhide HK4, unhide HT2⟩ ?_
      rintro w4 ⟨hk4, ht4⟩
      have HK5 := hide hk4
      have HT5 := hide ht4
      clear hk4 ht4 HK4 HT2
      go_loopw [13] (fun i wr => ∃ j : Nat, i = .int .i64 (j : Int) ∧ j ≤ KL ∧ Kept [] w4 wr) (fun i _ => KL - (intOf i).toNat)
      case atStart => exact ⟨0, rfl, by omega, Kept.refl _ _⟩
      case round =>
      obtain ⟨j, rfl, hjl, hkw⟩ := hrel
      have HW := hide hkw
      have HT := hide ((unhide HT5).kept hkw)
      clear hkw
      by_cases hje : j = KL
      · subst hje
        have t1 : ((j : Int) < (j : Int)) = False := by simp
        go_wp2
        go_ret
        exact ⟨rfl, (unhide HK5).trans (unhide HW) (by simp)⟩
      have hjl' : j < KL := by omega
      have t1 : ((j : Int) < (KL : Int)) = True := by simp only [eq_iff_iff, iff_true]; omega
      obtain ⟨kb0, koff, rfl, hkb, hkc0⟩ : ∃ b off, ka = some ⟨b, off, none⟩ ∧ b < w.heap.size ∧ ∀ j, j < KL → w.cell? ⟨b, off + j, none⟩ = some (.int .i64 (ks.getD j 0)) := by
        rcases unhide HK3 with h | h
        · have := unhide HKL; rw [h] at this; simp at this; omega
        · exact h
      have ck := ((unhide HK5).trans (unhide HW) (by simp)).cell' (hkc0 j hjl')
      generalize ks.getD j 0 = key at ck
      have HR : Hid (∀ W, Kept [] wr W → Calls Try.prog 19 #[.pointer q, .int .i64 key] W fun e w' => e = .returned (.int .i64 (t.rank key : Nat)) ∧ w' = W) := fun W hW => Rank_any key ((unhide HT).kept hW) hsz2
      have HLN : Hid (∀ W, Kept [] wr W → Calls Try.prog 16 #[.pointer q] W fun e w' => e = .returned (.int .i64 (t.size : Nat)) ∧ w' = W) := fun W hW => Len_any ((unhide HT).kept hW)
      have HBL := hide (place_below (unhide HRI) key)
      have hrks := t.rank_size key
      have HAF : ∀ (i : Int) (r : Option (Int × Int)), t.at' i = r → in64 i → ∀ W, Kept [] wr W → Calls Try.prog 17 #[.pointer q, .int .i64 i] W fun e w' => e = .returned (.tuple #[.int .i64 (fk r), .int .i64 (fv r), .bool r.isSome]) ∧ Kept [] wr w' := fun i r hr hi W hW => by
        rw [← hr]
        exact (At_any i ((unhide HT).kept hW) hsz2 hi).mono (by rintro e w' ⟨h1, h2⟩; exact ⟨h1, hW.trans h2 (by simp)⟩)
      have HSF : ∀ (r : Option (Int × Int)), t.at' ((t.rank key : Nat) : Int) = r → ∀ W, Kept [] wr W → Calls Try.prog 20 #[.pointer q, .int .i64 key] W fun e w' => e = .returned (.tuple #[.int .i64 (fk r), .int .i64 (fv r), .bool r.isSome]) ∧ Kept [] wr w' := fun r hr W hW => by
        rw [← hr]
        exact (Seek_any key ((unhide HT).kept hW) hsz2).mono (by rintro e w' ⟨h1, h2⟩; exact ⟨h1, hW.trans h2 (by simp)⟩)
      have HGF : ∀ (r : Option (Int × Int)), t.find key = r → ∀ W, Kept [] wr W → Calls Try.prog 18 #[.pointer q, .int .i64 key] W fun e w' => e = .returned (.tuple #[.int .i64 (fv r), .bool r.isSome]) ∧ w' = W := fun r hr W hW => by
        rw [← hr]
        exact Get_any key ((unhide HT).kept hW)
      have HBF : ∀ (r : Option (Int × Int)), t.at' (((t.rank key : Nat) : Int) - 1) = r → ∀ W, Kept [] wr W → Calls Try.prog 17 #[.pointer q, .int .i64 (((t.rank key : Nat) : Int) - 1)] W fun e w' => e = .returned (.tuple #[.int .i64 (fk r), .int .i64 (fv r), .bool r.isSome]) ∧ Kept [] wr w' := fun r hr W hW => HAF _ r hr (by unfold in64; omega) W hW
      rcases place_key (unhide HRI) key with ⟨hlt, k, x, p1, p2, p3⟩ | ⟨hge, p1, p2⟩
      rcases p3 with ⟨p3, p4⟩ | ⟨p3, p4⟩
      · have HA := hide (HAF _ _ p1 (by unfold in64; omega))
        have HS := hide (HSF _ p1)
        have HG := hide (HGF _ p4)
        have l1 : (((t.rank key : Nat) : Int) < (t.size : Int)) = True := by simp only [eq_iff_iff, iff_true]; omega
        have p3' := p3.symm
        subst p3'
        clear HAF HSF HGF p1 p4 HK3 hkc0
        simp only [fk, fv, Option.getD_some, Option.isSome_some] at HA HS HG HBF
        generalize t.rank key = rk at *
        generalize t.size = S at *
        rcases Nat.eq_zero_or_pos rk with hz0 | hz0
        · have pb4 : (0 < rk) = False := by simp only [eq_iff_iff, iff_false]; omega
          clear HBF HBL hz0
          go_wp2_with (first
            | (go_at_call 19; refine (unhide HR _ (Kept.refl _ _)).mono ?_; rintro e w6 ⟨rfl, hq⟩; have hq' := hq.symm; subst hq')
            | (go_at_call 17; refine (unhide HA _ (Kept.refl _ _)).mono ?_; rintro e w5 ⟨rfl, hq⟩; have HQ := hide hq; clear hq HA)
            | (go_at_call 20; refine (unhide HS _ (unhide HQ)).mono ?_; rintro e w6 ⟨rfl, hq⟩; have HQ2 := hide hq; clear hq HS)
            | (go_at_call 18; refine (unhide HG _ (unhide HQ2)).mono ?_; rintro e w7 ⟨rfl, hq⟩; have hq' := hq.symm; subst hq'; clear HG)
            | (go_at_call 16; refine (unhide HLN _ (unhide HQ2)).mono ?_; rintro e w7 ⟨rfl, hq⟩; have hq' := hq.symm; subst hq')
            | (go_at_call 17; refine (unhide HB _ (unhide HQ2)).mono ?_; rintro e w8 ⟨rfl, hq⟩; have HQ3 := hide hq; clear hq HB))
          refine ⟨⟨j + 1, by simp, by omega, (unhide HW).trans (unhide HQ2) (by simp)⟩, ?_⟩
          simp [intOf]; omega
        · obtain ⟨kb, xb, pb1, pb2⟩ := unhide HBL hz0
          have HB := hide (fun W (hW : Kept [] wr W) => HBF _ pb1 W hW)
          have pb3 : (key ≤ kb) = False := by simp only [eq_iff_iff, iff_false]; omega
          have pb4 : (0 < rk) = True := by simp only [eq_iff_iff, iff_true]; omega
          clear pb1 HBF hz0
          go_wp2_with (first
            | (go_at_call 19; refine (unhide HR _ (Kept.refl _ _)).mono ?_; rintro e w6 ⟨rfl, hq⟩; have hq' := hq.symm; subst hq')
            | (go_at_call 17; refine (unhide HA _ (Kept.refl _ _)).mono ?_; rintro e w5 ⟨rfl, hq⟩; have HQ := hide hq; clear hq HA)
            | (go_at_call 20; refine (unhide HS _ (unhide HQ)).mono ?_; rintro e w6 ⟨rfl, hq⟩; have HQ2 := hide hq; clear hq HS)
            | (go_at_call 18; refine (unhide HG _ (unhide HQ2)).mono ?_; rintro e w7 ⟨rfl, hq⟩; have hq' := hq.symm; subst hq'; clear HG)
            | (go_at_call 16; refine (unhide HLN _ (unhide HQ2)).mono ?_; rintro e w7 ⟨rfl, hq⟩; have hq' := hq.symm; subst hq')
            | (go_at_call 17; refine (unhide HB _ (unhide HQ2)).mono ?_; rintro e w8 ⟨rfl, hq⟩; have HQ3 := hide hq; clear hq HB))
          refine ⟨⟨j + 1, by simp, by omega, (unhide HW).trans (unhide HQ3) (by simp)⟩, ?_⟩
          simp [intOf]; omega
      · have HA := hide (HAF _ _ p1 (by unfold in64; omega))
        have HS := hide (HSF _ p1)
        have HG := hide (HGF _ p4)
        have l1 : (((t.rank key : Nat) : Int) < (t.size : Int)) = True := by simp only [eq_iff_iff, iff_true]; omega
        have l2 : (k < key) = False := by simp only [eq_iff_iff, iff_false]; omega
        have l3 : (k = key) = False := by simp only [eq_iff_iff, iff_false]; omega
        clear HAF HSF HGF p1 p4 HK3 hkc0
        simp only [fk, fv, Option.getD_some, Option.isSome_some, Option.getD_none, Option.isSome_none] at HA HS HG HBF
        generalize t.rank key = rk at *
        generalize t.size = S at *
        rcases Nat.eq_zero_or_pos rk with hz0 | hz0
        · have pb4 : (0 < rk) = False := by simp only [eq_iff_iff, iff_false]; omega
          clear HBF HBL hz0
          go_wp2_with (first
            | (go_at_call 19; refine (unhide HR _ (Kept.refl _ _)).mono ?_; rintro e w6 ⟨rfl, hq⟩; have hq' := hq.symm; subst hq')
            | (go_at_call 17; refine (unhide HA _ (Kept.refl _ _)).mono ?_; rintro e w5 ⟨rfl, hq⟩; have HQ := hide hq; clear hq HA)
            | (go_at_call 20; refine (unhide HS _ (unhide HQ)).mono ?_; rintro e w6 ⟨rfl, hq⟩; have HQ2 := hide hq; clear hq HS)
            | (go_at_call 18; refine (unhide HG _ (unhide HQ2)).mono ?_; rintro e w7 ⟨rfl, hq⟩; have hq' := hq.symm; subst hq'; clear HG)
            | (go_at_call 16; refine (unhide HLN _ (unhide HQ2)).mono ?_; rintro e w7 ⟨rfl, hq⟩; have hq' := hq.symm; subst hq')
            | (go_at_call 17; refine (unhide HB _ (unhide HQ2)).mono ?_; rintro e w8 ⟨rfl, hq⟩; have HQ3 := hide hq; clear hq HB))
          refine ⟨⟨j + 1, by simp, by omega, (unhide HW).trans (unhide HQ2) (by simp)⟩, ?_⟩
          simp [intOf]; omega
        · obtain ⟨kb, xb, pb1, pb2⟩ := unhide HBL hz0
          have HB := hide (fun W (hW : Kept [] wr W) => HBF _ pb1 W hW)
          have pb3 : (key ≤ kb) = False := by simp only [eq_iff_iff, iff_false]; omega
          have pb4 : (0 < rk) = True := by simp only [eq_iff_iff, iff_true]; omega
          clear pb1 HBF hz0
          go_wp2_with (first
            | (go_at_call 19; refine (unhide HR _ (Kept.refl _ _)).mono ?_; rintro e w6 ⟨rfl, hq⟩; have hq' := hq.symm; subst hq')
            | (go_at_call 17; refine (unhide HA _ (Kept.refl _ _)).mono ?_; rintro e w5 ⟨rfl, hq⟩; have HQ := hide hq; clear hq HA)
            | (go_at_call 20; refine (unhide HS _ (unhide HQ)).mono ?_; rintro e w6 ⟨rfl, hq⟩; have HQ2 := hide hq; clear hq HS)
            | (go_at_call 18; refine (unhide HG _ (unhide HQ2)).mono ?_; rintro e w7 ⟨rfl, hq⟩; have hq' := hq.symm; subst hq'; clear HG)
            | (go_at_call 16; refine (unhide HLN _ (unhide HQ2)).mono ?_; rintro e w7 ⟨rfl, hq⟩; have hq' := hq.symm; subst hq')
            | (go_at_call 17; refine (unhide HB _ (unhide HQ2)).mono ?_; rintro e w8 ⟨rfl, hq⟩; have HQ3 := hide hq; clear hq HB))
          refine ⟨⟨j + 1, by simp, by omega, (unhide HW).trans (unhide HQ3) (by simp)⟩, ?_⟩
          simp [intOf]; omega
      · have HA := hide (HAF _ _ p1 (by unfold in64; omega))
        have HS := hide (HSF _ p1)
        have HG := hide (HGF _ p2)
        have l1 : (t.rank key < t.size) = False := by simp only [eq_iff_iff, iff_false]; omega
        have l2 : t.size ≤ t.rank key := by omega
        clear HAF HSF HGF p1 p2 HK3 hkc0 hge
        simp only [fk, fv, Option.getD_none, Option.isSome_none] at HA HS HG HBF
        generalize t.rank key = rk at *
        generalize t.size = S at *
        rcases Nat.eq_zero_or_pos rk with hz0 | hz0
        · have pb4 : (0 < rk) = False := by simp only [eq_iff_iff, iff_false]; omega
          clear HBF HBL hz0
          go_wp2_with (first
            | (go_at_call 19; refine (unhide HR _ (Kept.refl _ _)).mono ?_; rintro e w6 ⟨rfl, hq⟩; have hq' := hq.symm; subst hq')
            | (go_at_call 17; refine (unhide HA _ (Kept.refl _ _)).mono ?_; rintro e w5 ⟨rfl, hq⟩; have HQ := hide hq; clear hq HA)
            | (go_at_call 20; refine (unhide HS _ (unhide HQ)).mono ?_; rintro e w6 ⟨rfl, hq⟩; have HQ2 := hide hq; clear hq HS)
            | (go_at_call 18; refine (unhide HG _ (unhide HQ2)).mono ?_; rintro e w7 ⟨rfl, hq⟩; have hq' := hq.symm; subst hq'; clear HG)
            | (go_at_call 16; refine (unhide HLN _ (unhide HQ2)).mono ?_; rintro e w7 ⟨rfl, hq⟩; have hq' := hq.symm; subst hq')
            | (go_at_call 17; refine (unhide HB _ (unhide HQ2)).mono ?_; rintro e w8 ⟨rfl, hq⟩; have HQ3 := hide hq; clear hq HB))
          refine ⟨⟨j + 1, by simp, by omega, (unhide HW).trans (unhide HQ2) (by simp)⟩, ?_⟩
          simp [intOf]; omega
        · obtain ⟨kb, xb, pb1, pb2⟩ := unhide HBL hz0
          have HB := hide (fun W (hW : Kept [] wr W) => HBF _ pb1 W hW)
          have pb3 : (key ≤ kb) = False := by simp only [eq_iff_iff, iff_false]; omega
          have pb4 : (0 < rk) = True := by simp only [eq_iff_iff, iff_true]; omega
          clear pb1 HBF hz0
          go_wp2_with (first
            | (go_at_call 19; refine (unhide HR _ (Kept.refl _ _)).mono ?_; rintro e w6 ⟨rfl, hq⟩; have hq' := hq.symm; subst hq')
            | (go_at_call 17; refine (unhide HA _ (Kept.refl _ _)).mono ?_; rintro e w5 ⟨rfl, hq⟩; have HQ := hide hq; clear hq HA)
            | (go_at_call 20; refine (unhide HS _ (unhide HQ)).mono ?_; rintro e w6 ⟨rfl, hq⟩; have HQ2 := hide hq; clear hq HS)
            | (go_at_call 18; refine (unhide HG _ (unhide HQ2)).mono ?_; rintro e w7 ⟨rfl, hq⟩; have hq' := hq.symm; subst hq'; clear HG)
            | (go_at_call 16; refine (unhide HLN _ (unhide HQ2)).mono ?_; rintro e w7 ⟨rfl, hq⟩; have hq' := hq.symm; subst hq')
            | (go_at_call 17; refine (unhide HB _ (unhide HQ2)).mono ?_; rintro e w8 ⟨rfl, hq⟩; have HQ3 := hide hq; clear hq HB))
          refine ⟨⟨j + 1, by simp, by omega, (unhide HW).trans (unhide HQ3) (by simp)⟩, ?_⟩
          simp [intOf]; omega
    · have hlt : k < t.size := by omega
      have t1 : ((k : Int) < (t.size : Int)) = True := by simp only [eq_iff_iff, iff_true]; omega
      obtain ⟨kk, xx, p1, p2, p3⟩ := place_at (unhide HRI) hlt
      have HA := hide (At_any (k : Int) (unhide HT) hsz2 (by omega))
      rw [p1] at HA
      have HG : Hid (∀ W, Kept [] wr W → Calls Try.prog 18 #[.pointer q, .int .i64 kk] W fun e w' => e = .returned (.tuple #[.int .i64 xx, .bool true]) ∧ w' = W) := fun W hW => by
        have := Get_any kk ((unhide HT).kept hW); rw [p2] at this; exact this
      have HR : Hid (∀ W, Kept [] wr W → Calls Try.prog 19 #[.pointer q, .int .i64 kk] W fun e w' => e = .returned (.int .i64 (k : Int)) ∧ w' = W) := fun W hW => by
        have := Rank_any kk ((unhide HT).kept hW) hsz2; rw [p3] at this; exact this
      simp only [fk, fv, Option.getD_some, Option.isSome_some] at HA
      clear p1 p2 p3
      generalize t.size = S at *
      go_wp2_with (first
        | (go_at_call 16; refine (unhide HLN).mono ?_; rintro e w4 ⟨rfl, hq⟩; have hq' := hq.symm; subst hq')
        | (go_at_call 17; refine (unhide HA).mono ?_; rintro e w5 ⟨rfl, hq⟩; have HQ := hide hq; clear hq)
        | (go_at_call 18; refine (unhide HG _ (unhide HQ)).mono ?_; rintro e w6 ⟨rfl, hq⟩; have hq' := hq.symm; subst hq')
        | (go_at_call 19; refine (unhide HR _ (unhide HQ)).mono ?_; rintro e w6 ⟨rfl, hq⟩; have hq' := hq.symm; subst hq'))
      refine ⟨⟨k + 1, by simp, by omega, (unhide HW).trans (unhide HQ) (by simp)⟩, ?_⟩
      simp [intOf]; omega
end Go.Proofs.Ytbpeeifgfjpghab
