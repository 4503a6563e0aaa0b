/- Copies of tables go their own ways. -/
import Derived.Test.YtkejpbfbpomjfabCCopPZ
namespace Go.Proofs.Ytkejpbfbpomjfab.tre
open Go.RowKit

theorem take_stp {os : List Opm} {k : Nat} {o : Opm} (h : os[k]? = some o) (T : Tb) : (os.take (k + 1)).foldl stp T = stp ((os.take k).foldl stp T) o := by
  rw [List.take_add_one, h]
  simp [List.foldl_append]
theorem take_over {os : List Opm} {k : Nat} (h : os.length ≤ k) (T : Tb) : (os.take k).foldl stp T = os.foldl stp T := by rw [List.take_of_length_le h]
/-- one op of a row that came in, done -/
theorem do_at {w wr : World} {v : Value} {os : List Opm} {b : Nat} {T0 : Tb} {k : Nat} (h : OpsIn w v os) (hk : Kept [] w wr) (hb : w.heap.size ≤ b) (ht : Tab wr b ((os.take k).foldl stp T0)) (hT : Tok T0) (hlt : k < os.length) :
    ∃ a cap sb off ks vs, ∃ o : Opm, v = .slice (some a) os.length cap ∧ a = ⟨sb, off, none⟩ ∧ sb < w.heap.size ∧ w.rangeAt sb (off + k * 4) [.int .i64 o.kind, ks, vs, .int .i64 o.rev] ∧
      ∀ W, Kept [] wr W → Calls Try.prog 15 #[.pointer (some ⟨b, 0, none⟩), .agg #[.int .i64 o.kind, ks, vs, .int .i64 o.rev]] W fun e w' => ∃ d ka kn kc va vn vc r at_ er, e = .returned (.tuple #[.agg #[.bool d, .slice ka kn kc, .slice va vn vc, .int .i64 r, .int .i64 at_], .int .i64 er]) ∧ Tab w' b ((os.take (k + 1)).foldl stp T0) ∧ Kept [b] W w' := by
  obtain ⟨a, cap, rfl, hlen, hall⟩ := h
  obtain ⟨sb, off, ks, vs, rfl, hsb, hrg, hoa, hlk, hlv⟩ := hall k os[k] (List.getElem?_eq_getElem hlt)
  refine ⟨_, cap, sb, off, ks, vs, os[k], rfl, rfl, hsb, hrg, fun W hW => ?_⟩
  have := Do_any (ht.kept hW) (fold_tok (os.take k) T0 hT) (hoa.kept (hk.step hW)) (hlk.free (Nat.le_trans hb (Nat.le_refl _))) (hlv.free (Nat.le_trans hb (Nat.le_refl _)))
  rw [take_stp (List.getElem?_eq_getElem hlt)]
  exact this
set_option maxRecDepth 100000 in
set_option maxHeartbeats 800000 in
theorem copies_any {w : World} {av ov tv : Value} {ahead one two : List Opm} (ha : OpsIn w av ahead) (h1 : OpsIn w ov one) (h2 : OpsIn w tv two) (hlen : ahead.length + one.length + two.length ≤ 1048576) :
    Calls Try.prog 6 #[av, ov, tv] w fun e w' => e = .returned (.bool true) ∧ Kept [] w w' := by
  have HAW := hide (awake_any w)
  have HMD := fun W (hq : Kept [] w W) => hide (made_any ha hq)
  have HA := hide ha
  have H1 := hide h1
  have H2 := hide h2
  obtain ⟨aa, ac, rfl, -, -⟩ := ha
  obtain ⟨oa, oc, rfl, -, -⟩ := h1
  obtain ⟨ta, tc, rfl, -, -⟩ := h2
  obtain ⟨LA, hLA⟩ : ∃ L, ahead.length = L := ⟨_, rfl⟩
  obtain ⟨L1, hL1⟩ : ∃ L, one.length = L := ⟨_, rfl⟩
  obtain ⟨L2, hL2⟩ : ∃ L, two.length = L := ⟨_, rfl⟩
  have HLA := hide hLA
  have HL1 := hide hL1
  have HL2 := hide hL2
  rw [hLA, hL1, hL2] at hlen
  rw [hLA, hL1, hL2]
  rw [hLA] at HMD HA
  rw [hL1] at H1
  rw [hL2] at H2
  have HTA := hide (mkT_tok ahead)
  obtain ⟨Ta, hTa⟩ : ∃ T, mkT ahead = T := ⟨_, rfl⟩
  have HTE := hide hTa
  rw [hTa] at HMD HTA
  clear hLA hL1 hL2 hTa
  go_enter Try.func6, Try.ntmps6
  go_wp2_with (first
    | (go_at_call 8; refine (unhide HAW).mono ?_; rintro e w1 ⟨rfl, hk1⟩; have HK1 := hide hk1; clear hk1)
    | (go_at_call 17; refine (unhide (HMD _ (unhide HK1))).mono ?_; rintro e w2 ⟨b, rfl, ht2, hb2, hk2⟩
       have hb0 : w.heap.size ≤ b := Nat.le_trans (unhide HK1).size hb2
       have HT2 := hide ht2
       have HC2 := hide (copy_any ht2)
       have HK2 := hide ((unhide HK1).step hk2)
       clear ht2 hk2 hb2)
    | (go_at_call 22; refine (unhide HC2).mono ?_; rintro e w3 ⟨b2, rfl, hu3, hb3, hk3⟩
       have hbl3 : b < b2 := by obtain ⟨q0, hbb, -⟩ := unhide HT2; exact Nat.lt_of_lt_of_le hbb.lt hb3
       have HT3 := hide ((unhide HT2).kept hk3)
       have HU3 := hide hu3
       have HK3 := hide ((unhide HK2).step hk3)
       clear hu3 hk3 hb3 HT2 HC2))
  go_loopw [9] (fun i wr => ∃ k : Nat, k ≤ L1 + L2 ∧ i = .int .i64 (k : Int) ∧ Tab wr b ((one.take k).foldl stp Ta) ∧ Tab wr b2 ((two.take k).foldl stp Ta) ∧ Kept [] w wr) (fun i _ => L1 + L2 - (intOf i).toNat)
  case atStart => exact ⟨0, by omega, rfl, unhide HT3, unhide HU3, unhide HK3⟩
  case round =>
    obtain ⟨k, hkL, rfl, ht, hu, hkr⟩ := hrel
    have HT := hide ht
    have HU := hide hu
    have HKR := hide hkr
    clear ht hu hkr
    by_cases hl1 : k < L1
    · have g1 : ((k : Int) < (L1 : Int)) = True := by simp [hl1]
      obtain ⟨oa', oc', sb, off, ks, vs, o, hv, ha', hsb, hrg, hd⟩ := do_at (unhide H1) (unhide HKR) hb0 (unhide HT) (unhide HTA) (by rw [unhide HL1]; exact hl1)
      rw [unhide HL1] at hv
      cases hv
      subst ha'
      have cc : ∀ (j : Nat) (u : Value), [Value.int .i64 o.kind, ks, vs, .int .i64 o.rev][j]? = some u → wr.cell? ⟨sb, off + k * 4 + j, none⟩ = some u := fun j u hj => ((unhide HKR).cell (p := ⟨sb, off + k * 4 + j, none⟩) hsb (by simp)).trans (hrg j u hj)
      have s0 : wr.cell? ⟨sb, off + k * 4, none⟩ = some (.int .i64 o.kind) := cc 0 _ rfl
      have s1 : wr.cell? ⟨sb, off + k * 4 + 1, none⟩ = some ks := cc 1 _ rfl
      have s2 : wr.cell? ⟨sb, off + k * 4 + 2, none⟩ = some vs := cc 2 _ rfl
      have s3 : wr.cell? ⟨sb, off + k * 4 + 3, none⟩ = some (.int .i64 o.rev) := cc 3 _ rfl
      have HD := hide hd
      clear cc hrg hd
      by_cases hl2 : k < L2
      · have g2 : ((k : Int) < (L2 : Int)) = True := by simp [hl2]
        go_wp2_with (first
          | (go_at_call 15; refine (unhide HD _ (Kept.refl [] _)).mono ?_; rintro e w5 ⟨d, ka, kn, kc, va, vn, vc, r, at2, er, rfl, ht5, hk5⟩
             have HT5 := hide ht5
             have HU5 := hide ((unhide HU).keep hk5 (by simp; omega) (unhide HT).off)
             have HK5 := hide (Kept.trans (unhide HKR) hk5 (by simp; exact hb0))
             clear ht5 hk5 HD
             obtain ⟨ta', tc', sb2, off2, ks2, vs2, o2, hv2, ha2', hsb2, hrg2, hd2⟩ := do_at (unhide H2) (unhide HK5) (Nat.le_trans hb0 (Nat.le_of_lt hbl3)) (unhide HU5) (unhide HTA) (by rw [unhide HL2]; exact hl2)
             rw [unhide HL2] at hv2
             cases hv2
             subst ha2'
             have cc : ∀ (j : Nat) (u : Value), [Value.int .i64 o2.kind, ks2, vs2, .int .i64 o2.rev][j]? = some u → w5.cell? ⟨sb2, off2 + k * 4 + j, none⟩ = some u := fun j u hj => ((unhide HK5).cell (p := ⟨sb2, off2 + k * 4 + j, none⟩) hsb2 (by simp)).trans (hrg2 j u hj)
             have z0 : w5.cell? ⟨sb2, off2 + k * 4, none⟩ = some (.int .i64 o2.kind) := cc 0 _ rfl
             have z1 : w5.cell? ⟨sb2, off2 + k * 4 + 1, none⟩ = some ks2 := cc 1 _ rfl
             have z2 : w5.cell? ⟨sb2, off2 + k * 4 + 2, none⟩ = some vs2 := cc 2 _ rfl
             have z3 : w5.cell? ⟨sb2, off2 + k * 4 + 3, none⟩ = some (.int .i64 o2.rev) := cc 3 _ rfl
             have HD2 := hide (hd2 _ (Kept.refl [] _))
             clear cc hrg2 hd2)
          | (go_at_call 15; refine (unhide HD2).mono ?_; rintro e w6 ⟨d6, ka6, kn6, kc6, va6, vn6, vc6, r6, at6, er6, rfl, hu6, hk6⟩
             have HU6 := hide hu6
             have HT6 := hide ((unhide HT5).keep hk6 (by simp; omega) (unhide HU5).off)
             have HK6 := hide (Kept.trans (unhide HK5) hk6 (by simp; exact Nat.le_trans hb0 (Nat.le_of_lt hbl3)))
             clear hu6 hk6 HD2))
        go_roundw
        case rel => exact ⟨k + 1, by omega, by go_num, unhide HT6, unhide HU6, unhide HK6⟩
        case measure => simp [intOf]; omega
      · have g2 : ((k : Int) < (L2 : Int)) = False := by simp; omega
        go_wp2_with (first
          | (go_at_call 15; refine (unhide HD _ (Kept.refl [] _)).mono ?_; rintro e w5 ⟨d, ka, kn, kc, va, vn, vc, r, at2, er, rfl, ht5, hk5⟩
             have HT5 := hide ht5
             have HU5 := hide ((unhide HU).keep hk5 (by simp; omega) (unhide HT).off)
             have HK5 := hide (Kept.trans (unhide HKR) hk5 (by simp; exact hb0))
             clear ht5 hk5 HD))
        go_roundw
        case rel => exact ⟨k + 1, by omega, by go_num, unhide HT5, by rw [take_over (by rw [unhide HL2]; omega)]; have := unhide HU5; rwa [take_over (by rw [unhide HL2]; omega)] at this, unhide HK5⟩
        case measure => simp [intOf]; omega
    · have g1 : ((k : Int) < (L1 : Int)) = False := by simp; omega
      by_cases hl2 : k < L2
      · have g2 : ((k : Int) < (L2 : Int)) = True := by simp [hl2]
        obtain ⟨ta', tc', sb2, off2, ks2, vs2, o2, hv2, ha2', hsb2, hrg2, hd2⟩ := do_at (unhide H2) (unhide HKR) (Nat.le_trans hb0 (Nat.le_of_lt hbl3)) (unhide HU) (unhide HTA) (by rw [unhide HL2]; exact hl2)
        rw [unhide HL2] at hv2
        cases hv2
        subst ha2'
        have cc : ∀ (j : Nat) (u : Value), [Value.int .i64 o2.kind, ks2, vs2, .int .i64 o2.rev][j]? = some u → wr.cell? ⟨sb2, off2 + k * 4 + j, none⟩ = some u := fun j u hj => ((unhide HKR).cell (p := ⟨sb2, off2 + k * 4 + j, none⟩) hsb2 (by simp)).trans (hrg2 j u hj)
        have z0 : wr.cell? ⟨sb2, off2 + k * 4, none⟩ = some (.int .i64 o2.kind) := cc 0 _ rfl
        have z1 : wr.cell? ⟨sb2, off2 + k * 4 + 1, none⟩ = some ks2 := cc 1 _ rfl
        have z2 : wr.cell? ⟨sb2, off2 + k * 4 + 2, none⟩ = some vs2 := cc 2 _ rfl
        have z3 : wr.cell? ⟨sb2, off2 + k * 4 + 3, none⟩ = some (.int .i64 o2.rev) := cc 3 _ rfl
        have HD2 := hide (hd2 _ (Kept.refl [] _))
        clear cc hrg2 hd2
        go_wp2_with (first
          | (go_at_call 15; refine (unhide HD2).mono ?_; rintro e w6 ⟨d6, ka6, kn6, kc6, va6, vn6, vc6, r6, at6, er6, rfl, hu6, hk6⟩
             have HU6 := hide hu6
             have HT6 := hide ((unhide HT).keep hk6 (by simp; omega) (unhide HU).off)
             have HK6 := hide (Kept.trans (unhide HKR) hk6 (by simp; exact Nat.le_trans hb0 (Nat.le_of_lt hbl3)))
             clear hu6 hk6 HD2))
        go_roundw
        case rel => exact ⟨k + 1, by omega, by go_num, by rw [take_over (by rw [unhide HL1]; omega)]; have := unhide HT6; rwa [take_over (by rw [unhide HL1]; omega)] at this, unhide HU6, unhide HK6⟩
        case measure => simp [intOf]; omega
      · have g2 : ((k : Int) < (L2 : Int)) = False := by simp; omega
        have ht1 := unhide HT
        have hu1 := unhide HU
        rw [take_over (by rw [unhide HL1]; omega), ← unhide HTE, ← fold_app] at ht1
        rw [take_over (by rw [unhide HL2]; omega), ← unhide HTE, ← fold_app] at hu1
        obtain ⟨P1, hP1⟩ : ∃ P, mkT (ahead ++ one) = P := ⟨_, rfl⟩
        obtain ⟨P2, hP2⟩ : ∃ P, mkT (ahead ++ two) = P := ⟨_, rfl⟩
        have hk1 : Tok P1 := hP1 ▸ mkT_tok _
        have hk2 : Tok P2 := hP2 ▸ mkT_tok _
        have hr1 : P1.rev ≤ 2097152 := by have := mkT_rev (ahead ++ one); rw [hP1, List.length_append, unhide HLA, unhide HL1] at this; omega
        have hr2 : P2.rev ≤ 2097152 := by have := mkT_rev (ahead ++ two); rw [hP2, List.length_append, unhide HLA, unhide HL2] at this; omega
        have hz1 := size_le_tok hk1 hr1
        have hz2 := size_le_tok hk2 hr2
        have hf1 := tblF_len P1
        have hf2 := tblF_len P2
        rw [hP1] at ht1
        rw [hP2] at hu1
        have HB1 : Hid (∀ W c, Tab W c P1 → Calls Try.prog 16 #[.pointer (some ⟨c, 0, none⟩)] W fun e w' => ∃ a cap, e = .returned (.slice a (tblF P1).length cap) ∧ w'.ownsRow W.heap.size 5 1 (.slice a (tblF P1).length cap) (tblF P1).length (u8s (tblF P1)) ∧ Kept [] W w') := fun W c h => bytes_any h hk1 hz1
        have HB2 : Hid (∀ W c, Tab W c P2 → Calls Try.prog 16 #[.pointer (some ⟨c, 0, none⟩)] W fun e w' => ∃ a cap, e = .returned (.slice a (tblF P2).length cap) ∧ w'.ownsRow W.heap.size 5 1 (.slice a (tblF P2).length cap) (tblF P2).length (u8s (tblF P2)) ∧ Kept [] W w') := fun W c h => bytes_any h hk2 hz2
        rw [← hf1] at hz1
        rw [← hf2] at hz2
        generalize tblF P1 = F1 at *
        generalize tblF P2 = F2 at *
        have HT1 := hide ht1
        have HU1 := hide hu1
        have HP1 := hide hP1
        have HP2 := hide hP2
        obtain ⟨N1, hN1⟩ : ∃ N, LA + L1 = N := ⟨_, rfl⟩
        obtain ⟨N2, hN2⟩ : ∃ N, LA + L2 = N := ⟨_, rfl⟩
        have HNA : Hid (0 + ahead.length = LA) := hide (by rw [Nat.zero_add]; exact unhide HLA)
        have HLL1 : Hid (LA ≤ 1099511627776) := hide (by omega)
        have HNx : Hid (LA + one.length = N1) := hide (by rw [unhide HL1]; exact hN1)
        have HLLx : Hid (N1 ≤ 1099511627776) := hide (by omega)
        have HNy : Hid (LA + two.length = N2) := hide (by rw [unhide HL2]; exact hN2)
        have HLLy : Hid (N2 ≤ 1099511627776) := hide (by omega)
        have HAx := hide ((unhide HA).kept (unhide HKR))
        have HOx := hide ((unhide H1).kept (unhide HKR))
        clear ht1 hu1 hP1 hP2 hk1 hk2 hr1 hr2 hf1 hf2 hN1 hN2 HT HU
        go_wp2_with (first
          | (at_builtin; refine wpList_append_ops (w0 := wr) _ rfl (.tmp 58) (.tmp 59) rfl (l := []) rfl (hide ((Kept.refl [] wr).alloc (.cells #[] 36))) (hide (own_nilO (w1 := wr) (Nat.le_refl _))) rfl HAx LA HNA HLL1 ?_
             intro a1 c1 wA l1 hl1 ho1 hk1
             have HX1 := hide (unhide hl1)
             have HO1 : Hid (wA.ownsRow wr.heap.size 36 4 (.slice a1 LA c1) LA (flatO l1)) := ho1
             have HKA := hide (unhide hk1)
             clear hl1 ho1 hk1)
          | (at_builtin; refine wpList_append_ops (w0 := wr) _ rfl (.tmp 60) (.tmp 61) rfl (l := l1) rfl HKA HO1 rfl HOx N1 HNx HLLx ?_
             intro a2 c2 wB l2 hl2 ho2 hk2
             have HOI : Hid (OpsIn wB (.slice a2 N1 c2) (ahead ++ one)) := hide (by
               have h9 := ops_own (unhide ho2) (by rw [List.length_append]; have h7 := congrArg List.length (unhide HX1).1; have h8 := congrArg List.length (unhide hl2).1; rw [List.length_map] at h7 h8; have := unhide HLA; have := unhide HNx; omega) (fun e he => by rcases List.mem_append.1 he with h | h; exact (unhide HX1).2 e h; exact (unhide hl2).2 e h) (unhide hk2)
               rw [List.map_append, (unhide HX1).1, (unhide hl2).1] at h9
               exact h9)
             have HM := hide (made_any (unhide HOI) (Kept.refl [] wB))
             have HKB := hide (unhide hk2)
             clear hl2 ho2 hk2 HX1 HO1 HKA)
          | (go_at_call 17; refine (unhide HM).mono ?_; rintro e w5 ⟨b5, rfl, hb5, hbb5, hkb5⟩
             have HTb5 := hide hb5
             have HKw5 := hide ((unhide HKB).step hkb5)
             have HAy := hide ((unhide HAx).kept (unhide HKw5)); have HOy := hide ((unhide H2).kept ((unhide HKR).step (unhide HKw5))); have HT5 := hide ((unhide HT1).kept (unhide HKw5)); have HU5 := hide ((unhide HU1).kept (unhide HKw5)); have HK5 := hide ((unhide HKR).step (unhide HKw5))
             clear hb5 hbb5 hkb5 HM HKB HOI)
          | (at_builtin; refine wpList_append_ops (w0 := w5) _ rfl (.tmp 64) (.tmp 65) rfl (l := []) rfl (hide ((Kept.refl [] w5).alloc (.cells #[] 36))) (hide (own_nilO (w1 := w5) (Nat.le_refl _))) rfl HAy LA HNA HLL1 ?_
             intro a1 c1 wA l1 hl1 ho1 hk1
             have HX1 := hide (unhide hl1)
             have HO1 : Hid (wA.ownsRow w5.heap.size 36 4 (.slice a1 LA c1) LA (flatO l1)) := ho1
             have HKA := hide (unhide hk1)
             clear hl1 ho1 hk1)
          | (at_builtin; refine wpList_append_ops (w0 := w5) _ rfl (.tmp 66) (.tmp 67) rfl (l := l1) rfl HKA HO1 rfl HOy N2 HNy HLLy ?_
             intro a2 c2 wB l2 hl2 ho2 hk2
             have HOI : Hid (OpsIn wB (.slice a2 N2 c2) (ahead ++ two)) := hide (by
               have h9 := ops_own (unhide ho2) (by rw [List.length_append]; have h7 := congrArg List.length (unhide HX1).1; have h8 := congrArg List.length (unhide hl2).1; rw [List.length_map] at h7 h8; have := unhide HLA; have := unhide HNy; omega) (fun e he => by rcases List.mem_append.1 he with h | h; exact (unhide HX1).2 e h; exact (unhide hl2).2 e h) (unhide hk2)
               rw [List.map_append, (unhide HX1).1, (unhide hl2).1] at h9
               exact h9)
             have HM := hide (made_any (unhide HOI) (Kept.refl [] wB))
             have HKB := hide (unhide hk2)
             clear hl2 ho2 hk2 HX1 HO1 HKA)
          | (go_at_call 17; refine (unhide HM).mono ?_; rintro e w6 ⟨b6, rfl, hb6, hbb6, hkb6⟩
             have HTb6 := hide hb6
             have HKw6 := hide ((unhide HKB).step hkb6)
             have HT6 := hide ((unhide HT5).kept (unhide HKw6)); have HU6 := hide ((unhide HU5).kept (unhide HKw6)); have HV6 := hide ((unhide HTb5).kept (unhide HKw6)); have HK6 := hide ((unhide HK5).step (unhide HKw6))
             clear hb6 hbb6 hkb6 HM HKB HOI))
        have HA7 := hide (unhide HB1 w6 b (unhide HT6))
        have hv6 := unhide HV6
        rw [unhide HP1] at hv6
        have HV7 := hide hv6
        have hw6 := unhide HTb6
        rw [unhide HP2] at hw6
        have HW7 := hide hw6
        clear hv6 hw6 HV6 HTb6 HT6
        go_wp2_with (first
          | (go_at_call 16; refine (unhide HA7).mono ?_; rintro e w7 ⟨a7, c7, rfl, ho7, hk7⟩
             have HS7 := hide (Sees.of_own ho7)
             have HC7 := hide (unhide HB1 w7 b5 ((unhide HV7).kept hk7))
             have HU7 := hide ((unhide HU6).kept hk7)
             have HW8 := hide ((unhide HW7).kept hk7)
             have HK7 := hide ((unhide HK6).step hk7)
             clear ho7 hk7 HA7 HV7 HU6 HW7)
          | (go_at_call 16; refine (unhide HC7).mono ?_; rintro e w8 ⟨a8, c8, rfl, ho8, hk8⟩
             have HSM := hide (same_full (Or.inl ((unhide HS7).kept hk8 (by simp))) (Or.inl (Sees.of_own ho8)) (by omega))
             have HU8 := hide ((unhide HU7).kept hk8)
             have HW9 := hide ((unhide HW8).kept hk8)
             have HK8 := hide ((unhide HK7).step hk8)
             clear ho8 hk8 HC7 HU7 HW8 HS7)
          | (go_at_call 12; refine (unhide HSM).mono ?_; simp only [decide_true]; rintro e w9 ⟨rfl, hk9⟩
             have HA9 := hide (unhide HB2 w9 b2 ((unhide HU8).kept hk9))
             have HX9 := hide ((unhide HW9).kept hk9)
             have HK9 := hide ((unhide HK8).step hk9)
             clear hk9 HSM HU8 HW9)
          | (go_at_call 16; refine (unhide HA9).mono ?_; rintro e w10 ⟨a10, c10, rfl, ho10, hk10⟩
             have HS10 := hide (Sees.of_own ho10)
             have HC10 := hide (unhide HB2 w10 b6 ((unhide HX9).kept hk10))
             have HK10 := hide ((unhide HK9).step hk10)
             clear ho10 hk10 HA9 HX9)
          | (go_at_call 16; refine (unhide HC10).mono ?_; rintro e w11 ⟨a11, c11, rfl, ho11, hk11⟩
             have HSN := hide (same_full (Or.inl ((unhide HS10).kept hk11 (by simp))) (Or.inl (Sees.of_own ho11)) (by omega))
             have HK11 := hide ((unhide HK10).step hk11)
             clear ho11 hk11 HC10 HS10)
          | (go_at_call 12; refine (unhide HSN).mono ?_; simp only [decide_true]; rintro e w12 ⟨rfl, hk12⟩
             have HK12 := hide ((unhide HK11).step hk12)
             clear hk12 HSN))
        go_ret
        exact ⟨rfl, unhide HK12⟩
end Go.Proofs.Ytkejpbfbpomjfab.tre
