/- JumpGrows, walked. -/
import Derived.Test.YtiafnfjgmfnnoaaJGrowP
import Derived.Deep.DeepCutAuto
import Derived.Deep.RegionHeld3
namespace Go.Proofs.Ytiafnfjgmfnnoaa
open Go.RowKit Go.Sort Go.Shelf

theorem wf_true {ws : List Int} {k : Nat} (h : wf ws k = true) : 1 ≤ ws.getD k 0 ∧ ws.getD k 0 ≤ 64 := of_decide_eq_true h
theorem wf_false {ws : List Int} {k : Nat} (h : wf ws k = false) : ¬ (1 ≤ ws.getD k 0 ∧ ws.getD k 0 ≤ 64) := of_decide_eq_false h

set_option maxRecDepth 100000 in
set_option maxHeartbeats 4000000 in
theorem grows_walk {w : World} {v : Value} {ws : List Int} (hs : SeesI w v ws) (h : Nat) (who x : Int) (hh : h < 18446744073709551616) :
    Calls Try.prog 8 #[.int .u64 h, v, .int .i64 who, .int .i64 x] w fun e w' => e = .returned (.bool true) ∧ Kept [] w w' := by
  have HKN := hide (known_any w)
  have HS := hide hs
  obtain ⟨p, pc, hp, -, hpm, -⟩ := hs
  subst hp
  by_cases hL : ws.length > 4096
  · have t0 : ((ws.length : Int) > 4096) = True := by simp; omega
    generalize ws.length = L at *
    go_enter Try.func8, Try.ntmps8
    go_wp2_with (first
      | (go_at_call 28; refine (unhide HKN).mono ?_; rintro e w1 ⟨rfl, hk1⟩; have HK := hide hk1; clear hk1))
    go_ret
    exact ⟨rfl, unhide HK⟩
  · have hL2 : ws.length ≤ 4096 := by omega
    obtain ⟨i0, hi, hz0, hz1, hz2⟩ := info_parts info3p
    have HI := hide (⟨hi, hz0, hz1, hz2⟩ : _ ∧ _ ∧ _ ∧ _)
    clear hi hz0 hz1 hz2
    have HCO := hide (fun i hi => grows_count (h := h) (ws := ws) (by omega) (i := i) hi)
    have HOR := hide (fun j hj => grows_order (h := h) (ws := ws) (by omega) (j := j) hj)
    have HWO := hide (fun q => grows_wout (h := h) (ws := ws) (q := q) x hL2)
    have HPL := hide (fun q hq a b c d => grows_place (h := h) (ws := ws) (q := q) (x := x) hL2 hq a b c d)
    have hBL := rankOf_length h ws
    have HRW := hide (fun q => rowWith_length ws q x)
    have HRK : Hid (∀ (wx : World) (v : Value) (l : List Int), SeesI wx v l → Calls Try.prog 25 #[.int .u64 h, v] wx fun e w' => ∃ a cap, e = .returned (.slice a (rankOf h l).length cap) ∧ SeesI w' (.slice a (rankOf h l).length cap) (rankOf h l) ∧ Kept [] wx w') := fun wx v l hv =>
      (rank_any hv h hh).mono fun e w' ⟨a, cap, he, ho, hk⟩ => ⟨a, cap, he, SeesI.of_own ho, hk⟩
    have HSC := hide (fun w s wt => score_any w h s wt hh)
    have t0 : ((ws.length : Int) > 4096) = False := by simp; omega
    generalize hLL : ws.length = L at *
    have HL := hide hLL
    clear hLL hL
    generalize hBB : rankOf h ws = B at *
    have HBB := hide hBB
    clear hBB
    generalize hBLn : B.length = BL at *
    have HBL := hide hBLn
    clear hBLn
    go_enter Try.func8, Try.ntmps8
    go_wp2_with fail
    refine (unhide HKN).mono ?_
    rintro e w1 ⟨rfl, hk1⟩
    have HK1 := hide hk1
    clear hk1 HKN
    go_wp2_with (at_builtin; refine wpList_twinI (w0 := w) rfl _ _ 25 rfl i0 Try.underlying25 (unhide HI).1 (unhide HI).2.1 (unhide HI).2.2.1 (unhide HI).2.2.2 rfl _ ws rfl (unhide HK1) (unhide HS) L (unhide HL) (by omega) ?_)
    intro a2 c2 w2 ho2 hk2
    have HS2 : Hid (SeesI w2 (.slice a2 L c2) ws) := by
      have h9 := ho2
      rw [← unhide HL] at h9
      have := SeesI.of_own h9
      rw [unhide HL] at this
      exact this
    have HK2 : Hid (Kept [] w w2) := (unhide HK1).trans hk2 (by simp)
    clear ho2 hk2 HK1
    go_wp2_with fail
    refine (unhide HRK _ _ ws (unhide HS2)).mono ?_
    rw [unhide HBB, unhide HBL]
    rintro e w3 ⟨a3, c3, rfl, hs3, hk3⟩
    have HS3 := hide hs3
    have HK3 : Hid (Kept [] w w3) := (unhide HK2).trans hk3 (by simp)
    have HWS : Hid (SeesI w3 (.slice p L pc) ws) := (unhide HS).kept (unhide HK3) (Or.inr (by simp))
    clear hs3 hk3 HK2 HS2 HS
    go_wp2_with fail
    go_loopw [10] (fun i wr => ∃ k : Nat, k ≤ L ∧ i = .int .i64 k ∧ Kept [] w3 wr) (fun i _ => L - (intOf i).toNat)
    case atStart => exact ⟨0, by omega, rfl, Kept.refl _ _⟩
    case round =>
      obtain ⟨k, hk, rfl, hkp⟩ := hrel
      have HK := hide hkp
      clear hkp
      by_cases hkl : k < L
      · have hWO := without_any ((unhide HS3).kept (unhide HK) (Or.inr (by simp))) (by rw [unhide HBL]; omega) (k : Int)
        have HWX := hide hWO
        clear hWO
        have hcnt := unhide HCO k hkl
        obtain ⟨a', c', hv, -, -, h4⟩ := unhide HWS
        have hv1 : a' = p := by cases hv; rfl
        subst hv1
        obtain ⟨b, off, hpa, hc⟩ := at_int (k := k) (unhide HL) h4 hkl
        have hbw : b < w3.heap.size := by
          rcases h4 with h5 | ⟨b5, o5, h6, h7, _⟩
          · have := unhide HL; rw [h5] at this; simp at this; omega
          · rw [hpa] at h6; cases h6; exact h7
        subst hpa
        clear hv h4
        have t1 : (k : Int) < (L : Int) := by omega
        generalize hwl : (wout B (k : Int)).length = WL at *
        clear hwl
        cases hf : wf ws k with
        | true =>
          obtain ⟨x1, x2⟩ := wf_true hf
          rw [hf, if_pos rfl] at hcnt
          have hsub : (BL : Int) - (WL : Int) = 1 := by omega
          clear hcnt hf
          generalize ws.getD k 0 = y at *
          go_wp2_with fail
          refine (unhide HWX).mono ?_
          rintro e w4 ⟨a4, c4, rfl, -, hk4⟩
          have hc4 : w4.cell? ⟨b, off + k, none⟩ = some (.int .i64 y) := (((unhide HK).trans hk4 (by simp)).cell (p := ⟨b, off + k, none⟩) hbw (by simp)).trans hc
          have HK4 : Hid (Kept [] w3 w4) := (unhide HK).trans hk4 (by simp)
          clear hk4 hc
          go_wp2
          exact ⟨⟨k + 1, by omega, by simp, unhide HK4⟩, by simp [intOf]; omega⟩
        | false =>
          have xn := wf_false hf
          rw [hf, if_neg (by simp)] at hcnt
          have hsub : (BL : Int) - (WL : Int) = 0 := by omega
          clear hcnt hf
          generalize ws.getD k 0 = y at *
          go_wp2_with fail
          refine (unhide HWX).mono ?_
          rintro e w4 ⟨a4, c4, rfl, -, hk4⟩
          have hc4 : w4.cell? ⟨b, off + k, none⟩ = some (.int .i64 y) := (((unhide HK).trans hk4 (by simp)).cell (p := ⟨b, off + k, none⟩) hbw (by simp)).trans hc
          have HK4 : Hid (Kept [] w3 w4) := (unhide HK).trans hk4 (by simp)
          clear hk4 hc
          by_cases x1 : 1 ≤ y
          · have x2 : ¬ y ≤ 64 := fun e => xn ⟨x1, e⟩
            clear xn
            go_wp2
            exact ⟨⟨k + 1, by omega, by simp, unhide HK4⟩, by simp [intOf]; omega⟩
          · clear xn
            go_wp2
            exact ⟨⟨k + 1, by omega, by simp, unhide HK4⟩, by simp [intOf]; omega⟩
      · obtain rfl : k = L := by omega
        have t1 : ((k : Int) < (k : Int)) = False := by simp
        clear HCO
        go_wp2_with fail
        go_loopw [12] (fun i wr => ∃ j : Nat, j ≤ BL ∧ i = .int .i64 j ∧ Kept [] w3 wr) (fun i _ => BL - (intOf i).toNat)
        case atStart => exact ⟨0, by omega, rfl, unhide HK⟩
        case round =>
          obtain ⟨j, hj, rfl, hkp⟩ := hrel
          clear HK
          have HK := hide hkp
          clear hkp
          by_cases hjl : j < BL
          · obtain ⟨s, hs1, hs2, hs3⟩ := unhide HOR j hjl
            obtain ⟨a', c', hv, -, -, h4⟩ := unhide HWS
            have hv1 : a' = p := by cases hv; rfl
            subst hv1
            obtain ⟨b, off, hpa, hc⟩ := at_int (k := s) (unhide HL) h4 hs2
            have HCW : Hid (∀ q, q < k → wr.cell? ⟨b, off + q, none⟩ = some (.int .i64 (ws.getD q 0))) := by
              intro q hq
              rcases h4 with h5 | ⟨b5, o5, h6, h7, h8⟩
              · have := unhide HL; rw [h5] at this; simp at this; omega
              · rw [hpa] at h6; cases h6
                rw [(unhide HK).cell (p := ⟨b, off + q, none⟩) h7 (by simp)]
                exact h8 q (by rw [unhide HL]; exact hq)
            subst hpa
            clear hv h4 hc
            obtain ⟨a9, c9, hv9, -, -, h9⟩ := unhide HS3
            have hv2 : a9 = a3 := by cases hv9; rfl
            subst hv2
            obtain ⟨b9, off9, hpa9, hc9⟩ := at_int (k := j) (unhide HBL) h9 hjl
            have HCB : Hid (∀ q, q < BL → wr.cell? ⟨b9, off9 + q, none⟩ = some (.int .i64 (B.getD q 0))) := by
              intro q hq
              rcases h9 with h5 | ⟨b5, o5, h6, h7, h8⟩
              · have := unhide HBL; rw [h5] at this; simp at this; omega
              · rw [hpa9] at h6; cases h6
                rw [(unhide HK).cell (p := ⟨b9, off9 + q, none⟩) h7 (by simp)]
                exact h8 q (by rw [unhide HBL]; exact hq)
            subst hpa9
            clear hv9 h9 hc9
            have u1 : ((j : Int) < (BL : Int)) = True := by simp; omega
            have hcj := unhide HCB j hjl
            rw [hs1] at hcj
            have u2 : ((s : Int) < 0) = False := by simp
            have u3 : ((k : Int) ≤ (s : Int)) = False := by simp; omega
            by_cases hj0 : j = 0
            · subst hj0
              rw [Nat.add_zero] at hcj
              go_wp2
              exact ⟨⟨1, by omega, by simp, unhide HK⟩, by simp [intOf]; omega⟩
            · obtain ⟨i, hi⟩ : ∃ i, j = i + 1 := ⟨j - 1, by omega⟩
              obtain ⟨q, g1, g2, g3, g4⟩ := hs3 i (by omega)
              have hci := unhide HCB i (by omega)
              rw [g1] at hci
              have hcq := unhide HCW q g2
              have hcs := unhide HCW s hs2
              have HCC : Hid (∀ wx, Kept [] w3 wx → wx.cell? ⟨b9, off9 + i, none⟩ = some (.int .i64 (q : Int)) ∧ wx.cell? ⟨b, off + q, none⟩ = some (.int .i64 (ws.getD q 0)) ∧ wx.cell? ⟨b, off + s, none⟩ = some (.int .i64 (ws.getD s 0))) := by
                intro wx hkx
                obtain ⟨_, _, hvv, -, -, hh4⟩ := unhide HWS
                obtain ⟨_, _, hvv9, -, -, hh9⟩ := unhide HS3
                cases hvv; cases hvv9
                obtain ⟨bb, oo, hbb, hcc⟩ := at_int (k := q) rfl hh4 (by rw [unhide HL]; exact g2)
                cases hbb
                obtain ⟨_, _, hbb2, hcc2⟩ := at_int (k := s) rfl hh4 (by rw [unhide HL]; exact hs2)
                cases hbb2
                obtain ⟨_, _, hbb3, hcc3⟩ := at_int (k := i) rfl hh9 (by rw [unhide HBL]; omega)
                cases hbb3
                have z1 : b < w3.heap.size := by
                  rcases hh4 with h5 | ⟨b5, o5, h6, h7, h8⟩
                  · have := congrArg List.length h5; simp at this; rw [this] at g2; simp at g2
                  · cases h6; exact h7
                have z2 : b9 < w3.heap.size := by
                  rcases hh9 with h5 | ⟨b5, o5, h6, h7, h8⟩
                  · have := congrArg List.length h5; simp at this; rw [this] at hjl; simp at hjl
                  · cases h6; exact h7
                rw [hkx.cell (p := ⟨b9, off9 + i, none⟩) z2 (by simp), hkx.cell (p := ⟨b, off + q, none⟩) z1 (by simp), hkx.cell (p := ⟨b, off + s, none⟩) z1 (by simp)]
                exact ⟨by rw [hcc3, g1], hcc, hcc2⟩
              have HSq : Hid (∀ wx, Kept [] w3 wx → Calls Try.prog 22 #[.int .u64 h, .int .i64 (q : Int), .int .i64 (ws.getD q 0)] wx fun e w' => e = .returned (.int .u64 (score h q (ws.getD q 0) : Nat)) ∧ Kept [] w3 w' ∧ w'.cell? ⟨b9, off9 + i, none⟩ = some (.int .i64 (q : Int)) ∧ w'.cell? ⟨b, off + q, none⟩ = some (.int .i64 (ws.getD q 0)) ∧ w'.cell? ⟨b, off + s, none⟩ = some (.int .i64 (ws.getD s 0))) := fun wx hkx => (unhide HSC wx q (ws.getD q 0)).mono fun e w' ⟨he, hk'⟩ => ⟨he, hkx.trans hk' (by simp), unhide HCC w' (hkx.trans hk' (by simp))⟩
              have HSs : Hid (∀ wx, Kept [] w3 wx → Calls Try.prog 22 #[.int .u64 h, .int .i64 (s : Int), .int .i64 (ws.getD s 0)] wx fun e w' => e = .returned (.int .u64 (score h s (ws.getD s 0) : Nat)) ∧ Kept [] w3 w' ∧ w'.cell? ⟨b9, off9 + i, none⟩ = some (.int .i64 (q : Int)) ∧ w'.cell? ⟨b, off + q, none⟩ = some (.int .i64 (ws.getD q 0)) ∧ w'.cell? ⟨b, off + s, none⟩ = some (.int .i64 (ws.getD s 0))) := fun wx hkx => (unhide HSC wx s (ws.getD s 0)).mono fun e w' ⟨he, hk'⟩ => ⟨he, hkx.trans hk' (by simp), unhide HCC w' (hkx.trans hk' (by simp))⟩
              generalize score h q (ws.getD q 0) = yq at *
              generalize score h s (ws.getD s 0) = ys at *
              generalize ws.getD q 0 = xq at *
              generalize ws.getD s 0 = xs at *
              subst hi
              clear hs3 hj0 HCC HOR u1
              have v1 : ((i : Int) + 1 < (BL : Int)) = True := by simp; omega
              have v2 : ((i : Int) + 1 == 0) = false := by simp; omega
              have v3 : ((i : Int) + 1).toNat = i + 1 := by omega
              have v4 : ((0 : Int) ≤ (i : Int) + 1) = True := by simp; omega
              have v5 : ((i : Int) < (BL : Int)) = True := by simp; omega
              have v6 : ((q : Int) < (k : Int)) = True := by simp; omega
              have v7 : ((s : Int) < (k : Int)) = True := by simp; omega
              have v8 : IntKind.i64.wrap (i : Int) = (i : Int) := by rw [IntKind.wrap_i64]; omega
              have v9 : IntKind.i64.wrap ((i : Int) + 1 - 1) = (i : Int) := by rw [IntKind.wrap_i64]; omega
              have v10 : IntKind.i64.wrap (((i + 1 : Nat) : Int) - 1) = (i : Int) := by rw [IntKind.wrap_i64]; omega
              have v11 : (0 : Int) ≤ (i : Int) := by omega
              have v12 : (i : Int) < (BL : Int) := by omega
              have v13 : (q : Int) < (k : Int) := by omega
              have v14 : (s : Int) < (k : Int) := by omega
              have G := hide (⟨g3, g4⟩ : _ ∧ _)
              clear g1 g3 g4 hs1
              have HKD : Hid (Kept [] w3 wr.drew) := (unhide HK).drew
              go_wp2_with fail
              go_region_held3 (fun w' => w'.cell? ⟨b9, off9 + i, none⟩ = some (.int .i64 (q : Int)) ∧ w'.cell? ⟨b, off + q, none⟩ = some (.int .i64 xq) ∧ w'.cell? ⟨b, off + s, none⟩ = some (.int .i64 xs)) (go_keep) (first
                | (go_at_call_of 22 (Value.int .i64 xq); refine (unhide HSq _ (unhide HKD)).mono ?_; rintro e w4 ⟨rfl, hk4, d1, d2, d3⟩; have HK4 := hide hk4; clear hk4)
                | (go_at_call_of 22 (Value.int .i64 xs); refine (unhide HSs _ (unhide HK4)).mono ?_; rintro e w5 ⟨rfl, hk5, d4, d5, d6⟩; have HK5 := hide hk5; clear hk5))
              obtain ⟨g3, g4⟩ := unhide G
              have y1 : ((yq : Int) < (ys : Int)) = False := by simp; omega
              by_cases heq : yq = ys
              · have y2 : ((s : Int) ≤ (q : Int)) = False := by have := g4 heq; simp; omega
                subst heq
                clear g3 g4 G v8 v9 v10 v13 v14
                go_wp2
                exact ⟨⟨i + 1 + 1, by omega, by simp, unhide HK5⟩, by simp [intOf]; omega⟩
              · have y2 : ((yq : Int) == (ys : Int)) = false := by simp; omega
                clear g3 g4 G v8 v9 v10 v13 v14 heq
                go_wp2
                exact ⟨⟨i + 1 + 1, by omega, by simp, unhide HK5⟩, by simp [intOf]; omega⟩
          · obtain rfl : j = BL := by omega
            have u1 : ((j : Int) < (j : Int)) = False := by simp
            refine world_at (R := fun W => Kept [] w3 W) (unhide HK) ?_
            clear HK
            intro W hkW
            have HKW := hide hkW
            clear hkW HOR
            by_cases hw0 : who < 0
            · have HKE : Hid (Kept [] w W) := (unhide HK3).trans (unhide HKW) (by simp)
              go_wp2
              go_ret
              exact ⟨rfl, unhide HKE⟩
            by_cases hw1 : who > (k : Int)
            · have HKE : Hid (Kept [] w W) := (unhide HK3).trans (unhide HKW) (by simp)
              go_wp2
              go_ret
              exact ⟨rfl, unhide HKE⟩
            obtain ⟨q, rfl⟩ := Int.eq_ofNat_of_zero_le (show 0 ≤ who by omega)
            have hqk : q ≤ k := by omega
            have u2 : ((q : Int) < 0) = False := by simp
            have u3 : ((k : Int) < (q : Int)) = False := by simp; omega
            clear hw0 hw1
            go_wp2_with (at_builtin; refine wpList_twinI (w0 := w3) rfl _ _ 25 rfl i0 Try.underlying25 (unhide HI).1 (unhide HI).2.1 (unhide HI).2.2.1 (unhide HI).2.2.2 rfl _ ws rfl (unhide HKW) (unhide HWS) k (unhide HL) (by omega) ?_)
            intro a5 c5 w5 ho5 hk5
            have HO5 := hide ho5
            have HWS3 : Hid (w3.heap.size ≤ W.heap.size) := (unhide HKW).size
            have HWW : Hid (W.heap.size ≤ w5.heap.size) := hk5.size
            have HK5 : Hid (Kept [] w3 w5) := (unhide HKW).trans hk5 (by simp)
            clear ho5 hk5 HKW
            obtain ⟨R, hR⟩ : ∃ R, rowWith ws q x = R := ⟨_, rfl⟩
            have HR := hide hR
            have HWQ := hide (unhide HWO q)
            have HPQ := hide (unhide HPL q hqk)
            have hRL : R.length ≤ 65536 := by
              have := unhide HRW q
              rw [hR] at this
              rw [this]
              split <;> omega
            rw [unhide HR] at HWQ HPQ
            clear hR HWO HPL HRW
            generalize hRN : R.length = RN at *
            have HRN := hide hRN
            clear hRN
            go_upto_if 135 with fail
            go_cut [16, 17] (fun r t wc => ∃ a c, r = .slice a RN c ∧ SeesI wc (.slice a RN c) R ∧ t = .int .i64 (ws.getD q 0) ∧ Hid (Kept [] w3 wc))
            case first =>
              by_cases hq : q = k
              · have e1 : ws.getD q 0 = 0 := by rw [List.getD, List.getElem?_eq_none (by rw [unhide HL]; omega)]; rfl
                have e2 : R = ws ++ [x] := by rw [← unhide HR]; unfold rowWith; rw [if_pos (by rw [unhide HL]; exact hq)]
                have e3 : RN = k + 1 := by rw [← unhide HRN, e2, List.length_append, unhide HL]; rfl
                have HE := hide (⟨e1, e2, e3⟩ : _ ∧ _ ∧ _)
                clear e1 e2 e3
                subst hq
                have HWb : Hid (W.heap.size ≤ w5.heap.size) := by
                  rcases (unhide HO5).2 with ⟨hv, h0⟩ | ⟨g, cap, cur, hv, hg, hb, _⟩
                  · have := (unhide HK5).size; unfold Hid; exact unhide HWW
                  · have := (Array.getElem?_eq_some_iff.1 hb).1; unfold Hid; omega
                go_wp2_with (first
                  | (at_builtin; refine wpList_append_own_at _ rfl _ _ 25 rfl W.heap.size 3 i0 (.int .i64 0) 1 8 Try.underlying25 (unhide HI).1 (unhide HI).2.1 (unhide HI).2.2.1 (unhide HI).2.2.2 rfl (by decide) _ _ _ rfl ((unhide HO5).alloc _) ⟨w5.heap.size, 0, none⟩ 1 1 [.int .i64 x] rfl rfl (cell_one_new _ _ _) (ints_oneCell .i64 [x]) (by unfold maxLen; omega) (by omega) (by have := unhide HWb; rw [World.size_alloc]; omega) ?_))
                intro v' w6 hown' hgrow hnil hloc
                obtain ⟨va, vc, rfl⟩ := own_len hown'
                have HS6 : Hid (SeesI w6 (.slice va RN vc) R) := by
                  obtain ⟨e1, e2, e3⟩ := unhide HE
                  have h9 : w6.ownsRow W.heap.size 3 1 (.slice va (q + 1) vc) (ws ++ [x]).length (ints (ws ++ [x])) := by
                    rw [List.length_append, unhide HL, ints_append]; exact hown'
                  have := SeesI.of_own h9
                  unfold Hid
                  rw [e3, e2]
                  exact this
                have HK6 : Hid (Kept [] w3 w6) := ((unhide HK5).alloc _).grown hgrow (fun k hk => Or.inr (Nat.le_trans (unhide HWS3) ((unhide HO5).lt k hk).1))
                clear hown' hgrow hnil hloc
                go_wp2_with fail
                go_meet
                case rel =>
                  obtain ⟨e1, e2, e3⟩ := unhide HE
                  exact ⟨va, vc, by rw [e3], unhide HS6, by rw [e1], HK6⟩
              · have hqk2 : q < k := by omega
                obtain ⟨g, ga, hgv, hgb, hgl, -, -⟩ := rowI_of_own (unhide HO5) (by omega)
                have e1 : a5 = some ⟨g, 0, none⟩ := by cases hgv; rfl
                subst e1
                have e4 : ga = c5 := by cases hgv; rfl
                subst e4
                clear hgv
                have hcq := ownI_cell (unhide HO5) (k := q) (by rw [unhide HL]; exact hqk2)
                have hfq := ownI_frozen (unhide HO5) q
                have e2 : R = ws.set q x := by rw [← unhide HR]; unfold rowWith; rw [if_neg (by rw [unhide HL]; exact hq)]
                have e3 : RN = k := by rw [← unhide HRN, e2, List.length_set, unhide HL]
                have HS6 : Hid (SeesI (w5.setCell ⟨g, q, none⟩ (.int .i64 x)) (.slice (some ⟨g, 0, none⟩) RN ga) R) := by
                  have h9 := ownI_set (unhide HO5) q x
                  have h8 : k = (ws.set q x).length := by rw [List.length_set, unhide HL]
                  have h7 : (w5.setCell ⟨g, q, none⟩ (.int .i64 x)).ownsRow W.heap.size 3 1 (.slice (some ⟨g, 0, none⟩) k ga) (ws.set q x).length (ints (ws.set q x)) := by rw [← h8]; exact h9
                  have := SeesI.of_own h7
                  unfold Hid
                  rw [e3, e2]
                  exact this
                have HK6 : Hid (Kept [] w3 (w5.setCell ⟨g, q, none⟩ (.int .i64 x))) := (unhide HK5).setCell (Or.inr (Nat.le_trans (unhide HWS3) hgb)) _
                have HE := hide e3
                clear e2 e3
                have z1 : ((q : Int) == (k : Int)) = false := by simp; omega
                have z2 : ((q : Int) < (k : Int)) = True := by simp; omega
                generalize ws.getD q 0 = was at *
                go_wp2_with fail
                go_meet
                case rel => exact ⟨some ⟨g, 0, none⟩, ga, by rw [unhide HE], unhide HS6, rfl, HK6⟩
            case rest =>
              obtain ⟨a6, c6, rfl, hs6, rfl, HK6⟩ := hcut
              have HS6 := hide hs6
              clear hs6 HO5 HK5 HWW HWS3
              generalize hwas : ws.getD q 0 = was at *
              clear hwas
              go_wp2_with fail
              refine (unhide HRK _ _ R (unhide HS6)).mono ?_
              rintro e w7 ⟨a7, c7, rfl, hs7, hk7⟩
              have HS7 := hide hs7
              have HK7 : Hid (Kept [] w3 w7) := (unhide HK6).trans hk7 (by simp)
              have hRR := rankOf_length h R
              clear hs7 hk7 HK6 HS6 HRK
              generalize rankOf h R = A at *
              have hAL : A.length ≤ 65536 := by rw [unhide HRN] at hRR; omega
              clear hRR
              have HB7 : Hid (SeesI w7 (.slice a3 j c3) B) := (unhide HS3).kept (unhide HK7) (Or.inr (by simp))
              have HW1 := hide (without_any (unhide HB7) (by rw [unhide HBL]; omega) (q : Int))
              have HPA := hide (fun (wx : World) (hk : Kept [] w7 wx) => place_any ((unhide HS7).kept hk (Or.inr (by simp))) (q : Int))
              have HPB := hide (fun (wx : World) (hk : Kept [] w7 wx) => place_any ((unhide HB7).kept hk (Or.inr (by simp))) (q : Int))
              generalize hALn : A.length = AL at *
              have HAL := hide hALn
              clear hALn
              go_wp2_with fail
              refine (unhide HW1).mono ?_
              rintro e w8 ⟨a8, c8, rfl, hs8, hk8⟩
              have HS8 := hide hs8
              have HK8 := hide hk8
              have HW2 := hide (without_any ((unhide HS7).kept hk8 (Or.inr (by simp))) (by rw [unhide HAL]; exact hAL) (q : Int))
              rw [unhide HWQ] at HW2
              clear hs8 hk8
              generalize hWL : (wout B (q : Int)).length = WL at *
              clear hWL
              go_wp2_with fail
              refine (unhide HW2).mono ?_
              rintro e w9 ⟨a9, c9, rfl, hs9, hk9⟩
              have HSM := hide (same_any ((unhide HS8).kept hk9 (Or.inr (by simp))) hs9)
              have HK9 : Hid (Kept [] w7 w9) := (unhide HK8).trans hk9 (by simp)
              clear hs9 hk9
              go_wp2_with fail
              refine (unhide HSM).mono ?_
              rintro e w10 ⟨rfl, m10, hq10⟩
              have HK10 : Hid (Kept [] w7 w10) := by rw [hq10]; exact (unhide HK9).drewN m10
              clear hq10 HSM HK9 HW2 HW1
              have HPA10 := hide (unhide HPA _ (unhide HK10))
              have HPB10 := hide (unhide HPB _ (unhide HK10))
              have HKE : Hid (Kept [] w w10) := ((unhide HK3).trans (unhide HK7) (by simp)).trans (unhide HK10) (by simp)
              generalize plc A (q : Int) = pa at *
              generalize plc B (q : Int) = pb at *
              clear HPA HPB HS7 HS8 HB7 HWS HS3
              by_cases q1 : 1 ≤ was
              · by_cases q2 : was ≤ 64
                · by_cases q3 : was ≤ x
                  · by_cases q4 : x ≤ 64
                    · obtain ⟨r1, r2⟩ := unhide HPQ q1 q2 q3 q4
                      go_wp2_with fail
                      refine (unhide HPA10).mono ?_
                      rintro e w11 ⟨rfl, hq⟩; have hq' := hq.symm; subst hq'
                      go_wp2_with fail
                      refine (unhide HPA10).mono ?_
                      rintro e w11 ⟨rfl, hq⟩; have hq' := hq.symm; subst hq'
                      go_wp2_with fail
                      refine (unhide HPB10).mono ?_
                      rintro e w11 ⟨rfl, hq⟩; have hq' := hq.symm; subst hq'
                      go_wp2
                      go_ret
                      exact ⟨rfl, unhide HKE⟩
                    · go_wp2
                      go_ret
                      exact ⟨rfl, unhide HKE⟩
                  · go_wp2
                    go_ret
                    exact ⟨rfl, unhide HKE⟩
                · go_wp2
                  go_ret
                  exact ⟨rfl, unhide HKE⟩
              · go_wp2
                go_ret
                exact ⟨rfl, unhide HKE⟩
end Go.Proofs.Ytiafnfjgmfnnoaa
