/- LedgerEnds. -/
import Derived.Test.YtnpabeodakncfaaGActX
import Derived.Test.YtnpabeodakncfaaGTwin
import Derived.Test.YtnpabeodakncfaaGOne
import Derived.Deep.RegionHeld3
namespace Go.Proofs.Ytnpabeodakncfaa
open Go.RowKit

/-- Behind two rounds: one owns it, and no other has anything. -/
theorem ended {row2 : List Ld} {sent2 : List Ml} (HL : InvL row2 sent2) {n : Nat} (hn : row2.length = n) (h34 : ∀ i, i < n → (row2.getD i ⟨0, 0, 0⟩).ph ≠ 3 ∧ (row2.getD i ⟨0, 0, 0⟩).ph ≠ 4) (h2 : ∀ i, i < n → (row2.getD i ⟨0, 0, 0⟩).ph ≠ 2) :
    ∃ h, h < n ∧ ∀ i, i < n → (i = h → (row2.getD i ⟨0, 0, 0⟩).ph = 1) ∧ (i ≠ h → (row2.getD i ⟨0, 0, 0⟩).ph = 0 ∨ (row2.getD i ⟨0, 0, 0⟩).ph = 5) := by
  obtain ⟨S, T, h, H⟩ := HL
  have hh := H.h0
  have hc := H.hc
  rw [hn] at hh
  rw [fr_nat] at hc
  refine ⟨h, by omega, fun i hi => ⟨fun q => ?_, fun q => ?_⟩⟩
  · have a := h34 i hi
    have b := h2 i hi
    rw [q] at a b ⊢
    omega
  · have a := h34 i hi
    have b := h2 i hi
    have c := H.un (i : Int) (by omega) (by rw [hn]; omega) (by omega)
    have d := H.v4 (i : Int) (by omega) (by rw [hn]; omega)
    rw [fr_nat] at c d
    omega
set_option maxRecDepth 100000 in
set_option maxHeartbeats 4000000 in
theorem ledgerEnds_any {w : World} {v : Value} {os : List Ac} (hv : RowOf 4 ac w v os) (hl : os.length ≤ 4398046511000) (servers home : Int) : Calls Try.prog 8 #[.int .i64 servers, .int .i64 home, v] w fun e w' => e = .returned (.bool true) ∧ Kept [] w w' := by
  have HV := hide hv
  obtain ⟨pa, pcap, rfl, -, -⟩ := hv
  have HN := fun W => hide (known_any W)
  have HB := fun W => hide (began_any W servers home)
  have h8 := plN_lt servers (show 0 < 8 by omega)
  have hhm := plN_lt home (show 0 < 1 + plN servers 8 by omega)
  have HI := hide (invL_begin (n := 1 + plN servers 8) (h := plN home (1 + plN servers 8)) (by omega) hhm)
  have HX := hide (xL_begin (n := 1 + plN servers 8) (h := plN home (1 + plN servers 8)))
  have HRL : Hid ((row0 (plN home (1 + plN servers 8)) (1 + plN servers 8)).length = 1 + plN servers 8) := row0_len _ _
  have hn8 : 1 + plN servers 8 ≤ 8 := by omega
  generalize row0 (plN home (1 + plN servers 8)) (1 + plN servers 8) = rowB at *
  generalize 1 + plN servers 8 = n at *
  obtain ⟨N, hN⟩ : ∃ N, os.length = N := ⟨_, rfl⟩
  rw [hN] at hl HV ⊢
  have HL := hide hN
  clear hN h8 hhm
  go_enter Try.func8, Try.ntmps8
  go_wp2_with (first
    | (go_at_call 18; refine (unhide (HN _)).mono ?_; rintro e w1 ⟨rfl, hk1⟩; have HK1 := hide hk1; clear hk1)
    | (go_at_call 20; refine (unhide (HB _)).mono ?_; rintro e w2 ⟨b, rv0, sv0, rfl, hwd2, hk2, hb2, hr2, hs2⟩
       obtain ⟨ar, cr, hrv⟩ := own_len hwd2.ro
       rw [unhide HRL] at hrv
       subst hrv
       have HWD2 := hide hwd2; have HK2 := hide ((unhide HK1).step hk2); have HF2 := hide (And.intro (Nat.le_trans (unhide HK1).size hb2) (And.intro (fun z hz => Nat.le_trans (unhide HK1).size (hr2 z hz)) hs2)); clear hwd2 hk2 hb2 hr2 hs2))
  clear HN HB
  go_loopw [8] (fun i wr => ∃ (k : Nat) (sv : Value) (row : List Ld) (sent : List Ml), k ≤ N ∧ i = .int .i64 (k : Int) ∧ Wd wr b (.slice ar n cr) sv row sent ∧ InvL row sent ∧ XL row ∧ row.length = n ∧ Kept [] w wr ∧ Ft w b (.slice ar n cr) sv ∧ sent.length ≤ k) (fun i _ => N - (intOf i).toNat)
  case atStart => exact ⟨0, sv0, rowB, [], by omega, rfl, unhide HWD2, unhide HI, unhide HX, unhide HRL, unhide HK2, ⟨(unhide HF2).1, (unhide HF2).2.1, fun z hz => by rw [(unhide HF2).2.2] at hz; cases hz⟩, by simp⟩
  case round =>
    obtain ⟨k, sv, row, sent, hk, rfl, hwd, hinv, hX, hrl, hkp, hft, hsl⟩ := hrel
    by_cases hlt : k < N
    · have hkn : k < os.length := by rw [unhide HL]; exact hlt
      obtain ⟨o, ho⟩ : ∃ o, os[k]? = some o := ⟨os[k], List.getElem?_eq_getElem hkn⟩
      obtain ⟨pa', pc', hv', -, hall⟩ := (unhide HV).kept hkp
      cases hv'
      obtain ⟨ob, off, hpa, hbl, hrg⟩ := hall k o ho
      subst hpa
      have HAC := hide (act_anyX hwd hinv hX (by omega) o)
      obtain ⟨ok, ow, op, oN⟩ := o
      have c0 : wr.cell? ⟨ob, off + k * 4, none⟩ = some (.int .i64 ok) := hrg 0 _ rfl
      have c1 : wr.cell? ⟨ob, off + k * 4 + 1, none⟩ = some (.int .i64 ow) := hrg 1 _ rfl
      have c2 : wr.cell? ⟨ob, off + k * 4 + 2, none⟩ = some (.int .i64 op) := hrg 2 _ rfl
      have c3 : wr.cell? ⟨ob, off + k * 4 + 3, none⟩ = some (.int .i64 oN) := hrg 3 _ rfl
      have HKP := hide hkp
      have HFT := hide hft
      have HSL := hide hsl
      have HRL2 := hide hrl
      dsimp only at HAC
      clear hft hall hrg hinv hwd hkp hkn ho HI HWD2 HK2 HF2 hsl hX hrl HX HRL
      go_wp2_with (first
        | (go_at_call 22; refine (unhide HAC).mono ?_; rintro e w5 ⟨rfl, row', sent', ⟨sv', hwd5, hk5, hv5⟩, hinv5, hX5, hl5, hs5⟩; have HWD5 := hide hwd5; have HK5 := hide hk5; have HV5 := hide hv5; have HI5 := hide hinv5; have HX5 := hide hX5; have HL5 := hide hl5; have HS5 := hide hs5; clear hwd5 hk5 hv5 hinv5 hX5 hl5 hs5))
      exact ⟨⟨k + 1, sv', row', sent', by omega, by simp, unhide HWD5, unhide HI5, unhide HX5, (unhide HL5).trans (unhide HRL2), (unhide HKP).trans (unhide HK5) (fun x hx => Or.inr ((unhide HFT).mem hx)), (unhide HFT).turn (unhide HKP).size (unhide HV5), by have := unhide HS5; have := unhide HSL; omega⟩, by simp [intOf]; omega⟩
    · obtain rfl : k = N := by omega
      obtain ⟨N1, R1, T1, a1, a2, a3, a4, a5, a6, a7, a8, a9, a10, a11, -⟩ := round_list hinv hX
      obtain ⟨N2, R2, T2, b1, b2, b3, b4, b5, b6, b7, b8, b9, b10, b11, b12⟩ := round_list a8 a9
      have hl1 : (R1 N1).length = n := a10.trans hrl
      have hl2 : (R2 N2).length = n := b10.trans hl1
      have HR1 := hide (round_any hwd hkp hft (by omega) R1 T1 N1 (by omega) a2 a3 (fun s hs => by have := a7 s hs; omega) a4 a5 a6 (by omega))
      have HR2 := fun (W : World) (sv' : Value) (q1 : Wd W b (.slice ar n cr) sv' (R1 N1) (T1 N1)) (q2 : Kept [] w W) (q3 : Ft w b (.slice ar n cr) sv') => hide (round_any q1 q2 q3 (by omega) R2 T2 N2 (by omega) b2 b3 (fun s hs => by have := b7 s hs; omega) b4 b5 b6 (by omega))
      have HON := fun (W : World) (sv' : Value) (q : Wd W b (.slice ar n cr) sv' (R2 N2) (T2 N2)) => hide (show Calls Try.prog 21 #[.pointer (some ⟨b, 0, none⟩)] W fun e w' => e = .returned (.bool true) ∧ Kept [] W w' from by obtain ⟨S, T, h, H⟩ := b8; exact one_any q H)
      rw [hl1] at b11 b12
      rw [hrl] at a11
      obtain ⟨h, hh, hall⟩ := ended b8 hl2 b11 (b12 (fun i hi => (a11 i hi).1))
      have HALL := hide hall
      have HL2 := hide hl2
      generalize R2 N2 = row2 at *
      generalize T2 N2 = sent2 at *
      clear hwd hinv hX hkp hft hsl a2 a3 a4 a5 a6 a7 a8 a9 a10 a11 b2 b3 b4 b5 b6 b7 b8 b9 b10 b11 b12 hall hl2 hl1 hrl HI HX HRL HWD2 HK2 HF2 a1 b1
      go_wp2_with (first
        | (go_at_call 23; refine (unhide HR1).mono ?_; rintro e w5 ⟨rfl, sv5, hwd5, hk5, hf5⟩; have HWD5 := hide hwd5; have HK5 := hide hk5; have HF5 := hide hf5; clear hwd5 hk5 hf5 HR1)
        | (go_at_call 23; refine (unhide (HR2 _ _ (unhide HWD5) (unhide HK5) (unhide HF5))).mono ?_; rintro e w6 ⟨rfl, sv6, hwd6, hk6, hf6⟩; have HWD6 := hide hwd6; have HK6 := hide hk6; clear hwd6 hk6 hf6)
        | (go_at_call 21; refine (unhide (HON _ _ (unhide HWD6))).mono ?_; rintro e w7 ⟨rfl, hk7⟩; have HWD7 := hide ((unhide HWD6).kept hk7); have HK7 := hide ((unhide HK6).step hk7); clear hk7))
      clear HR2 HON HWD5 HK5 HF5 HWD6 HK6
      go_loopw [9, 10] (fun ow i wz => ∃ j : Nat, j ≤ n ∧ i = .int .i64 (j : Int) ∧ ow = .int .i64 (if h < j then 1 else 0) ∧ Kept [] w7 wz) (fun _ i _ => n - (intOf i).toNat)
      case atStart => exact ⟨0, by omega, rfl, rfl, Kept.refl _ _⟩
      case round =>
        obtain ⟨j, hj, rfl, rfl, hkz⟩ := hrel
        have hwz0 := (unhide HWD7).kept hkz
        by_cases hjn : j < n
        · obtain ⟨g, cap, hv1, -, hgl, hr1⟩ := own_at (ce := lc) (fun _ => rfl) (unhide HWD7).ro (led_lt (show j < row2.length by rw [unhide HL2]; exact hjn))
          rw [unhide HL2] at hv1
          cases hv1
          obtain ⟨p1, p2⟩ := unhide HALL j hjn
          generalize row2.getD j ⟨0, 0, 0⟩ = l at *
          obtain ⟨la, lb, lc'⟩ := l
          have HSX : ∀ W, Kept [] w7 W → W.cell? ⟨b, 0, none⟩ = some (.slice (some ⟨g, 0, none⟩) n cr) ∧ W.cell? ⟨g, j * 3, none⟩ = some (.int .i64 la) ∧ W.cell? ⟨g, j * 3 + 1, none⟩ = some (.int .i64 lb) ∧ W.cell? ⟨g, j * 3 + 2, none⟩ = some (.int .i64 lc') ∧ Kept [] w7 W := fun W k => by
            have r := range_kept hr1 k hgl (by simp)
            exact ⟨((unhide HWD7).kept k).blk.cell 0, r 0 _ rfl, r 1 _ rfl, r 2 _ rfl, k⟩
          have HSZ := hide HSX
          have C1 : ∀ W, Hid (Calls Try.prog 24 #[.agg #[.int .i64 la, .int .i64 lb, .int .i64 lc']] W fun e w' => e = .returned (.int .i64 0) ∧ Kept [] W w') := fun W => by
            have := nag_any W ⟨la, lb, lc'⟩
            have hz : nag ⟨la, lb, lc'⟩ = 0 := by
              unfold nag
              dsimp only at p1 p2
              by_cases c : j = h
              · have := p1 c; rw [if_neg (by dsimp only; omega), if_neg (by dsimp only; omega), if_neg (by dsimp only; omega)]
              · have := p2 c; rw [if_neg (by dsimp only; omega), if_neg (by dsimp only; omega), if_neg (by dsimp only; omega)]
            rw [hz] at this
            exact hide this
          obtain ⟨B, hB⟩ : ∃ B : Bool, B = decide (j = h) := ⟨_, rfl⟩
          have C2 : ∀ W, Hid (Calls Try.prog 25 #[.agg #[.int .i64 la, .int .i64 lb, .int .i64 lc']] W fun e w' => e = .returned (.bool B) ∧ Kept [] W w') := fun W => by
            have := keeps_any W ⟨la, lb, lc'⟩
            have hz : kps ⟨la, lb, lc'⟩ = B := by
              rw [hB, Bool.eq_iff_iff]
              simp only [kps, decide_eq_true_eq]
              dsimp only at p1 p2
              by_cases c : j = h
              · have := p1 c; omega
              · have := p2 c; omega
            rw [hz] at this
            exact hide this
          have C3 : ∀ W, Hid (Calls Try.prog 26 #[.agg #[.int .i64 la, .int .i64 lb, .int .i64 lc']] W fun e w' => e = .returned (.bool B) ∧ Kept [] W w') := fun W => by
            have := serves_any W ⟨la, lb, lc'⟩
            have hz : decide (la = 1) = B := by
              rw [hB, Bool.eq_iff_iff]
              simp only [decide_eq_true_eq]
              dsimp only at p1 p2
              by_cases c : j = h
              · have := p1 c; omega
              · have := p2 c; omega
            rw [← hz]
            exact hide this
          have HBB := hide hB
          have hbb : (B != B) = false := by simp
          have hjn2 : (j : Int) < (n : Int) := by omega
          have HKZ := hide hkz
          have hkd := HSX _ hkz.drew
          obtain ⟨b0, d0, d1, d2, -⟩ := HSX _ hkz
          obtain ⟨c, hc⟩ : ∃ c : Int, (if h < j then (1 : Int) else 0) = c := ⟨_, rfl⟩
          have HC := hide hc
          rw [hc]
          clear p1 p2 hB hkz hwz0 hr1 HSX hc
          go_wp2_with fail
          go_region_held3 (fun w' => w'.cell? ⟨b, 0, none⟩ = some (.slice (some ⟨g, 0, none⟩) n cr) ∧ w'.cell? ⟨g, j * 3, none⟩ = some (.int .i64 la) ∧ w'.cell? ⟨g, j * 3 + 1, none⟩ = some (.int .i64 lb) ∧ w'.cell? ⟨g, j * 3 + 2, none⟩ = some (.int .i64 lc') ∧ Kept [] w7 w') (first | assumption | exact hkd) (first
            | (go_at_call 24; refine (unhide (C1 _)).mono ?_; rintro e w20 ⟨rfl, hk3⟩
               obtain ⟨-, -, -, -, hkz⟩ : _ ∧ _ ∧ _ ∧ _ ∧ Kept [] w7 _ := by assumption
               have HS20 := unhide HSZ _ (hkz.step hk3))
            | (go_at_call 25; refine (unhide (C2 _)).mono ?_; rintro e w21 ⟨rfl, hk3⟩
               have HS21 := unhide HSZ _ (HS20.2.2.2.2.step hk3))
            | (go_at_call 26; refine (unhide (C3 _)).mono ?_; rintro e w22 ⟨rfl, hk3⟩
               have HS22 := unhide HSZ _ (HS21.2.2.2.2.step hk3)))
          obtain ⟨v0, v1, v2, v3, hk22⟩ := HS22
          have HK22 := hide hk22
          have hcb : 0 ≤ c ∧ c ≤ 1 := by have := unhide HC; rw [← this]; split <;> omega
          have hcb1 := hcb.1
          have hcb2 := hcb.2
          have hjh : B = true ↔ j = h := by rw [unhide HBB, decide_eq_true_eq]
          have HJH := hide hjh
          clear hcb hjh hk22 HS20 HS21 b0 d0 d1 d2 hkd hk3 HBB
          cases B with
          | true =>
            go_wp2_with (first
              | (go_at_call 26; refine (unhide (C3 _)).mono ?_; rintro e w23 ⟨rfl, hk3⟩; have HK23 := hide ((unhide HK22).step hk3); clear hk3))
            have e1 : j = h := (unhide HJH).1 (by simp)
            have e2 := unhide HC
            rw [if_neg (by omega)] at e2
            exact ⟨⟨j + 1, by omega, by simp, by rw [if_pos (by omega), ← e2]; rfl, unhide HK23⟩, by simp [intOf]; omega⟩
          | false =>
            go_wp2_with (first
              | (go_at_call 26; refine (unhide (C3 _)).mono ?_; rintro e w23 ⟨rfl, hk3⟩; have HK23 := hide ((unhide HK22).step hk3); clear hk3))
            have e1 : j ≠ h := fun q => by have := (unhide HJH).2 q; simp at this
            have e2 := unhide HC
            refine ⟨⟨j + 1, by omega, by simp, ?_, unhide HK23⟩, by simp [intOf]; omega⟩
            rw [← e2]
            by_cases z : h < j
            · rw [if_pos z, if_pos (by omega)]
            · rw [if_neg z, if_neg (by omega)]
        · obtain rfl : j = n := by omega
          obtain ⟨g, cap, hv1, -, hgl, hr1⟩ := own_at (ce := lc) (fun _ => rfl) hwz0.ro (led_lt (show h < row2.length by rw [unhide HL2]; exact hh))
          rw [unhide HL2] at hv1
          cases hv1
          have b0 : wr.cell? ⟨b, 0, none⟩ = some (.slice (some ⟨g, 0, none⟩) j cr) := hwz0.blk.cell 0
          have HKZ := hide hkz
          rw [if_pos hh]
          clear hkz hwz0 hr1
          go_wp2_with fail
          go_ret
          exact ⟨rfl, (unhide HK7).step (unhide HKZ)⟩
end Go.Proofs.Ytnpabeodakncfaa
