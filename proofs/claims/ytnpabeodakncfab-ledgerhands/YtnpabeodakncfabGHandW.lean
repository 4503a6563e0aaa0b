/- LedgerHands. -/
import Derived.Test.YtnpabeodakncfabGHandP
namespace Go.Proofs.Ytnpabeodakncfab
open Go.RowKit

theorem plN_self {n k : Nat} (h : k < n) : plN (k : Int) n = k := by
  unfold plN
  rw [Int.emod_eq_of_lt (by omega) (by omega)]
  omega
theorem hT_len (sent : List Ml) (o t : Nat) (e : Int) (s : Nat) (hs : s ≤ 4) : (hT sent o t e s).length = sent.length + min (s + 1) 4 := by
  have : s = 0 ∨ s = 1 ∨ s = 2 ∨ s = 3 ∨ s = 4 := by omega
  rcases this with rfl | rfl | rfl | rfl | rfl <;> simp [hT]
/-- The offer, and the round behind it: what they make of an owner's row. -/
def hRow (row : List Ld) (o t : Nat) (e : Int) : List Ld := if t ≠ o ∧ e ≤ 1073741822 then hR row o t e 4 else row
def hSnt (sent : List Ml) (o t : Nat) (e : Int) : List Ml := if t ≠ o ∧ e ≤ 1073741822 then hT sent o t e 4 else sent
def hOwn (o t : Nat) (e : Int) : Nat := if t ≠ o ∧ e ≤ 1073741822 then t else o
def hEp (o t : Nat) (e : Int) : Int := if t ≠ o ∧ e ≤ 1073741822 then e + 1 else e
def oRow (row : List Ld) (o t : Nat) (e : Int) : List Ld := if t ≠ o ∧ e ≤ 1073741822 then row.set o ⟨2, e + 1, (t : Int)⟩ else row
theorem offer_row {row : List Ld} {o : Nat} {e : Int} (h : Sh row o e) {t : Nat} (ht : t < row.length) :
    (if rfs (o : Int) (row.getD o ⟨0, 0, 0⟩) 2 0 (t : Int) = 0 then row.set o (stp (o : Int) (row.getD o ⟨0, 0, 0⟩) 2 0 (t : Int)) else row) = oRow row o t e := by
  have h8 := h.n8
  have hc := can_offer (p := (t : Int)) h.vo (by omega)
  unfold oRow
  by_cases q : t ≠ o ∧ e ≤ 1073741822
  · have hz := hc.2 (by rw [h.own]; exact ⟨rfl, by omega, q.2⟩)
    rw [if_pos q, if_pos hz, stp, if_pos hz, h.own]
    rfl
  · rw [if_neg q, if_neg (fun z => q (by have := hc.1 z; rw [h.own] at this; exact ⟨by omega, this.2.2⟩))]
theorem hand_sh {row : List Ld} {o : Nat} {e : Int} (h : Sh row o e) {t : Nat} (ht : t < row.length) : Sh (hRow row o t e) (hOwn o t e) (hEp o t e) := by
  unfold hRow hOwn hEp
  by_cases q : t ≠ o ∧ e ≤ 1073741822
  · rw [if_pos q, if_pos q, if_pos q]; exact h.handed ht q.1 q.2
  · rw [if_neg q, if_neg q, if_neg q]; exact h
theorem hRow_len (row : List Ld) (o t : Nat) (e : Int) : (hRow row o t e).length = row.length := by
  unfold hRow; split
  · exact hR_len _ _ _ _ _
  · rfl
theorem hSnt_len {sent : List Ml} {o t : Nat} {e : Int} (h : (sent.length : Int) ≤ 4 * e) : ((hSnt sent o t e).length : Int) ≤ 4 * hEp o t e := by
  unfold hSnt hEp
  by_cases q : t ≠ o ∧ e ≤ 1073741822
  · rw [if_pos q, if_pos q, hT_len _ _ _ _ _ (Nat.le_refl _)]; simp; omega
  · rw [if_neg q, if_neg q]; exact h
theorem hand_round {w0 w : World} {b : Nat} {rv sv : Value} {row : List Ld} {sent : List Ml} {o t : Nat} {e : Int} (h : Sh row o e) (ht : t < row.length) (hw : Wd w b rv sv (oRow row o t e) sent) (hkw : Kept [] w0 w) (hft : Ft w0 b rv sv) (hsl : (sent.length : Int) ≤ 4 * e) :
    Calls Try.prog 8 #[.pointer (some ⟨b, 0, none⟩)] w fun r w' => r = .returned (.bool true) ∧ ∃ sv', Wd w' b rv sv' (hRow row o t e) (hSnt sent o t e) ∧ Kept [] w0 w' ∧ Ft w0 b rv sv' := by
  have h8 := h.n8
  have he := h.eh
  have ho := h.lt
  unfold oRow at hw
  unfold hRow hSnt
  by_cases q : t ≠ o ∧ e ≤ 1073741822
  · rw [if_pos q] at hw
    rw [if_pos q, if_pos q]
    refine round_any hw hkw hft (by simpa using h8) (hR row o t e) (hT sent o t e) 4 (by omega) rfl ?_ (fun s hs => ?_) (fun s hs => ?_) ?_ (hand_hears h ht q.1 q.2 sent) (by omega)
    · rw [List.length_set, h.says t sent row.length (Nat.le_refl _), if_pos ho]; rfl
    · rw [hT_len _ _ _ _ _ hs]; omega
    · rw [hT_len _ _ _ _ _ (by omega)]; omega
    · rw [hT_len _ _ _ _ _ (Nat.le_refl _)]; omega
  · rw [if_neg q] at hw
    rw [if_neg q, if_neg q]
    refine round_any hw hkw hft h8 (fun _ => row) (fun _ => sent) 0 (by omega) rfl ?_ (fun s hs => by omega) (fun s hs => by omega) (by simp) (fun s hs => by omega) (by omega)
    exact (h.quiet sent row.length (Nat.le_refl _)).symm
theorem Sh.holder {row : List Ld} {o : Nat} {e : Int} (h : Sh row o e) : hldr row = (o : Int) := by
  have hc : ∀ i, i < row.length → (clm (row.getD i ⟨0, 0, 0⟩) = true ↔ i = o) := by
    intro i hi
    by_cases q : i = o
    · subst q; rw [h.own]; simp [clm]
    · have := (h.oth i hi q).1
      simp only [clm, decide_eq_true_eq]
      omega
  have key : ∀ k, k ≤ row.length → hst row k = if o < k then ((o : Int), false) else (-1, false) := by
    intro k
    induction k with
    | zero => intro _; simp [hst]
    | succ k ih =>
      intro hk
      have ih' := ih (by omega)
      rw [hst, ih']
      by_cases q : k = o
      · subst q
        rw [if_neg (by omega), if_pos (by omega)]
        unfold hstep
        rw [if_neg (by rw [(hc k (by omega)).2 rfl]; simp), if_pos (Or.inl (by show (-1 : Int) < 0; omega))]
      · have hcf : clm (row.getD k ⟨0, 0, 0⟩) = false := by
          cases hz : clm (row.getD k ⟨0, 0, 0⟩)
          · rfl
          · exact absurd ((hc k (by omega)).1 hz) q
        unfold hstep
        rw [if_pos hcf]
        by_cases z : o < k
        · rw [if_pos z, if_pos (by omega)]
        · rw [if_neg z, if_neg (by omega)]
  unfold hldr
  rw [key row.length (Nat.le_refl _), if_pos h.lt]
  simp
set_option maxRecDepth 100000 in
set_option maxHeartbeats 4000000 in
theorem ledgerHands_any {w : World} {v : Value} {hs : List Int} (hv : SeesI w v hs) (servers home : Int) : Calls Try.prog 3 #[.int .i64 servers, .int .i64 home, v] w fun e w' => e = .returned (.bool true) ∧ Kept [] w w' := by
  have HV := hide hv
  obtain ⟨pa, pcap, rfl, hpc, hpm, -⟩ := hv
  have HN := fun W => hide (known_any W)
  have HB := fun W => hide (began_any W servers home)
  have h8 := plN_lt servers (show 0 < 8 by omega)
  have hhm := plN_lt home (show 0 < 1 + plN servers 8 by omega)
  have HS0 := hide (Sh.begin (n := 1 + plN servers 8) (h := plN home (1 + plN servers 8)) (by omega) hhm)
  have HRL : Hid ((row0 (plN home (1 + plN servers 8)) (1 + plN servers 8)).length = 1 + plN servers 8) := row0_len _ _
  have HPH := fun W => hide (place_any W home (1 + plN servers 8) (by omega) (by omega))
  generalize row0 (plN home (1 + plN servers 8)) (1 + plN servers 8) = rowB at *
  generalize 1 + plN servers 8 = n at *
  generalize plN home n = o0 at *
  obtain ⟨N, hN⟩ : ∃ N, hs.length = N := ⟨_, rfl⟩
  rw [hN] at HV hpc ⊢
  have HL := hide hN
  have hpm2 : N ≤ 9223372036854775807 := by unfold maxLen at hpm; omega
  clear hN h8 hhm hpm
  go_enter Try.func3, Try.ntmps3
  go_wp2_with (first
    | (go_at_call 4; refine (unhide (HN _)).mono ?_; rintro e w1 ⟨rfl, hk1⟩; have HK1 := hide hk1; clear hk1)
    | (go_at_call 5; refine (unhide (HB _)).mono ?_; rintro e w2 ⟨b, rv0, sv0, rfl, hwd2, hk2, hb2, hr2, hs2⟩
       obtain ⟨ar, cr, hrv⟩ := own_len hwd2.ro
       rw [unhide HRL] at hrv
       subst hrv
       have b0 : w2.cell? ⟨b, 0, none⟩ = some (.slice ar n cr) := hwd2.blk.cell 0
       have hbl := hwd2.blk.lt
       have HWD2 := hide hwd2; have HK2 := hide ((unhide HK1).step hk2); have HF2 := hide (And.intro (Nat.le_trans (unhide HK1).size hb2) (And.intro (fun z hz => Nat.le_trans (unhide HK1).size (hr2 z hz)) hs2)); clear hwd2 hk2 hb2 hr2 hs2)
    | (go_at_call 6; refine (unhide (HPH _)).mono ?_; rintro e w3 ⟨rfl, hq⟩; have hq2 := hq.symm; subst hq2; clear hq))
  clear HN HB HPH
  go_loopw [9, 10, 11] (fun ow ep i wr => ∃ (k : Nat) (sv : Value) (row : List Ld) (sent : List Ml) (o : Nat) (e : Int), k ≤ N ∧ i = .int .i64 (k : Int) ∧ ow = .int .i64 (o : Int) ∧ ep = .int .i64 e ∧ Wd wr b (.slice ar n cr) sv row sent ∧ Sh row o e ∧ row.length = n ∧ Kept [] w wr ∧ Ft w b (.slice ar n cr) sv ∧ (sent.length : Int) ≤ 4 * e) (fun _ _ i _ => N - (intOf i).toNat)
  case atStart => exact ⟨0, sv0, rowB, [], o0, 0, by omega, rfl, rfl, rfl, unhide HWD2, unhide HS0, unhide HRL, unhide HK2, ⟨(unhide HF2).1, (unhide HF2).2.1, fun z hz => by rw [(unhide HF2).2.2] at hz; cases hz⟩, by simp⟩
  case round =>
    obtain ⟨k, sv, row, sent, o, e, hk, rfl, rfl, rfl, hwd, hsh, hrl, hkp, hft, hsl⟩ := hrel
    by_cases hlt : k < N
    · have hkn : k < hs.length := by rw [unhide HL]; exact hlt
      obtain ⟨pa', pc', hv', -, -, hall⟩ := (unhide HV).kept hkp (Or.inr (by simp))
      rw [unhide HL] at hv'
      cases hv'
      obtain ⟨ob, off, hpa, hcell⟩ := at_int (unhide HL) hall hlt
      subst hpa
      have h8 := hsh.n8
      have hol := hsh.lt
      have hn0 : 0 < n := by omega
      generalize hs.getD k 0 = x at *
      have htl : plN x n < row.length := by rw [hrl]; exact plN_lt x hn0
      have hn8 : n ≤ 8 := by omega
      have HPX := fun W => hide (place_any W x n hn0 (by omega))
      have HA1 := act1_any hwd (by omega) h8 (o : Int) ((plN x n : Nat) : Int) 0 (by rw [plN_self hol]; exact hsh.vo)
      rw [plN_self hol, plN_self (n := row.length) (k := plN x n) htl, offer_row hsh htl] at HA1
      have HAC := hide HA1
      have hsh2 := hand_sh hsh htl
      have HSH2 := hide hsh2
      have HHO := hsh2.holder
      have HRD := fun (W : World) (sv' : Value) (q1 : Wd W b (.slice ar n cr) sv' (oRow row o (plN x n) e) sent) (q2 : Kept [] w W) (q3 : Ft w b (.slice ar n cr) sv') => hide (hand_round hsh htl q1 q2 q3 hsl)
      have hlen2 : (hRow row o (plN x n) e).length = n := by rw [hRow_len]; exact hrl
      have hsl2 := hSnt_len (o := o) (t := plN x n) hsl
      have HC1 : Hid ((hRow row o (plN x n) e).getD (hOwn o (plN x n) e) ⟨0, 0, 0⟩ = ⟨1, hEp o (plN x n) e, (hOwn o (plN x n) e : Int)⟩) := hsh2.own
      have hol2 := hsh2.lt
      rw [hlen2] at hol2
      have heh := hsh.eh
      have he0 := hsh.e0
      have htn : plN x n < n := plN_lt x hn0
      have HKP := hide hkp
      have HFT := hide hft
      have HSL2 := hide hsl2
      have HOE : Hid (hOwn o (plN x n) e = (if plN x n ≠ o ∧ e ≤ 1073741822 then plN x n else o) ∧ hEp o (plN x n) e = (if plN x n ≠ o ∧ e ≤ 1073741822 then e + 1 else e)) := ⟨rfl, rfl⟩
      generalize hRow row o (plN x n) e = row2 at *
      generalize hSnt sent o (plN x n) e = sent2 at *
      generalize hOwn o (plN x n) e = o2 at *
      generalize hEp o (plN x n) e = e2 at *
      generalize oRow row o (plN x n) e = rowA at *
      generalize plN x n = t at *
      have HHH := hide HHO
      have HLN2 := hide hlen2
      clear hwd hkp hft hsl hsh hall HA1 htl hsl2 hsh2 HHO hlen2 HWD2 HK2 HF2 HS0 HRL b0 hrl
      by_cases q1 : t = o
      · have t1 : ((t : Int) != (o : Int)) = false := by simp; omega
        have z1 := (unhide HOE).1
        have z2 := (unhide HOE).2
        rw [if_neg (fun z => z.1 q1)] at z1 z2
        subst z1 z2
        clear q1 HOE
        have HRO : Hid (∀ W, ∀ sv6, Wd W b (.slice ar n cr) sv6 row2 sent2 → ∃ g, ar = some ⟨g, 0, none⟩ ∧ W.rangeAt g (o2 * 3) (lc ⟨1, e2, (o2 : Int)⟩)) := fun W sv6 q => by
          obtain ⟨g, cap, hv, -, hgl, hrg⟩ := own_at (ce := lc) (fun _ => rfl) q.ro (led_lt (show o2 < row2.length by rw [unhide HLN2]; exact hol2))
          rw [unhide HC1] at hrg
          simp only [Value.slice.injEq] at hv
          exact ⟨g, hv.1, hrg⟩
        have HHD : Hid (∀ W, ∀ sv6, Wd W b (.slice ar n cr) sv6 row2 sent2 → Calls Try.prog 9 #[.slice ar n cr] W fun r w' => r = .returned (.int .i64 (o2 : Int)) ∧ Kept [] W w') := fun W sv6 q => by
          have := holder_any (own_row (ce := lc) (fun _ => rfl) q.ro (by rw [unhide HLN2]; omega))
          rw [unhide HHH] at this
          exact this
        have hol3 : (o2 : Int) < (n : Int) := by omega
        go_wp2_with (first
          | (go_at_call 6; refine (unhide (HPX _)).mono ?_; rintro r w3 ⟨rfl, hq⟩; have hq2 := hq.symm; subst hq2; clear hq)
          | (go_at_call 7; refine (unhide HAC).mono ?_; rintro r w5 ⟨rfl, sv5, hwd5, hk5, hv5⟩; have HWD5 := hide hwd5; have HK5 := hide ((unhide HKP).trans hk5 (fun x hx => Or.inr ((unhide HFT).mem hx))); have HF5 := hide ((unhide HFT).turn (unhide HKP).size hv5); clear hwd5 hk5 hv5)
          | (go_at_call 8; refine (unhide (HRD _ _ (unhide HWD5) (unhide HK5) (unhide HF5))).mono ?_; rintro r w6 ⟨rfl, sv6, hwd6, hk6, hf6⟩
             obtain ⟨g, hag, hrg6⟩ := unhide HRO _ _ hwd6
             subst hag
             obtain ⟨d0, d1, d2⟩ := row_cells hrg6
             dsimp only at d0 d1 d2
             have c0 : w6.cell? ⟨b, 0, none⟩ = some (.slice (some ⟨g, 0, none⟩) n cr) := hwd6.blk.cell 0
             have hb6 := hwd6.blk.lt
             have HWD6 := hide hwd6; have HK6 := hide hk6; have HF6 := hide hf6; clear hwd6 hk6 hf6 hrg6)
          | (go_at_call 9; refine (unhide HHD _ _ (unhide HWD6)).mono ?_; rintro r w7 ⟨rfl, hk7⟩; have HWD7 := hide ((unhide HWD6).kept hk7); have HK7 := hide ((unhide HK6).step hk7); clear hk7))
        exact ⟨⟨k + 1, sv6, row2, sent2, o2, e2, by omega, by simp, by first | rfl | simp, by first | rfl | simp, unhide HWD7, unhide HSH2, unhide HLN2, unhide HK7, unhide HF6, unhide HSL2⟩, by simp [intOf]; omega⟩
      · have t1 : ((t : Int) != (o : Int)) = true := by simp; omega
        by_cases q2 : e ≤ 1073741822
        · have t2 : (e ≤ 1073741822) = True := by simp; exact q2
          have z1 := (unhide HOE).1
          have z2 := (unhide HOE).2
          rw [if_pos ⟨q1, q2⟩] at z1 z2
          subst z1 z2
          clear q1 q2 HOE
          have HRO : Hid (∀ W, ∀ sv6, Wd W b (.slice ar n cr) sv6 row2 sent2 → ∃ g, ar = some ⟨g, 0, none⟩ ∧ W.rangeAt g (o2 * 3) (lc ⟨1, e + 1, (o2 : Int)⟩)) := fun W sv6 q => by
            obtain ⟨g, cap, hv, -, hgl, hrg⟩ := own_at (ce := lc) (fun _ => rfl) q.ro (led_lt (show o2 < row2.length by rw [unhide HLN2]; exact hol2))
            rw [unhide HC1] at hrg
            simp only [Value.slice.injEq] at hv
            exact ⟨g, hv.1, hrg⟩
          have HHD : Hid (∀ W, ∀ sv6, Wd W b (.slice ar n cr) sv6 row2 sent2 → Calls Try.prog 9 #[.slice ar n cr] W fun r w' => r = .returned (.int .i64 (o2 : Int)) ∧ Kept [] W w') := fun W sv6 q => by
            have := holder_any (own_row (ce := lc) (fun _ => rfl) q.ro (by rw [unhide HLN2]; omega))
            rw [unhide HHH] at this
            exact this
          have hol3 : (o2 : Int) < (n : Int) := by omega
          go_wp2_with (first
            | (go_at_call 6; refine (unhide (HPX _)).mono ?_; rintro r w3 ⟨rfl, hq⟩; have hq2 := hq.symm; subst hq2; clear hq)
            | (go_at_call 7; refine (unhide HAC).mono ?_; rintro r w5 ⟨rfl, sv5, hwd5, hk5, hv5⟩; have HWD5 := hide hwd5; have HK5 := hide ((unhide HKP).trans hk5 (fun x hx => Or.inr ((unhide HFT).mem hx))); have HF5 := hide ((unhide HFT).turn (unhide HKP).size hv5); clear hwd5 hk5 hv5)
            | (go_at_call 8; refine (unhide (HRD _ _ (unhide HWD5) (unhide HK5) (unhide HF5))).mono ?_; rintro r w6 ⟨rfl, sv6, hwd6, hk6, hf6⟩
               obtain ⟨g, hag, hrg6⟩ := unhide HRO _ _ hwd6
               subst hag
               obtain ⟨d0, d1, d2⟩ := row_cells hrg6
               dsimp only at d0 d1 d2
               have c0 : w6.cell? ⟨b, 0, none⟩ = some (.slice (some ⟨g, 0, none⟩) n cr) := hwd6.blk.cell 0
               have hb6 := hwd6.blk.lt
               have HWD6 := hide hwd6; have HK6 := hide hk6; have HF6 := hide hf6; clear hwd6 hk6 hf6 hrg6)
            | (go_at_call 9; refine (unhide HHD _ _ (unhide HWD6)).mono ?_; rintro r w7 ⟨rfl, hk7⟩; have HWD7 := hide ((unhide HWD6).kept hk7); have HK7 := hide ((unhide HK6).step hk7); clear hk7))
          exact ⟨⟨k + 1, sv6, row2, sent2, o2, e + 1, by omega, by simp, by first | rfl | simp, by first | rfl | simp, unhide HWD7, unhide HSH2, unhide HLN2, unhide HK7, unhide HF6, unhide HSL2⟩, by simp [intOf]; omega⟩
        · have t2 : (e ≤ 1073741822) = False := by simp; omega
          have z1 := (unhide HOE).1
          have z2 := (unhide HOE).2
          rw [if_neg (fun z => q2 z.2)] at z1 z2
          subst z1 z2
          clear q1 q2 HOE
          have HRO : Hid (∀ W, ∀ sv6, Wd W b (.slice ar n cr) sv6 row2 sent2 → ∃ g, ar = some ⟨g, 0, none⟩ ∧ W.rangeAt g (o2 * 3) (lc ⟨1, e2, (o2 : Int)⟩)) := fun W sv6 q => by
            obtain ⟨g, cap, hv, -, hgl, hrg⟩ := own_at (ce := lc) (fun _ => rfl) q.ro (led_lt (show o2 < row2.length by rw [unhide HLN2]; exact hol2))
            rw [unhide HC1] at hrg
            simp only [Value.slice.injEq] at hv
            exact ⟨g, hv.1, hrg⟩
          have HHD : Hid (∀ W, ∀ sv6, Wd W b (.slice ar n cr) sv6 row2 sent2 → Calls Try.prog 9 #[.slice ar n cr] W fun r w' => r = .returned (.int .i64 (o2 : Int)) ∧ Kept [] W w') := fun W sv6 q => by
            have := holder_any (own_row (ce := lc) (fun _ => rfl) q.ro (by rw [unhide HLN2]; omega))
            rw [unhide HHH] at this
            exact this
          have hol3 : (o2 : Int) < (n : Int) := by omega
          go_wp2_with (first
            | (go_at_call 6; refine (unhide (HPX _)).mono ?_; rintro r w3 ⟨rfl, hq⟩; have hq2 := hq.symm; subst hq2; clear hq)
            | (go_at_call 7; refine (unhide HAC).mono ?_; rintro r w5 ⟨rfl, sv5, hwd5, hk5, hv5⟩; have HWD5 := hide hwd5; have HK5 := hide ((unhide HKP).trans hk5 (fun x hx => Or.inr ((unhide HFT).mem hx))); have HF5 := hide ((unhide HFT).turn (unhide HKP).size hv5); clear hwd5 hk5 hv5)
            | (go_at_call 8; refine (unhide (HRD _ _ (unhide HWD5) (unhide HK5) (unhide HF5))).mono ?_; rintro r w6 ⟨rfl, sv6, hwd6, hk6, hf6⟩
               obtain ⟨g, hag, hrg6⟩ := unhide HRO _ _ hwd6
               subst hag
               obtain ⟨d0, d1, d2⟩ := row_cells hrg6
               dsimp only at d0 d1 d2
               have c0 : w6.cell? ⟨b, 0, none⟩ = some (.slice (some ⟨g, 0, none⟩) n cr) := hwd6.blk.cell 0
               have hb6 := hwd6.blk.lt
               have HWD6 := hide hwd6; have HK6 := hide hk6; have HF6 := hide hf6; clear hwd6 hk6 hf6 hrg6)
            | (go_at_call 9; refine (unhide HHD _ _ (unhide HWD6)).mono ?_; rintro r w7 ⟨rfl, hk7⟩; have HWD7 := hide ((unhide HWD6).kept hk7); have HK7 := hide ((unhide HK6).step hk7); clear hk7))
          exact ⟨⟨k + 1, sv6, row2, sent2, o2, e2, by omega, by simp, by first | rfl | simp, by first | rfl | simp, unhide HWD7, unhide HSH2, unhide HLN2, unhide HK7, unhide HF6, unhide HSL2⟩, by simp [intOf]; omega⟩
    · obtain rfl : k = N := by omega
      have HKP := hide hkp
      clear hkp hwd hsh hft hsl hrl
      go_wp2_with fail
      go_ret
      exact ⟨rfl, unhide HKP⟩
end Go.Proofs.Ytnpabeodakncfab
