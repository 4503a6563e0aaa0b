/- The document's order of rows; its Compare. -/
import Derived.Test.YtigmofbammofbaaKRefV
import Derived.Deep.DeepCutAuto
namespace Go.Proofs.Ytigmofbammofbaa
open Go.RowKit

set_option maxRecDepth 100000 in
set_option maxHeartbeats 2000000 in
theorem rrows_any (r : Row) : RRowsC r := by
  refine Row.parts_ind (fun r hC => ?_) r
  rintro r2 w va vb ⟨a, ca, rfl, a1, a2, a3⟩ ⟨b, cb, rfl, b1, b2, b3⟩
  have hma : r.len ≤ 9223372036854775807 := by unfold maxLen at a2; omega
  have hmb : r2.len ≤ 9223372036854775807 := by unfold maxLen at b2; omega
  have A3 := hide a3
  have B3 := hide b3
  have HC := hide hC
  clear a3 b3 hC a1 a2 b1 b2
  generalize hLA : r.len = LA at *
  have HLA := hide hLA
  generalize hLB : r2.len = LB at *
  have HLB := hide hLB
  clear hLA hLB
  go_enter Try.func35, Try.ntmps35
  go_wp2_with fail
  go_loopw [5] (fun i wr => ∃ (k : Nat) (s t : Row), i = .int .i64 k ∧ k + s.len = LA ∧ k + t.len = LB ∧ cmpR r r2 = cmpR s t ∧ PartsOk RRowsC s ∧ (s = .nil ∨ ∃ b off, a = some ⟨b, off, none⟩ ∧ b < w.heap.size ∧ AtP w s b (off + k * 7)) ∧ (t = .nil ∨ ∃ b' off, b = some ⟨b', off, none⟩ ∧ b' < w.heap.size ∧ AtP w t b' (off + k * 7)) ∧ Kept [] w wr) (fun i _ => LA - (intOf i).toNat)
  case atStart => exact ⟨0, r, r2, rfl, by rw [unhide HLA]; omega, by rw [unhide HLB]; omega, rfl, unhide HC, by
      rcases unhide A3 with h | ⟨b, off, q1, q2, q3⟩
      · exact Or.inl h
      · exact Or.inr ⟨b, off, q1, q2, by simpa using q3⟩, by
      rcases unhide B3 with h | ⟨b, off, q1, q2, q3⟩
      · exact Or.inl h
      · exact Or.inr ⟨b, off, q1, q2, by simpa using q3⟩, Kept.refl _ _⟩
  case round =>
    obtain ⟨k, s, t, rfl, hka, hkb, hcm, hps, hat, hbt, hkp⟩ := hrel
    have HCM := hide hcm
    have HK := hide hkp
    clear hcm hkp
    cases s with
    | nil =>
      simp only [Row.len, Nat.add_zero] at hka
      subst hka
      have t1 : ((k : Int) < (k : Int)) = False := by simp
      cases t with
      | nil =>
        simp only [Row.len, Nat.add_zero] at hkb
        subst hkb
        have HS := hide (sign_any false false)
        go_wp2_with (first | (go_at_call 47; refine (unhide HS _).mono ?_; rintro e w1 ⟨rfl, rfl⟩))
        go_ret
        exact ⟨by rw [unhide HCM]; rfl, unhide HK⟩
      | cons y q t =>
        simp only [Row.len] at hkb
        have t2 : (k : Int) < (LB : Int) := by omega
        have t3 : ((LB : Int) < (k : Int)) = False := by simp; omega
        have HS := hide (sign_any true false)
        go_wp2_with (first | (go_at_call 47; refine (unhide HS _).mono ?_; rintro e w1 ⟨rfl, rfl⟩))
        go_ret
        exact ⟨by rw [unhide HCM]; rfl, unhide HK⟩
    | cons x p s =>
      simp only [Row.len] at hka
      have t1 : (k : Int) < (LA : Int) := by omega
      cases t with
      | nil =>
        simp only [Row.len, Nat.add_zero] at hkb
        subst hkb
        have t2 : ((LA : Int) < (k : Int)) = False := by simp; omega
        have t4 : ((k : Int) < (k : Int)) = False := by simp
        have HS := hide (sign_any false true)
        go_wp2_with (first | (go_at_call 47; refine (unhide HS _).mono ?_; rintro e w1 ⟨rfl, rfl⟩))
        go_ret
        exact ⟨by rw [unhide HCM]; rfl, unhide HK⟩
      | cons y q t =>
        obtain ⟨hC1, hC2⟩ := hps
        rcases hat with hat | ⟨ba, offa, rfl, hba, hat⟩
        · cases hat
        rw [AtP_cons] at hat
        obtain ⟨⟨hokx, tvx, pvx, hcx, htx, hpx⟩, hrestx⟩ := hat
        have hcx' := hcx.kept (unhide HK) hba
        have HATX : Hid (s = .nil ∨ ∃ b' off', (some ⟨ba, offa, none⟩ : Option Addr) = some ⟨b', off', none⟩ ∧ b' < w.heap.size ∧ AtP w s b' (off' + (k + 1) * 7)) := Or.inr ⟨ba, offa, rfl, hba, by rw [show offa + (k + 1) * 7 = offa + k * 7 + 7 by omega]; exact hrestx⟩
        have HC2 := hide hC2
        clear hC2 hrestx hcx
        obtain ⟨c0, c1, c2, c3, c4, c5, c6⟩ := hcx'
        simp only [Row.len] at hkb
        rcases hbt with hbt | ⟨bb, offb, rfl, hbb, hbt⟩
        · cases hbt
        rw [AtP_cons] at hbt
        obtain ⟨⟨hoky, tvy, pvy, hcy, hty, hpy⟩, hresty⟩ := hbt
        have hcy' := hcy.kept (unhide HK) hbb
        have HATY : Hid (t = .nil ∨ ∃ b' off', (some ⟨bb, offb, none⟩ : Option Addr) = some ⟨b', off', none⟩ ∧ b' < w.heap.size ∧ AtP w t b' (off' + (k + 1) * 7)) := Or.inr ⟨bb, offb, rfl, hbb, by rw [show offb + (k + 1) * 7 = offb + k * 7 + 7 by omega]; exact hresty⟩
        obtain ⟨d0, d1, d2, d3, d4, d5, d6⟩ := hcy'
        have HCV := hide (fun (W : World) (hk2 : Kept [] w W) => rvals_any hokx hoky (htx.kept hk2 (Or.inr (by simp))) (hty.kept hk2 (Or.inr (by simp))) (hpx.kept hk2) (hpy.kept hk2) hC1)
        clear hcy hresty hC1 hokx hoky
        obtain ⟨ta, tc, htv, -⟩ := htx
        obtain ⟨pa, pc, hpv, -⟩ := hpx
        obtain ⟨ta2, tc2, htv2, -⟩ := hty
        obtain ⟨pa2, pc2, hpv2, -⟩ := hpy
        subst htv hpv htv2 hpv2
        rw [cmpR_cons] at HCM
        obtain ⟨kx, bx, nx, rx, prx, imx, textx⟩ := x
        obtain ⟨ky, b_y, ny, ry, pry, imy, texty⟩ := y
        unfold aggP at HCV
        simp only at *
        generalize p.len = PL at *
        generalize q.len = QL at *
        generalize textx.length = TX at *
        generalize texty.length = TY at *
        have t3 : (k : Int) < (LB : Int) := by omega
        generalize cmpH ⟨kx, bx, nx, rx, prx, imx, textx⟩ ⟨ky, b_y, ny, ry, pry, imy, texty⟩ (cmpR p q) = z at *
        have HCV2 := hide (unhide HCV wr.drew ((unhide HK).drew))
        clear HCV
        go_wp2_with fail
        go_cut [6] (fun t wc => ∃ W, W = wc ∧ t = .int .i64 z ∧ Hid (Kept [] w W))
        case first =>
          go_region_with (first | (go_at_call 46; refine (unhide HCV2).mono ?_; rintro e w1 ⟨rfl, hk1⟩))
          all_goals
            go_wp2_with fail
            go_meet
            exact ⟨_, rfl, rfl, ((unhide HK).drew).trans hk1 (by simp)⟩
        case rest =>
          obtain ⟨W, rfl, rfl, HKW⟩ := hcut
          by_cases hz : z = 0
          · subst hz
            rw [if_neg (by simp)] at HCM
            go_wp2
            exact ⟨⟨k + 1, s, t, by simp, by omega, by omega, unhide HCM, unhide HC2, unhide HATX, unhide HATY, unhide HKW⟩, by simp [intOf]; omega⟩
          · rw [if_pos hz] at HCM
            have t4 : (z != 0) = true := by simpa using hz
            go_wp2
            go_ret
            exact ⟨by rw [unhide HCM]; rfl, unhide HKW⟩

set_option maxRecDepth 100000 in
set_option maxHeartbeats 1000000 in
/-- the document's Compare -/
theorem rcompare_any {w : World} {va vb : Value} {r s : Row} (hr : RowP w va r) (hs : RowP w vb s) :
    Calls Try.prog 20 #[va, vb] w fun e w' => Kept [] w w' ∧ e = .returned (.tuple #[.int .i64 (if faultR r 0 = 0 ∧ faultR s 0 = 0 then cmpR r s else 0), .int .i64 (if faultR r 0 = 0 then (faultR s 0 : Nat) else (faultR r 0 : Nat))]) := by
  have HFA := hide (rfault_any r w va 0 hr (by omega))
  have HFB := hide (rfault_any s w vb 0 hs (by omega))
  have HCR := hide (rrows_any r s w va vb hr hs)
  obtain ⟨a, ca, rfl, -⟩ := hr
  obtain ⟨b, cb, rfl, -⟩ := hs
  generalize r.len = LA at *
  generalize s.len = LB at *
  have hl1 := faultR_lt r 0
  have hl2 := faultR_lt s 0
  generalize faultR r 0 = fa at *
  generalize faultR s 0 = fb at *
  by_cases hf : fa = 0
  · subst hf
    by_cases hg : fb = 0
    · subst hg
      rw [if_pos ⟨rfl, rfl⟩, if_pos rfl]
      go_enter Try.func20, Try.ntmps20
      go_wp2_with (first | (go_at_call 28; refine (unhide HFA).mono ?_; rintro e w1 ⟨rfl, hq⟩; have hq' := hq.symm; subst hq'; clear hq HFA) | (go_at_call 28; refine (unhide HFB).mono ?_; rintro e w1 ⟨rfl, hq⟩; have hq' := hq.symm; subst hq'; clear hq HFB) | (go_at_call 35; refine (unhide HCR).mono ?_; rintro e w3 ⟨rfl, hk3⟩; have HK3 := hide hk3; clear hk3))
      go_ret2
      exact ⟨unhide HK3, rfl⟩
    · rw [if_neg (by simp [hg]), if_pos rfl]
      have t3 : ((fb : Int) != 0) = true := by simp; omega
      go_enter Try.func20, Try.ntmps20
      go_wp2_with (first | (go_at_call 28; refine (unhide HFA).mono ?_; rintro e w1 ⟨rfl, hq⟩; have hq' := hq.symm; subst hq'; clear hq HFA) | (go_at_call 28; refine (unhide HFB).mono ?_; rintro e w1 ⟨rfl, hq⟩; have hq' := hq.symm; subst hq'; clear hq HFB))
      go_ret2
      exact ⟨Kept.refl _ _, rfl⟩
  · rw [if_neg (fun h => hf h.1), if_neg hf]
    have t3 : ((fa : Int) != 0) = true := by simp; omega
    go_enter Try.func20, Try.ntmps20
    go_wp2_with (first | (go_at_call 28; refine (unhide HFA).mono ?_; rintro e w1 ⟨rfl, hq⟩; have hq' := hq.symm; subst hq'; clear hq HFA))
    go_ret2
    exact ⟨Kept.refl _ _, rfl⟩
end Go.Proofs.Ytigmofbammofbaa
