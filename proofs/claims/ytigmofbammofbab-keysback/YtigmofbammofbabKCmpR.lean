/- The order of rows; Compare. -/
import Derived.Test.YtigmofbammofbabKCmp2
namespace Go.Proofs.Ytigmofbammofbab
open Go.RowKit

theorem cmpV_any {S : Nat → Prop} {w : World} {x y : Hd} {tx px ty py : Value} {p q : Row} (hx : x.ok) (hy : y.ok) (htx : SeesIn S w tx x.text) (hty : SeesIn S w ty y.text) (hpx : RowV S w px p) (hpy : RowV S w py q) (hC : CmpC p) :
    Calls Try.prog 38 #[aggV x tx px, aggV y ty py] w fun e w' => e = .returned (.int .i64 (cmpH x y (cmpR p q))) ∧ Kept [] w w' := by
  by_cases hk : x.kind = y.kind
  · by_cases h2 : x.kind < 2 ∨ 7 < x.kind
    · exact cmpV_no hx hy htx hty hpx hpy hC hk h2
    · obtain e | e | e | e | e | e : x.kind = 2 ∨ x.kind = 3 ∨ x.kind = 4 ∨ x.kind = 5 ∨ x.kind = 6 ∨ x.kind = 7 := by omega
      · exact cmpV_2 hx hy htx hty hpx hpy hC e (hk.symm.trans e)
      · exact cmpV_3 hx hy htx hty hpx hpy hC e (hk.symm.trans e)
      · exact cmpV_4 hx hy htx hty hpx hpy hC e (hk.symm.trans e)
      · exact cmpV_5 hx hy htx hty hpx hpy hC e (hk.symm.trans e)
      · exact cmpV_6 hx hy htx hty hpx hpy hC e (hk.symm.trans e)
      · exact cmpV_7 hx hy htx hty hpx hpy hC e (hk.symm.trans e)
  · exact cmpV_ne hx hy htx hty hpx hpy hC hk

theorem cmpI_range (x y : Int) : -1 ≤ cmpI x y ∧ cmpI x y ≤ 1 := by
  unfold cmpI
  split
  · omega
  · split <;> omega
theorem cmpL_range (x y : List Nat) : -1 ≤ cmpL x y ∧ cmpL x y ≤ 1 := by
  induction x generalizing y with
  | nil => cases y <;> simp [cmpL]
  | cons a x ih =>
    cases y with
    | nil => simp [cmpL]
    | cons b y =>
      unfold cmpL
      split
      · omega
      · split
        · omega
        · exact ih y
theorem orI_range {x y : Int} (hx : -1 ≤ x ∧ x ≤ 1) (hy : -1 ≤ y ∧ y ≤ 1) : -1 ≤ orI x y ∧ orI x y ≤ 1 := by unfold orI; split <;> omega
theorem cmpH_range (x y : Hd) {c : Int} (hc : -1 ≤ c ∧ c ≤ 1) : -1 ≤ cmpH x y c ∧ cmpH x y c ≤ 1 := by
  unfold cmpH
  split
  · exact cmpI_range _ _
  split
  · exact cmpI_range _ _
  split
  · exact cmpI_range _ _
  split
  · exact cmpI_range _ _
  split
  · exact orI_range (cmpI_range _ _) (cmpI_range _ _)
  split
  · exact cmpL_range _ _
  split
  · exact hc
  · omega
theorem cmpR_range (r s : Row) : -1 ≤ cmpR r s ∧ cmpR r s ≤ 1 := by
  induction r generalizing s with
  | nil => cases s <;> simp [cmpR]
  | cons x p r ihp ihr =>
    cases s with
    | nil => simp [cmpR]
    | cons y q s =>
      unfold cmpR
      split
      · exact cmpH_range _ _ (ihp q)
      · exact ihr s
theorem cmpR_cons (x y : Hd) (p q r s : Row) : cmpR (.cons x p r) (.cons y q s) = if cmpH x y (cmpR p q) ≠ 0 then cmpH x y (cmpR p q) else cmpR r s := rfl

set_option maxRecDepth 100000 in
set_option maxHeartbeats 2000000 in
theorem compareRows_any (r : Row) : CmpC r := by
  refine Row.parts_ind (fun r hC => ?_) r
  intro r2 S w va vb hra hrb
  have hsf := fun (w : World) (a : Addr) (m : Nat) (md : Mode) => run_store Try.prog w a (.float .f64 m) md rfl
  have hsc := fun (w : World) (a : Addr) (m n : Nat) (md : Mode) => run_store Try.prog w a (.complex .f64 m n) md rfl
  obtain ⟨a, ca, rfl, a1, a2, a3⟩ := hra
  obtain ⟨b, cb, rfl, b1, b2, b3⟩ := hrb
  have hma : r.len ≤ 9223372036854775807 := by unfold maxLen at a2; omega
  have hmb : r2.len ≤ 9223372036854775807 := by unfold maxLen at b2; omega
  have A3 := hide a3
  have B3 := hide b3
  have HC := hide hC
  clear a3 b3 hC a1 a2 b1 b2
  generalize hLA : r.len = LA at *
  have HLA := hide hLA
  generalize hLB : r2.len = LB at *
  have HLB := hide hLB
  clear hLA hLB
  have HF : Hid (Calls Try.prog 37 #[.slice a LA ca, .slice b LB cb, .func (.func 38) #[] #[]] w fun e w' => e = .returned (.int .i64 (cmpR r r2)) ∧ Kept [] w w') := by
    unfold Hid
    go_enter Try.func37, Try.ntmps37
    go_wp2_with fail
    go_loopw [13] (fun i wr => ∃ (k : Nat) (s t : Row), i = .int .i64 k ∧ k + s.len = LA ∧ k + t.len = LB ∧ cmpR r r2 = cmpR s t ∧ PartsOk CmpC s ∧ (s = .nil ∨ ∃ b off, a = some ⟨b, off, none⟩ ∧ b < w.heap.size ∧ AtV S w s b (off + k * 7)) ∧ (t = .nil ∨ ∃ b' off, b = some ⟨b', off, none⟩ ∧ b' < w.heap.size ∧ AtV S w t b' (off + k * 7)) ∧ Kept [] w wr) (fun i _ => LA - (intOf i).toNat)
    case atStart => exact ⟨0, r, r2, rfl, by rw [unhide HLA]; omega, by rw [unhide HLB]; omega, rfl, unhide HC, by
        rcases unhide A3 with h | ⟨b, off, q1, q2, _, q3⟩
        · exact Or.inl h
        · exact Or.inr ⟨b, off, q1, q2, by simpa using q3⟩, by
        rcases unhide B3 with h | ⟨b, off, q1, q2, _, q3⟩
        · exact Or.inl h
        · exact Or.inr ⟨b, off, q1, q2, by simpa using q3⟩, Kept.refl _ _⟩
    case round =>
      obtain ⟨k, s, t, rfl, hka, hkb, hcm, hps, hat, hbt, hkp⟩ := hrel
      have HCM := hide hcm
      have HK := hide hkp
      clear hcm hkp
      cases s with
      | nil =>
        simp only [Row.len, Nat.add_zero] at hka
        subst hka
        have t1 : ((k : Int) < (k : Int)) = False := by simp
        cases t with
        | nil =>
          simp only [Row.len, Nat.add_zero] at hkb
          subst hkb
          go_wp2
          go_ret
          exact ⟨by rw [unhide HCM]; rfl, unhide HK⟩
        | cons y q t =>
          simp only [Row.len] at hkb
          have t2 : (k : Int) < (LB : Int) := by omega
          go_wp2
          go_ret
          exact ⟨by rw [unhide HCM]; rfl, unhide HK⟩
      | cons x p s =>
        simp only [Row.len] at hka
        obtain ⟨hC1, hC2⟩ := hps
        rcases hat with hat | ⟨ba, offa, rfl, hba, hat⟩
        · cases hat
        rw [AtV_cons] at hat
        obtain ⟨⟨hokx, tvx, pvx, hcx, htx, hpx⟩, hrestx⟩ := hat
        have hcx' := hcx.kept (unhide HK) hba (by simp)
        have HATX : Hid (s = .nil ∨ ∃ b' off', (some ⟨ba, offa, none⟩ : Option Addr) = some ⟨b', off', none⟩ ∧ b' < w.heap.size ∧ AtV S w s b' (off' + (k + 1) * 7)) := Or.inr ⟨ba, offa, rfl, hba, by rw [show offa + (k + 1) * 7 = offa + k * 7 + 7 by omega]; exact hrestx⟩
        have HC2 := hide hC2
        clear hC2 hrestx hcx
        have t1 : (k : Int) < (LA : Int) := by omega
        obtain ⟨c0, c1, c2, c3, c4, c5, c6⟩ := hcx'
        cases t with
        | nil =>
          simp only [Row.len, Nat.add_zero] at hkb
          subst hkb
          obtain ⟨⟨ta, tc, htv, -⟩, -⟩ := htx
          obtain ⟨pa, pc, hpv, -⟩ := hpx
          subst htv hpv
          have t2 : ((k : Int) ≥ (k : Int)) = True := by simp
          have HKA := hide ((unhide HK).alloc (.cells #[.int .i64 x.kind, .bool x.b, .int .i64 x.n, .float .f64 x.re, .complex .f64 x.pr x.im, .slice ta x.text.length tc, .slice pa p.len pc] 48))
          go_wp2
          go_ret
          exact ⟨by rw [unhide HCM]; rfl, unhide HKA⟩
        | cons y q t =>
          simp only [Row.len] at hkb
          rcases hbt with hbt | ⟨bb, offb, rfl, hbb, hbt⟩
          · cases hbt
          rw [AtV_cons] at hbt
          obtain ⟨⟨hoky, tvy, pvy, hcy, hty, hpy⟩, hresty⟩ := hbt
          have hcy' := hcy.kept ((unhide HK).alloc (.cells #[.int .i64 x.kind, .bool x.b, .int .i64 x.n, .float .f64 x.re, .complex .f64 x.pr x.im, tvx, pvx] 48)) hbb (by simp)
          have HATY : Hid (t = .nil ∨ ∃ b' off', (some ⟨bb, offb, none⟩ : Option Addr) = some ⟨b', off', none⟩ ∧ b' < w.heap.size ∧ AtV S w t b' (off' + (k + 1) * 7)) := Or.inr ⟨bb, offb, rfl, hbb, by rw [show offb + (k + 1) * 7 = offb + k * 7 + 7 by omega]; exact hresty⟩
          obtain ⟨d0, d1, d2, d3, d4, d5, d6⟩ := hcy'
          have k2 : Kept [] w ((wr.alloc (.cells #[.int .i64 x.kind, .bool x.b, .int .i64 x.n, .float .f64 x.re, .complex .f64 x.pr x.im, tvx, pvx] 48)).alloc (.cells #[.int .i64 y.kind, .bool y.b, .int .i64 y.n, .float .f64 y.re, .complex .f64 y.pr y.im, tvy, pvy] 48)) := ((unhide HK).alloc _).alloc _
          have HCV := hide (cmpV_any hokx hoky (htx.kept k2 (by simp)) (hty.kept k2 (by simp)) (hpx.kept k2 (by simp)) (hpy.kept k2 (by simp)) hC1)
          have HK2 := hide k2
          clear k2 hcy hresty hC1 hokx hoky
          obtain ⟨⟨ta, tc, htv, -⟩, -⟩ := htx
          obtain ⟨pa, pc, hpv, -⟩ := hpx
          obtain ⟨⟨ta2, tc2, htv2, -⟩, -⟩ := hty
          obtain ⟨pa2, pc2, hpv2, -⟩ := hpy
          subst htv hpv htv2 hpv2
          rw [cmpR_cons] at HCM
          obtain ⟨kx, bx, nx, rx, prx, imx, textx⟩ := x
          obtain ⟨ky, b_y, ny, ry, pry, imy, texty⟩ := y
          unfold aggV at HCV
          simp only at *
          generalize p.len = PL at *
          generalize q.len = QL at *
          generalize textx.length = TX at *
          generalize texty.length = TY at *
          have t2 : ((k : Int) ≥ (LB : Int)) = False := by simp; omega
          have t3 : (k : Int) < (LB : Int) := by omega
          generalize cmpH ⟨kx, bx, nx, rx, prx, imx, textx⟩ ⟨ky, b_y, ny, ry, pry, imy, texty⟩ (cmpR p q) = z at *
          by_cases hz : z = 0
          · subst hz
            rw [if_neg (by simp)] at HCM
            go_wp2_with (first | (go_at_call 38; refine (unhide HCV).mono ?_; rintro e w1 ⟨rfl, hk1⟩; have HK3 := hide ((unhide HK2).trans hk1 (by simp)); clear hk1))
            exact ⟨⟨k + 1, s, t, by simp, by omega, by omega, unhide HCM, unhide HC2, unhide HATX, unhide HATY, unhide HK3⟩, by simp [intOf]; omega⟩
          · rw [if_pos hz] at HCM
            have t4 : (z != 0) = true := by simpa using hz
            go_wp2_with (first | (go_at_call 38; refine (unhide HCV).mono ?_; rintro e w1 ⟨rfl, hk1⟩; have HK3 := hide ((unhide HK2).trans hk1 (by simp)); clear hk1))
            go_ret
            exact ⟨by rw [unhide HCM]; rfl, unhide HK3⟩
  go_enter Try.func33, Try.ntmps33
  go_wp2_with (first | (go_at_call 37; refine (unhide HF).mono ?_; rintro e w1 ⟨rfl, hk1⟩; have HK1 := hide hk1; clear hk1))
  go_ret
  exact ⟨rfl, unhide HK1⟩

set_option maxRecDepth 100000 in
set_option maxHeartbeats 1000000 in
/-- Compare -/
theorem compare_any {S : Nat → Prop} {w : World} {va vb : Value} {r s : Row} (hr : RowV S w va r) (hs : RowV S w vb s) :
    Calls Try.prog 16 #[va, vb] w fun e w' => Kept [] w w' ∧ e = .returned (.tuple #[.int .i64 (if faultR r 0 = 0 ∧ faultR s 0 = 0 then cmpR r s else 0), .int .i64 (if faultR r 0 = 0 then (faultR s 0 : Nat) else (faultR r 0 : Nat))]) := by
  have HFA := hide (fault_any r S w va 0 hr (by omega))
  have HR := hide hr
  have HS := hide hs
  obtain ⟨a, ca, rfl, -⟩ := hr
  obtain ⟨b, cb, rfl, -⟩ := hs
  generalize r.len = LA at *
  generalize s.len = LB at *
  by_cases hf : faultR r 0 = 0
  · by_cases hg : faultR s 0 = 0
    · rw [if_pos ⟨hf, hg⟩, if_pos hf, hg]
      rw [hf] at HFA
      have HG := hide hg
      clear hf hg
      go_enter Try.func16, Try.ntmps16
      go_wp2_with (first | (go_at_call 26; refine (unhide HFA).mono ?_; rintro e w1 ⟨rfl, hk1⟩; have HK1 := hide hk1; have HFB := hide (fault_any s S w1 _ 0 ((unhide HS).kept hk1 (by simp)) (by omega)); rw [unhide HG] at HFB; clear hk1 HFA) | (go_at_call 26; refine (unhide HFB).mono ?_; rintro e w2 ⟨rfl, hk2⟩; have HK2 := hide ((unhide HK1).trans hk2 (by simp)); have HCR := hide (compareRows_any r s S w2 _ _ ((unhide HR).kept (unhide HK2) (by simp)) ((unhide HS).kept (unhide HK2) (by simp))); clear hk2) | (go_at_call 33; refine (unhide HCR).mono ?_; rintro e w3 ⟨rfl, hk3⟩; have HK3 := hide ((unhide HK2).trans hk3 (by simp)); clear hk3))
      go_ret2
      exact ⟨unhide HK3, rfl⟩
    · rw [if_neg (by simp [hg]), if_pos hf]
      rw [hf] at HFA
      have hlt := faultR_lt s 0
      obtain ⟨fp, hfp⟩ : ∃ fp, faultR s 0 = fp := ⟨_, rfl⟩
      rw [hfp] at hg hlt ⊢
      have HFP := hide hfp
      clear hf hfp
      have t3 : ((fp : Int) != 0) = true := by simp; omega
      go_enter Try.func16, Try.ntmps16
      go_wp2_with (first | (go_at_call 26; refine (unhide HFA).mono ?_; rintro e w1 ⟨rfl, hk1⟩; have HK1 := hide hk1; have HFB := hide (fault_any s S w1 _ 0 ((unhide HS).kept hk1 (by simp)) (by omega)); rw [unhide HFP] at HFB; clear hk1 HFA) | (go_at_call 26; refine (unhide HFB).mono ?_; rintro e w2 ⟨rfl, hk2⟩; have HK2 := hide ((unhide HK1).trans hk2 (by simp)); clear hk2))
      go_ret2
      exact ⟨unhide HK2, rfl⟩
  · rw [if_neg (fun h => hf h.1), if_neg hf]
    have hlt := faultR_lt r 0
    generalize faultR r 0 = fp at *
    have t3 : ((fp : Int) != 0) = true := by simp; omega
    clear HR HS
    go_enter Try.func16, Try.ntmps16
    go_wp2_with (first | (go_at_call 26; refine (unhide HFA).mono ?_; rintro e w1 ⟨rfl, hk1⟩; have HK1 := hide hk1; clear hk1))
    go_ret2
    exact ⟨unhide HK1, rfl⟩
end Go.Proofs.Ytigmofbammofbab
