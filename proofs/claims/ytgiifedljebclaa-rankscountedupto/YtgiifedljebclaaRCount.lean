/- RanksCounted. -/
import Derived.Test.YtgiifedljebclaaRKnown
import Derived.Test.YtgiifedljebclaaRGk
import Derived.Test.YtgiifedljebclaaRApp
import Derived.Deep.DeepCutAuto
namespace Go.Proofs.Ytgiifedljebclaa
open Go.RowKit

set_option maxHeartbeats 2000000 in
set_option maxRecDepth 100000 in
theorem counted_any {w : World} {va vv : Value} {asked l : List Int} {inv : Nat} (ha : SeesI w va asked) (hv : SeesI w vv l) (h2 : 2 ≤ inv) (hi : inv ≤ 1024) (hl : l.length ≤ 549755813888) (hla : asked.length ≤ 549755813888) :
    Calls Try.prog 7 #[.int .i64 (inv : Int), vv, va] w fun e w' => e = .returned (.bool true) ∧ Kept [] w w' := by
  have HA := hide ha
  have HV := hide hv
  have HKN := hide (known_any (w := w))
  have HF := hide (fun W (hk : Kept [] w W) => filled_any (inv := inv) (hv.kept hk (Or.inr (by simp))) h2 hi hl)
  have hcan : decide ((2 : Int) ≤ (inv : Int) ∧ (inv : Int) ≤ 1024) = true := by simp; omega
  have HC := hide (fun w => can_any (w := w) (inv : Int))
  rw [hcan] at HC
  obtain ⟨pv, cv, rfl, hc1, hc2, -⟩ := hv
  obtain ⟨pa, ca, rfl, hc3, hc4, -⟩ := ha
  clear hcan
  generalize hL : l.length = L at *
  have HL := hide hL
  generalize hM : asked.length = M at *
  have HM := hide hM
  clear hL hM
  have ht3 : ((inv : Int) == 0) = false := by simp; omega
  obtain ⟨D, hD⟩ : ∃ D, 2 * L / inv = D := ⟨_, rfl⟩
  have hDb : D ≤ 1099511627776 := by rw [← hD]; exact Nat.le_trans (Nat.div_le_self _ _) (by omega)
  have hDi : 2 * (L : Int) / (inv : Int) = (D : Int) := by rw [← hD]; simp
  have HD := hide hD
  clear hD
  go_enter Try.func7, Try.ntmps7
  go_upto_if 43 with (first
    | (go_at_call 38; refine (unhide HKN).mono ?_; rintro e w1 ⟨rfl, hk1⟩; have HK1 := hide hk1; clear hk1 HKN)
    | (go_at_call 39; refine (unhide HF _ (unhide HK1)).mono ?_; rintro e w2 ⟨b, rfl, v2, hs2, hk2, hb2, ho2⟩; have HS2 := hide hs2; have HK2 := hide ((unhide HK1).trans hk2 (by simp)); clear hs2 hk2 hb2 ho2 HF)
    | (go_at_call 40; refine (unhide HC _).mono ?_; rintro e w3 ⟨rfl, hq⟩; have hq' := hq.symm; subst hq'))
  go_cut [9] (fun t wc => t = .int .i64 ((D - 1 : Nat) : Int) ∧ Hid (wc = w2))
  case first =>
    by_cases hD0 : D = 0
    · subst hD0
      go_wp2_with fail
      go_meet
      exact ⟨rfl, rfl⟩
    · have t0 : ((D : Int) - 1 < 0) = False := by simp; omega
      go_wp2_with fail
      go_meet
      exact ⟨by rw [show ((D - 1 : Nat) : Int) = (D : Int) - 1 by omega], rfl⟩
  case rest =>
    obtain ⟨rfl, hwc⟩ := hcut
    have hwc' := (unhide hwc).symm
    subst hwc'
    have HKA : Hid (Kept [] w2 (w2.alloc (.cells #[] 3))) := (Kept.refl [] w2).alloc _
    have HO0 : Hid ((w2.alloc (.cells #[] 3)).ownsRow w2.heap.size 3 1 (.slice (some ⟨w2.heap.size, 0, none⟩) 0 0) 0 (ints [])) := ownI_new_nil w2
    have HA2 : Hid (SeesI (w2.alloc (.cells #[] 3)) (.slice pa M ca) asked) := ((unhide HA).kept (unhide HK2) (Or.inr (by simp))).kept (unhide HKA) (Or.inr (by simp))
    have HV2 : Hid (SeesI w2 (.slice pv L cv) l) := (unhide HV).kept (unhide HK2) (Or.inr (by simp))
    have HN0 : Hid (([] : List Int).length = 0) := rfl
    have HN1 : Hid (0 + asked.length = M) := by rw [unhide HM, Nat.zero_add]; exact rfl
    obtain ⟨N, hN⟩ : ∃ N, M + L = N := ⟨_, rfl⟩
    have HN2 : Hid (M + l.length = N) := by rw [unhide HL]; exact hN
    have HB1 : Hid (M ≤ 17592186044416) := (show M ≤ 17592186044416 by omega)
    have HB2 : Hid (N ≤ 17592186044416) := (show N ≤ 17592186044416 by omega)
    have hML : N ≤ 1099511627776 := by omega
    have HNN := hide hN
    clear hN
    have hD1 : D - 1 ≤ 1099511627776 := by omega
    have HD1 : Hid (2 * l.length / inv - 1 = D - 1) := by
      exact (show _ = _ by rw [unhide HL, unhide HD])
    clear HA HV hDi hDb HD
    generalize D - 1 = wd at *
    go_wp2_with (first
      | (at_builtin; refine wpList_app_ints (w0 := w2) _ rfl _ _ rfl rfl HKA HO0 HN0 rfl HA2 M HN1 HB1 ?_; intro a3 c3 w3 HO3 HK3 HG3; have HV3 : Hid (SeesI w3 (.slice pv L cv) l) := (unhide HV2).kept (unhide HK3) (Or.inr (by simp)); clear HO0 HA2 HG3)
      | (at_builtin; refine wpList_app_ints (w0 := w2) _ rfl _ _ rfl rfl HK3 HO3 HM rfl HV3 N HN2 HB2 ?_; intro a4 c4 w4 HO4 HK4 HG4; clear HO3 HK3 HV3 HG4))
    have HAL : Hid (SeesI w4 (.slice a4 N c4) (asked ++ l)) := by
      have hlen : (asked ++ l).length = N := by rw [List.length_append, unhide HM, unhide HL]; exact unhide HNN
      have := unhide HO4
      rw [← hlen] at this ⊢
      exact SeesI.of_own this
    have HVL : Hid (SeesI w4 (.slice pv L cv) l) := (unhide HV2).kept (unhide HK4) (Or.inr (by simp))
    have HSL : Hid (Sk w4 b inv L (foldE gtV inv 0 [] l) v2) := by
      have := (unhide HS2).keep (unhide HK4) (by simp) (by simp)
      rwa [unhide HL] at this
    have HNL : Hid ((asked ++ l).length = N) := (show _ = _ by rw [List.length_append, unhide HM, unhide HL]; exact unhide HNN)
    have HFT : Hid (Fit gtV L (foldE gtV inv 0 [] l)) := by
      have := (gk_fold inv l).fit
      rwa [unhide HL] at this
    have HBO : Hid (∀ x, (belowE gtV L (foldE gtV inv 0 [] l) x).1 ≤ lec l x ∧ lec l x ≤ (belowE gtV L (foldE gtV inv 0 [] l) x).2 ∧ (belowE gtV L (foldE gtV inv 0 [] l) x).2 ≤ L ∧ (belowE gtV L (foldE gtV inv 0 [] l) x).2 - (belowE gtV L (foldE gtV inv 0 [] l) x).1 ≤ wd) := by
      intro x
      have := below_ok (gk_fold inv l) x
      rwa [unhide HD1, unhide HL] at this
    have HK5 : Hid (Kept [] w w4) := (unhide HK2).trans (unhide HK4) (by simp)
    clear HO4 HK4 HKA HV2 HS2 HN0 HN1 HN2 HB1 HB2 HD1 HC HK1
    go_loopw [11] (fun s11 wr => ∃ k : Nat, k ≤ N ∧ s11 = .int .i64 k ∧ Kept [] w4 wr) (fun s11 _ => N - (intOf s11).toNat)
    case atStart => exact ⟨0, by omega, rfl, Kept.refl _ _⟩
    case round =>
      obtain ⟨i, hi5, rfl, hkr⟩ := hrel
      have HKR := hide hkr
      clear hkr
      by_cases hil : i < N
      · have t1 : ((i : Int) < (N : Int)) = True := by simp; omega
        obtain ⟨x, hx⟩ : ∃ x, (asked ++ l).getD i 0 = x := ⟨_, rfl⟩
        have HX := hide hx
        clear hx
        have HGX : Hid (∀ W, Kept [] w4 W → ∃ b' off, a4 = some ⟨b', off, none⟩ ∧ W.cell? ⟨b', off + i, none⟩ = some (.int .i64 x)) := by
          intro W hk
          obtain ⟨a', c', hv, -, -, h4⟩ := (unhide HAL).kept hk (Or.inr (by simp))
          have hv1 : a' = a4 := by injection hv with h1; exact h1.symm
          subst hv1
          have := at_int (k := i) (unhide HNL) h4 hil
          rwa [unhide HX] at this
        obtain ⟨bx, ox, rfl, -⟩ := unhide HGX w4 (Kept.refl _ _)
        have HGC : Hid (∀ W, Kept [] w4 W → W.cell? ⟨bx, ox + i, none⟩ = some (.int .i64 x)) := by
          intro W hk
          obtain ⟨b', o', e, h⟩ := unhide HGX W hk
          cases e; exact h
        go_wp2_with fail
        go_loopw [12, 13] (fun s12 s13 wi => ∃ k : Nat, k ≤ L ∧ s12 = .int .i64 (lec (l.take k) x : Nat) ∧ s13 = .int .i64 k ∧ Kept [] w4 wi) (fun _ s13 _ => L - (intOf s13).toNat)
        case atStart => exact ⟨0, by omega, rfl, rfl, unhide HKR⟩
        case round =>
          obtain ⟨k, hk5, rfl, rfl, hki⟩ := hrel
          have HKI := hide hki
          clear hki
          by_cases hkl : k < L
          · have t2 : ((k : Int) < (L : Int)) = True := by simp; omega
            obtain ⟨a', c', hv, -, -, h4⟩ := (unhide HVL).kept (unhide HKI) (Or.inr (by simp))
            have hv1 : a' = pv := by injection hv with h1; exact h1.symm
            subst hv1
            obtain ⟨bv, ov, hpv, hcv⟩ := at_int (k := k) (unhide HL) h4 hkl
            subst hpv
            have hcx := unhide HGC _ (unhide HKI)
            have hce : lec (l.take k) x ≤ 549755813888 := by
              have := lec_len (l.take k) x
              have h9 : (l.take k).length ≤ k := by simp; omega
              omega
            have HLE : Hid (lec (l.take (k + 1)) x = lec (l.take k) x + if l.getD k 0 ≤ x then 1 else 0) := by
              have hk' : k < l.length := by rw [unhide HL]; exact hkl
              have e : l.take (k + 1) = l.take k ++ [l.getD k 0] := by
                rw [List.take_add_one, List.getElem?_eq_getElem hk', Option.toList_some]
                simp [List.getD, List.getElem?_eq_getElem hk']
              exact (show _ = _ by rw [e, lec_snoc])
            clear hv h4
            generalize l.getD k 0 = y at *
            generalize lec (l.take k) x = ce at *
            by_cases hyx : y ≤ x
            · rw [if_pos hyx] at HLE
              go_wp2_with fail
              go_region_held3 (fun w' => w'.cell? ⟨bv, ov + k, none⟩ = some (.int .i64 y) ∧ w'.cell? ⟨bx, ox + i, none⟩ = some (.int .i64 x)) (go_keep) (fail)
              all_goals go_wp2
              all_goals exact ⟨⟨k + 1, by omega, by rw [unhide HLE]; simp, by simp, (unhide HKI).drew⟩, by simp [intOf]; omega⟩
            · rw [if_neg hyx] at HLE
              go_wp2_with fail
              go_region_held3 (fun w' => w'.cell? ⟨bv, ov + k, none⟩ = some (.int .i64 y) ∧ w'.cell? ⟨bx, ox + i, none⟩ = some (.int .i64 x)) (go_keep) (fail)
              all_goals go_wp2
              all_goals exact ⟨⟨k + 1, by omega, by rw [unhide HLE]; simp, by simp, (unhide HKI).drew⟩, by simp [intOf]; omega⟩
          · obtain rfl : k = L := by omega
            have t2 : ((k : Int) < (k : Int)) = False := by simp
            have hle : l.take k = l := List.take_of_length_le (by rw [unhide HL]; omega)
            rw [hle]
            obtain ⟨g1, g2, g3, g4⟩ := unhide HBO x
            have HBL := hide (below_any ((unhide HSL).keep (unhide HKI) (by simp) (by simp)) (unhide HFT) (by omega) x)
            have hcx := unhide HGC _ (unhide HKI)
            clear hle
            generalize lec l x = ce at *
            generalize (belowE gtV k (foldE gtV inv 0 [] l) x).1 = lo at *
            generalize (belowE gtV k (foldE gtV inv 0 [] l) x).2 = hi' at *
            have u1 : ((ce : Int) < (lo : Int)) = False := by simp; omega
            have u2 : ((hi' : Int) < (ce : Int)) = False := by simp; omega
            have u3 : ((wd : Int) < (hi' : Int) - (lo : Int)) = False := by simp; omega
            have u4 : ((lo : Int) < 0) = False := by simp
            have u5 : ((k : Int) < (hi' : Int)) = False := by simp; omega
            go_wp2_with (first | (go_at_call 21; refine (unhide HBL).mono ?_; rintro e w6 ⟨rfl, hk6⟩; have HK6 := hide ((unhide HKI).trans hk6 (by simp)); clear hk6 HBL))
            exact ⟨⟨i + 1, by omega, by simp, unhide HK6⟩, by simp [intOf]; omega⟩
      · obtain rfl : i = N := by omega
        have t1 : ((i : Int) < (i : Int)) = False := by simp
        go_wp2_with fail
        go_ret
        exact ⟨rfl, (unhide HK5).trans (unhide HKR) (by simp)⟩

set_option maxHeartbeats 1000000 in
set_option maxRecDepth 100000 in
theorem counted_no {w : World} {va vv : Value} {asked l : List Int} {inv : Int} (_ha : SeesI w va asked) (hv : SeesI w vv l) (h : inv < 2 ∨ 1024 < inv) :
    Calls Try.prog 7 #[.int .i64 inv, vv, va] w fun e w' => e = .returned (.bool true) ∧ Kept [] w w' := by
  have HKN := hide (known_any (w := w))
  have HF := hide (fun W (hk : Kept [] w W) => filled_no (hv.kept hk (Or.inr (by simp))) h)
  have hcan : decide ((2 : Int) ≤ inv ∧ inv ≤ 1024) = false := by simp; omega
  have HC := hide (fun w => can_any (w := w) inv)
  rw [hcan] at HC
  obtain ⟨pv, cv, rfl, hc1, hc2, -⟩ := hv
  clear hcan h
  go_enter Try.func7, Try.ntmps7
  go_wp2_with (first
    | (go_at_call 38; refine (unhide HKN).mono ?_; rintro e w1 ⟨rfl, hk1⟩; have HK1 := hide hk1; clear hk1 HKN)
    | (go_at_call 39; refine (unhide HF _ (unhide HK1)).mono ?_; rintro e w2 ⟨rfl, hk2⟩; have HK2 := hide ((unhide HK1).trans hk2 (by simp)); clear hk2 HF)
    | (go_at_call 40; refine (unhide HC _).mono ?_; rintro e w3 ⟨rfl, hq⟩; have hq' := hq.symm; subst hq'))
  go_ret
  exact ⟨rfl, unhide HK2⟩
end Go.Proofs.Ytgiifedljebclaa
