/- RanksNear. -/
import Derived.Test.YtgiifedljebclaaRKnown
import Derived.Test.YtgiifedljebclaaRSort
import Derived.Deep.DeepCutAuto
namespace Go.Proofs.Ytgiifedljebclaa
open Go.RowKit

set_option maxHeartbeats 2000000 in
set_option maxRecDepth 100000 in
theorem near_any {w : World} {vv : Value} {l : List Int} {inv : Nat} (hv : SeesI w vv l) (h2 : 2 ≤ inv) (hi : inv ≤ 1024) (hl : l.length ≤ 549755813000) :
    Calls Try.prog 6 #[.int .i64 (inv : Int), vv] w fun e w' => e = .returned (.bool true) ∧ Kept [] w w' := by
  have HV := hide hv
  have HKN := hide (known_any (w := w))
  have HF := hide (fun W (hk : Kept [] w W) => filled_any (inv := inv) (hv.kept hk (Or.inr (by simp))) h2 hi (by omega))
  have HSO : Hid (∀ W, Kept [] w W → Calls Try.prog 41 #[vv] W fun e w' => ∃ a c R, e = .returned (.slice a l.length c) ∧ R.length = l.length ∧ Srt l R ∧ SeesI w' (.slice a l.length c) R ∧ Kept [] W w') := by
    intro W hk
    refine (sorted_any (hv.kept hk (Or.inr (by simp))) (by omega)).mono ?_
    rintro e w' ⟨a, c, R, rfl, h1, h3, h4⟩
    have hRl : R.length = l.length := h1.perm.length_eq
    refine ⟨a, c, R, by rw [hRl], hRl, h1, ?_, h4⟩
    rw [← hRl]
    exact SeesI.of_own h3
  have hcan : decide ((2 : Int) ≤ (inv : Int) ∧ (inv : Int) ≤ 1024) = true := by simp; omega
  have HC := hide (fun w => can_any (w := w) (inv : Int))
  rw [hcan] at HC
  obtain ⟨pv, cv, rfl, hc1, hc2, -⟩ := hv
  clear hcan
  obtain ⟨ES, hES⟩ : ∃ ES, foldE gtV inv 0 [] l = ES := ⟨_, rfl⟩
  have HES := hide hES
  have HGK : Hid (Gk inv l ES) := (by rw [← hES]; exact gk_fold inv l)
  clear hES
  generalize hL : l.length = L at *
  have HL := hide hL
  clear hL
  have HFT : Hid (Fit gtV L ES) := by have := (unhide HGK).fit; rwa [unhide HL] at this
  have hSZ : ES.length ≤ L := (unhide HFT).len
  have hSZ1 : 0 < L → 1 ≤ ES.length := by
    intro h0
    cases hE : ES with
    | nil => have := (unhide HFT).sum; rw [hE] at this; simp [sumg] at this; omega
    | cons a t => simp
  have ht3 : ((inv : Int) == 0) = false := by simp; omega
  obtain ⟨E, hE⟩ : ∃ E, L / inv = E := ⟨_, rfl⟩
  have hEb : E ≤ 549755813888 := by rw [← hE]; exact Nat.le_trans (Nat.div_le_self _ _) (by omega)
  have hEi : (L : Int) / (inv : Int) = (E : Int) := by rw [← hE]; simp
  have HE := hide hE
  clear hE
  go_enter Try.func6, Try.ntmps6
  by_cases hL0 : L = 0
  · subst hL0
    go_wp2_with (first
    | (go_at_call 38; refine (unhide HKN).mono ?_; rintro e w1 ⟨rfl, hk1⟩; have HK1 := hide hk1; clear hk1 HKN)
    | (go_at_call 39; refine (unhide HF _ (unhide HK1)).mono ?_; rintro e w2 ⟨b, rfl, v2, hs2, hk2, hb2, ho2⟩; rw [unhide HES, unhide HL] at hs2; have HS2 := hide hs2; have HK2 := hide ((unhide HK1).trans hk2 (by simp)); clear hs2 hk2 hb2 ho2 HF)
    | (go_at_call 40; refine (unhide HC _).mono ?_; rintro e w3 ⟨rfl, hq⟩; have hq' := hq.symm; subst hq')
    | (go_at_call 41; refine (unhide HSO _ (unhide HK2)).mono ?_; rintro e w4 ⟨ra, rc, R, rfl, hRl, hsr, hse, hk4⟩; have hs4 := (unhide HS2).keep hk4 (by simp) (by simp); have HS4 := hide hs4; have HCO := hide (count_any hs4); have HSI := hide (size_any hs4); have HK4 := hide ((unhide HK2).trans hk4 (by simp)); clear hsr hse hk4 HSO hRl hs4)
    | (go_at_call 12; refine (unhide HCO).mono ?_; rintro e w5 ⟨rfl, hq⟩; have hq' := hq.symm; subst hq')
    | (go_at_call 14; refine (unhide HSI).mono ?_; rintro e w5 ⟨rfl, hq⟩; have hq' := hq.symm; subst hq'))
    have hs4 := unhide HS4
    have HQ0 := hide (query_none hs4 0 (Or.inl (by omega)))
    have HQ1 := hide (fun W (hk : Kept [] w4 W) => query_none (hs4.keep hk (by simp) (by simp)) 1 (Or.inr (by omega)))
    have HNU := hide (fun w => num_any (w := w) 60)
    clear hs4
    go_loopw [8] (fun s8 wr => s8 = .int .i64 1 ∧ wr = w4) (fun _ _ => 0)
    case atStart => exact ⟨rfl, rfl⟩
    case round =>
      obtain ⟨rfl, rfl⟩ := hrel
      go_wp2_with (first
        | (go_at_call 19; refine (unhide HQ0).mono ?_; rintro e w5 ⟨rfl, hk5⟩; clear HQ0)
        | (go_at_call 19; refine (unhide HQ1 _ hk5).mono ?_; rintro e w6 ⟨rfl, hk6⟩; clear HQ1)
        | (go_at_call 16; refine (unhide HNU _).mono ?_; rintro e w7 ⟨rfl, hq⟩; have hq' := hq.symm; subst hq'))
      go_ret
      exact ⟨rfl, ((unhide HK4).trans hk5 (by simp)).trans hk6 (by simp)⟩
  · have hLp : 0 < L := by omega
    have hSZ2 := hSZ1 hLp
    have t0 : ((ES.length : Int) < 1) = False := by simp; omega
    have t1 : ((L : Int) < (ES.length : Int)) = False := by simp; omega
    have t2 : ((0 : Int) < (L : Int)) = True := by simp; omega
    clear hL0
    go_wp2_with (first
    | (go_at_call 38; refine (unhide HKN).mono ?_; rintro e w1 ⟨rfl, hk1⟩; have HK1 := hide hk1; clear hk1 HKN)
    | (go_at_call 39; refine (unhide HF _ (unhide HK1)).mono ?_; rintro e w2 ⟨b, rfl, v2, hs2, hk2, hb2, ho2⟩; rw [unhide HES, unhide HL] at hs2; have HS2 := hide hs2; have HK2 := hide ((unhide HK1).trans hk2 (by simp)); clear hs2 hk2 hb2 ho2 HF)
    | (go_at_call 40; refine (unhide HC _).mono ?_; rintro e w3 ⟨rfl, hq⟩; have hq' := hq.symm; subst hq')
    | (go_at_call 41; refine (unhide HSO _ (unhide HK2)).mono ?_; rintro e w4 ⟨ra, rc, R, rfl, hRl, hsr, hse, hk4⟩; have hs4 := (unhide HS2).keep hk4 (by simp) (by simp); have HS4 := hide hs4; have HCO := hide (count_any hs4); have HSI := hide (size_any hs4); have HK4 := hide ((unhide HK2).trans hk4 (by simp)); have HRL := hide hRl; have HSR := hide hsr; have HSE := hide hse; clear hsr hse hk4 HSO hRl hs4)
    | (go_at_call 12; refine (unhide HCO).mono ?_; rintro e w5 ⟨rfl, hq⟩; have hq' := hq.symm; subst hq')
    | (go_at_call 14; refine (unhide HSI).mono ?_; rintro e w5 ⟨rfl, hq⟩; have hq' := hq.symm; subst hq'))
    have HN0 := hide (fun w => num_any (w := w) 0)
    have HNU := hide (fun w => num_any (w := w) 60)
    clear HCO HSI t0 t1 t2 HC HK1
    go_loopw [8] (fun s8 wr => ∃ r : Nat, 1 ≤ r ∧ r ≤ L + 1 ∧ s8 = .int .i64 r ∧ Kept [] w4 wr) (fun s8 _ => L + 1 - (intOf s8).toNat)
    case atStart => exact ⟨1, by omega, by omega, rfl, Kept.refl _ _⟩
    case round =>
      obtain ⟨r, hr1, hr2, rfl, hkr⟩ := hrel
      have HKR := hide hkr
      by_cases hrl : r ≤ L
      · have t1 : ((r : Int) ≤ (L : Int)) = True := by simp; omega
        have HQ := hide (query_any ((unhide HS4).keep hkr (by simp) (by simp)) (unhide HFT) (by omega) r hr1 hrl)
        have hno := near_ok (unhide HGK) (r := r) hr1 (by rw [unhide HL]; exact hrl)
        rw [unhide HL, unhide HE] at hno
        obtain ⟨⟨k0, k1, k2, k3, k4⟩, hend⟩ := hno
        have hk0 : R.getD (k0 - 1) 0 = nearE 0 r ES := place_of (unhide HSR).perm (unhide HSR).rise k3 k4
        have hk0L : k0 ≤ L := by have := lec_len l (nearE 0 r ES); rw [unhide HL] at this; omega
        have HK0 : Hid ((r : Int) - E ≤ (k0 : Int) ∧ k0 ≤ r + E ∧ 1 ≤ k0 ∧ k0 ≤ L ∧ R.getD (k0 - 1) 0 = nearE 0 r ES) := ⟨k1, k2, by omega, hk0L, hk0⟩
        have HEN : Hid (r = 1 ∨ r = L → R.getD (r - 1) 0 = nearE 0 r ES) := fun h => place_of (unhide HSR).perm (unhide HSR).rise (hend h).1 (hend h).2
        have HRW : Hid (∀ W, Kept [] w4 W → ∀ j : Nat, j < L → ∃ b' off, ra = some ⟨b', off, none⟩ ∧ W.cell? ⟨b', off + j, none⟩ = some (.int .i64 (R.getD j 0))) := by
          intro W hk j hj
          obtain ⟨a', c', hv, -, -, h4⟩ := (unhide HSE).kept hk (Or.inr (by simp))
          have hv1 : a' = ra := by injection hv with h1; exact h1.symm
          subst hv1
          exact at_int (k := j) (unhide HRL) h4 hj
        obtain ⟨br, orr, rfl, -⟩ := unhide HRW w4 (Kept.refl _ _) 0 hLp
        have HRC : Hid (∀ W, Kept [] w4 W → ∀ j : Nat, j < L → W.cell? ⟨br, orr + j, none⟩ = some (.int .i64 (R.getD j 0))) := by
          intro W hk j hj
          obtain ⟨b', o', e, h⟩ := unhide HRW W hk j hj
          cases e; exact h
        clear hkr k1 k2 k3 k4 hend hk0 hk0L HRW
        generalize nearE 0 r ES = x at *
        go_wp2_with (first
          | (go_at_call 19; refine (unhide HQ).mono ?_; rintro e w5 ⟨rfl, hk5⟩; have HK5 := hide ((unhide HKR).trans hk5 (by simp)); clear HQ hk5))
        go_loopw [11, 12] (fun s11 s12 wi => ∃ (bb : Bool) (kk : Int), s11 = .bool bb ∧ s12 = .int .i64 kk ∧ (r : Int) - E ≤ kk ∧ kk ≤ (r : Int) + E + 1 ∧ Kept [] w4 wi ∧ (bb = true ∨ ∀ j : Nat, (r : Int) - E ≤ j → (j : Int) < kk → 1 ≤ j → j ≤ L → R.getD (j - 1) 0 ≠ x)) (fun _ s12 _ => ((r : Int) + E + 1 - intOf s12).toNat)
        case atStart => exact ⟨false, _, rfl, rfl, by omega, by omega, unhide HK5, Or.inr (fun j h1 h3 => by omega)⟩
        case round =>
          obtain ⟨bb, kk, rfl, rfl, hkk1, hkk2, hki, hbb⟩ := hrel
          have HKI := hide hki
          have HBB := hide hbb
          clear hki hbb
          by_cases hke : kk ≤ (r : Int) + E
          · have t2 : (kk ≤ (r : Int) + (E : Int)) = True := eq_true hke
            cases bb with
            | true =>
              go_wp2_with fail
              exact ⟨⟨true, kk + 1, rfl, rfl, by omega, by omega, unhide HKI, Or.inl rfl⟩, by simp [intOf]; omega⟩
            | false =>
              have HOL : Hid (∀ j : Nat, (r : Int) - E ≤ j → (j : Int) < kk → 1 ≤ j → j ≤ L → R.getD (j - 1) 0 ≠ x) := by
                rcases unhide HBB with h | h
                · cases h
                · exact h
              clear HBB
              by_cases hk1 : 1 ≤ kk
              · by_cases hkl : kk ≤ (L : Int)
                · obtain ⟨q, rfl⟩ : ∃ q : Nat, kk = (q : Int) + 1 := ⟨(kk - 1).toNat, by omega⟩
                  have hcq := unhide HRC _ (unhide HKI) q (by omega)
                  have hqL : q < L := by omega
                  have t3 : ((1 : Int) ≤ (q : Int) + 1) = True := by simp; omega
                  have t4 : ((q : Int) + 1 ≤ (L : Int)) = True := eq_true hkl
                  obtain ⟨y, hy⟩ : ∃ y, R.getD q 0 = y := ⟨_, rfl⟩
                  rw [hy] at hcq
                  have HY := hide hy
                  clear hy
                  go_wp2_with fail
                  refine ⟨⟨(y == x), _, rfl, rfl, by omega, by omega, unhide HKI, ?_⟩, by simp [intOf]; omega⟩
                  by_cases hyx : y = x
                  · exact Or.inl (by simp [hyx])
                  · refine Or.inr (fun j h1 h3 h4 h5 => ?_)
                    by_cases hjq : (j : Int) < (q : Int) + 1
                    · exact unhide HOL j h1 hjq h4 h5
                    · obtain rfl : j = q + 1 := by omega
                      rw [Nat.add_sub_cancel, unhide HY]
                      exact hyx
                · have t3 : ((1 : Int) ≤ kk) = True := eq_true hk1
                  have t4 : (kk ≤ (L : Int)) = False := eq_false hkl
                  go_wp2_with fail
                  exact ⟨⟨false, kk + 1, rfl, rfl, by omega, by omega, unhide HKI, Or.inr (fun j h1 h3 h4 h5 => unhide HOL j h1 (by omega) h4 h5)⟩, by simp [intOf]; omega⟩
              · have t3 : ((1 : Int) ≤ kk) = False := eq_false hk1
                go_wp2_with fail
                exact ⟨⟨false, kk + 1, rfl, rfl, by omega, by omega, unhide HKI, Or.inr (fun j h1 h3 h4 h5 => unhide HOL j h1 (by omega) h4 h5)⟩, by simp [intOf]; omega⟩
          · have t2 : (kk ≤ (r : Int) + (E : Int)) = False := eq_false hke
            have hbt : bb = true := by
              rcases unhide HBB with h | h
              · exact h
              · obtain ⟨g1, g2, g3, g4, g5⟩ := unhide HK0
                exact absurd g5 (h k0 g1 (by omega) g3 g4)
            subst hbt
            clear HBB
            obtain ⟨q, hq⟩ : ∃ q : Nat, r = q + 1 := ⟨r - 1, by omega⟩
            have hcq := unhide HRC _ (unhide HKI) q (by omega)
            have hqL : q < L := by omega
            have hji : (r : Int) - 1 = (q : Int) := by omega
            have hwi : IntKind.i64.wrap (q : Int) = (q : Int) := by rw [IntKind.wrap_i64]; omega
            have hrq : r - 1 = q := by omega
            have HRQ := hide hrq
            clear hq hrq
            by_cases hr0 : r = 1
            · have hx := unhide HEN (Or.inl hr0)
              rw [unhide HRQ] at hx
              rw [hx] at hcq
              have b1 : ((r : Int) == 1) = true := by simp; omega
              clear hx hr0
              go_wp2_with (first | (go_at_call 16; refine (unhide HN0 _).mono ?_; rintro e w7 ⟨rfl, hq⟩; have hq' := hq.symm; subst hq'))
              exact ⟨⟨r + 1, by omega, by omega, by simp, unhide HKI⟩, by simp [intOf]; omega⟩
            · by_cases hrL : r = L
              · have hx := unhide HEN (Or.inr hrL)
                rw [unhide HRQ] at hx
                rw [hx] at hcq
                have b1 : ((r : Int) == 1) = false := by simp; omega
                have b2 : ((r : Int) == (L : Int)) = true := by simp; omega
                clear hx hr0 hrL
                go_wp2_with (first | (go_at_call 16; refine (unhide HN0 _).mono ?_; rintro e w7 ⟨rfl, hq⟩; have hq' := hq.symm; subst hq'))
                exact ⟨⟨r + 1, by omega, by omega, by simp, unhide HKI⟩, by simp [intOf]; omega⟩
              · have b1 : ((r : Int) == 1) = false := by simp; omega
                have b2 : ((r : Int) == (L : Int)) = false := by simp; omega
                clear hr0 hrL
                go_wp2_with (first | (go_at_call 16; refine (unhide HN0 _).mono ?_; rintro e w7 ⟨rfl, hq⟩; have hq' := hq.symm; subst hq'))
                exact ⟨⟨r + 1, by omega, by omega, by simp, unhide HKI⟩, by simp [intOf]; omega⟩
      · obtain rfl : r = L + 1 := by omega
        have t1 : (((L + 1 : Nat) : Int) ≤ (L : Int)) = False := by simp; omega
        have hs4 := unhide HS4
        have HQ0 := hide (query_none (hs4.keep hkr (by simp) (by simp)) 0 (Or.inl (by omega)))
        have HQ1 := hide (fun W (hk : Kept [] w4 W) => query_none (hs4.keep hk (by simp) (by simp)) ((L : Int) + 1) (Or.inr (by omega)))
        clear hs4 hkr
        go_wp2_with (first
          | (go_at_call 19; refine (unhide HQ0).mono ?_; rintro e w5 ⟨rfl, hk5⟩; have HK5 := hide ((unhide HKR).trans hk5 (by simp)); clear HQ0 hk5)
          | (go_at_call 19; refine (unhide HQ1 _ (unhide HK5)).mono ?_; rintro e w6 ⟨rfl, hk6⟩; clear HQ1)
          | (go_at_call 16; refine (unhide HNU _).mono ?_; rintro e w7 ⟨rfl, hq⟩; have hq' := hq.symm; subst hq'))
        go_ret
        exact ⟨rfl, ((unhide HK4).trans (unhide HK5) (by simp)).trans hk6 (by simp)⟩

set_option maxHeartbeats 1000000 in
set_option maxRecDepth 100000 in
theorem near_no {w : World} {vv : Value} {l : List Int} {inv : Int} (hv : SeesI w vv l) (h : inv < 2 ∨ 1024 < inv) :
    Calls Try.prog 6 #[.int .i64 inv, vv] w fun e w' => e = .returned (.bool true) ∧ Kept [] w w' := by
  have HKN := hide (known_any (w := w))
  have HF := hide (fun W (hk : Kept [] w W) => filled_no (hv.kept hk (Or.inr (by simp))) h)
  have hcan : decide ((2 : Int) ≤ inv ∧ inv ≤ 1024) = false := by simp; omega
  have HC := hide (fun w => can_any (w := w) inv)
  rw [hcan] at HC
  obtain ⟨pv, cv, rfl, hc1, hc2, -⟩ := hv
  clear hcan h
  go_enter Try.func6, Try.ntmps6
  go_wp2_with (first
    | (go_at_call 38; refine (unhide HKN).mono ?_; rintro e w1 ⟨rfl, hk1⟩; have HK1 := hide hk1; clear hk1 HKN)
    | (go_at_call 39; refine (unhide HF _ (unhide HK1)).mono ?_; rintro e w2 ⟨rfl, hk2⟩; have HK2 := hide ((unhide HK1).trans hk2 (by simp)); clear hk2 HF)
    | (go_at_call 40; refine (unhide HC _).mono ?_; rintro e w3 ⟨rfl, hq⟩; have hq' := hq.symm; subst hq'))
  go_ret
  exact ⟨rfl, unhide HK2⟩
end Go.Proofs.Ytgiifedljebclaa
