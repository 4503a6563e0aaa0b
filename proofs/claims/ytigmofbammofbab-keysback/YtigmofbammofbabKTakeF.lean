/- Real numbers and points at the beginning. -/
import Derived.Test.YtigmofbammofbabKTake
namespace Go.Proofs.Ytigmofbammofbab
open Go.RowKit

set_option maxRecDepth 100000 in
set_option maxHeartbeats 400000 in
theorem takeReal_any {w : World} {v : Value} {bs : List Nat} (hs : Sees w v bs) :
    Calls Try.prog 46 #[v] w fun e w' => Out v.ownBlock (fun m : Nat => .float .f64 m) (.float .f64 0) (takeF bs) w' e ∧ Kept [] w w' := by
  have HTW := hide (takeWord_any hs)
  obtain ⟨a, cap, rfl, h1, h2, h3, h4⟩ := hs
  generalize bs.length = L at *
  unfold takeF
  cases hw : takeW bs with
  | none =>
    rw [hw] at HTW
    go_enter Try.func46, Try.ntmps46
    go_wp2_with (first | (go_at_call 57; refine (unhide HTW).mono ?_; rintro e w1 ⟨rfl, hk1⟩; have HK1 := hide hk1; clear hk1))
    go_ret3
    exact ⟨rfl, unhide HK1⟩
  | some mr =>
    obtain ⟨m, r⟩ := mr
    rw [hw] at HTW
    have hlt := (takeW_lt hw h3).1
    have HRA := hide (realAt_any m hlt)
    have HPR := hide (preal_any (backN m) (backN_lt hlt))
    have hpl := placeR_lt (backN_lt hlt)
    clear h3 h4 hw
    simp only
    by_cases hp : placeR (backN m) = m
    · rw [if_pos hp]
      rw [hp] at HPR
      clear hpl hp
      generalize backN m = q at *
      go_enter Try.func46, Try.ntmps46
      go_wp2_with (first | (go_at_call 57; refine (unhide HTW).mono ?_; rintro e w1 ⟨⟨ra, mm, rc, rfl, hl1, hs1⟩, hk1⟩; have HK1 := hide hk1; have HS1 := hide (⟨hl1, hs1⟩ : _ ∧ _); clear hk1 hl1 hs1) | (go_at_call 59; refine (unhide HRA _).mono ?_; rintro e w' ⟨rfl, hq⟩; have hq' := hq.symm; subst hq') | (go_at_call 42; refine (unhide HPR _).mono ?_; rintro e w' ⟨rfl, hq⟩; have hq' := hq.symm; subst hq'))
      go_ret3
      exact ⟨⟨ra, mm, rc, rfl, (unhide HS1).1, (unhide HS1).2⟩, unhide HK1⟩
    · rw [if_neg hp]
      generalize placeR (backN m) = pq at *
      generalize backN m = q at *
      have t1 : ((pq : Int) != (m : Int)) = true := by simp; omega
      go_enter Try.func46, Try.ntmps46
      go_wp2_with (first | (go_at_call 57; refine (unhide HTW).mono ?_; rintro e w1 ⟨⟨ra, mm, rc, rfl, hl1, hs1⟩, hk1⟩; have HK1 := hide hk1; have HS1 := hide (⟨hl1, hs1⟩ : _ ∧ _); clear hk1 hl1 hs1) | (go_at_call 59; refine (unhide HRA _).mono ?_; rintro e w' ⟨rfl, hq⟩; have hq' := hq.symm; subst hq') | (go_at_call 42; refine (unhide HPR _).mono ?_; rintro e w' ⟨rfl, hq⟩; have hq' := hq.symm; subst hq'))
      go_ret3
      exact ⟨rfl, unhide HK1⟩

set_option maxRecDepth 100000 in
set_option maxHeartbeats 400000 in
theorem takePoint_any {w : World} {v : Value} {bs : List Nat} (hs : Sees w v bs) :
    Calls Try.prog 47 #[v] w fun e w' => Out v.ownBlock (fun m : Nat × Nat => .complex .f64 m.1 m.2) (.complex .f64 0 0) (takeP bs) w' e ∧ Kept [] w w' := by
  have HTW := hide (takeReal_any hs)
  obtain ⟨a, cap, rfl, h1, h2, h3, h4⟩ := hs
  generalize bs.length = L at *
  unfold takeP
  cases hw : takeF bs with
  | none =>
    rw [hw] at HTW
    go_enter Try.func47, Try.ntmps47
    go_wp2_with (first | (go_at_call 46; refine (unhide HTW).mono ?_; rintro e w1 ⟨rfl, hk1⟩; have HK1 := hide hk1; clear hk1))
    go_ret3
    exact ⟨rfl, unhide HK1⟩
  | some mr =>
    obtain ⟨m, r⟩ := mr
    rw [hw] at HTW
    simp only
    clear h3 h4 hw
    cases hw2 : takeF r with
    | none =>
      simp only
      go_enter Try.func47, Try.ntmps47
      go_wp2_with (first | (go_at_call 46; refine (unhide HTW).mono ?_; rintro e w1 ⟨⟨ra, mm, rc, rfl, hl1, hs1⟩, hk1⟩; have HK1 := hide hk1; have HT2 := hide (takeReal_any hs1.1); rw [hw2] at HT2; have HB1 := hide hs1.2; clear hk1 hl1 hs1 HTW) | (go_at_call 46; refine (unhide HT2).mono ?_; rintro e w2 ⟨rfl, hk2⟩; have HK2 := hide ((unhide HK1).trans hk2 (by simp)); clear hk2))
      go_ret3
      exact ⟨rfl, unhide HK2⟩
    | some mr2 =>
      obtain ⟨m', r'⟩ := mr2
      simp only
      go_enter Try.func47, Try.ntmps47
      go_wp2_with (first | (go_at_call 46; refine (unhide HTW).mono ?_; rintro e w1 ⟨⟨ra, mm, rc, rfl, hl1, hs1⟩, hk1⟩; have HK1 := hide hk1; have HT2 := hide (takeReal_any hs1.1); rw [hw2] at HT2; have HB1 := hide hs1.2; clear hk1 hl1 hs1 HTW) | (go_at_call 46; refine (unhide HT2).mono ?_; rintro e w2 ⟨⟨ra2, mm2, rc2, rfl, hl2, hs2⟩, hk2⟩; have HK2 := hide ((unhide HK1).trans hk2 (by simp)); have HS2 := hide (⟨hl2, hs2⟩ : _ ∧ _); clear hk2 hl2 hs2))
      go_ret3
      exact ⟨⟨ra2, mm2, rc2, rfl, (unhide HS2).1, (unhide HS2).2.1, (unhide HS2).2.2.trans (unhide HB1)⟩, unhide HK2⟩
end Go.Proofs.Ytigmofbammofbab
