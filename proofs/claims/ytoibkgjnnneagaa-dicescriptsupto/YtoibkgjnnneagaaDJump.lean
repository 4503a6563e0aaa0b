/- DiceJumps: the walk. -/
import Derived.Test.YtoibkgjnnneagaaDOne
namespace Go.Proofs.Ytoibkgjnnneagaa
open Go.RowKit

theorem Kept.push {a b c : World} {k : Nat} (h : Kept [] a b) (h2 : Kept [k] b c) (hk : a.heap.size ≤ k) : Kept [] a c :=
  h.trans h2 (fun x hx => by simp at hx; subst hx; exact Or.inr hk)
theorem Kept.more {a b c : World} (h : Kept [] a b) (h2 : Kept [] b c) : Kept [] a c := h.trans h2 (fun x hx => by simp at hx)

set_option maxRecDepth 100000 in
set_option maxHeartbeats 2000000 in
theorem jumps_walk (w : World) (s f m : Nat) (few : Int) (hs : s < 18446744073709551616) (hf : f < 18446744073709551616) :
    Calls Try.prog 6 #[.int .u64 s, .int .u64 f, .int .u64 m, .int .i64 few] w fun e w' => e = .returned (.bool true) ∧ Kept [] w w' := by
  have HA := hide (awake_any w)
  have HN1 := fun w => hide (new_any w s hs)
  have HN2 := HN1
  have HN3 := HN1
  have HN4 := HN1
  have HJ1 := fun w1 b1 (h : Dc w1 b1 s) => hide (jump_any h f)
  have HJ2 := fun w1 b1 (h : Dc w1 b1 (on s f)) => hide (jump_any h m)
  have HJ3 := fun w1 b1 (h : Dc w1 b1 s) => hide (jump_any h ((f + m) % 18446744073709551616))
  have e1 : IntKind.u64.wrap ((f : Int) + (m : Int)) = (((f + m) % 18446744073709551616 : Nat) : Int) := by rw [IntKind.wrap_u64]; omega
  have e2 : IntKind.u64.wrap (-(f : Int)) = (((18446744073709551616 - f % 18446744073709551616) % 18446744073709551616 : Nat) : Int) := by rw [IntKind.wrap_u64]; omega
  have hT1 := fun w => hide (stepsAt_any w s (on s f) hs (on_lt _ _))
  have hT2 := fun w => hide (stepsAt_any w (on s f) s (on_lt _ _) hs)
  have hT3 := fun w => hide (stepsAt_any w s (on s (f + m)) hs (on_lt _ _))
  rw [steps_on hs, Nat.mod_eq_of_lt hf] at hT1
  rw [steps_back hs] at hT2
  rw [steps_on hs] at hT3
  rw [on_mod] at HJ3
  rw [on_on] at HJ2
  have HR := hide (fun w => round_any w few 200 (by omega) (by omega))
  have hr0 := Int.emod_nonneg few (b := 200) (by omega)
  have hr1 := Int.emod_lt_of_pos few (b := 200) (by omega)
  have hrc : ∃ r : Nat, few % ((200 : Nat) : Int) = (r : Int) ∧ r < 200 := ⟨(few % 200).toNat, by show few % 200 = _; omega, by omega⟩
  obtain ⟨r, hr, hrl⟩ := hrc
  rw [hr] at HR
  clear hr hr0 hr1
  have HX := fun k w1 b1 (h : Dc w1 b1 (on s k)) => hide (next_any h)
  have hx1 : ∀ k, on (on s k) 1 = on s (k + 1) := fun k => on_one s k
  have HJ4 := fun w1 b1 (h : Dc w1 b1 s) => hide (jump_any h r)
  have hT4 := fun w => hide (stepsAt_any w s (on s (r + 1)) hs (on_lt _ _))
  rw [steps_on hs, Nat.mod_eq_of_lt (by omega)] at hT4
  simp only [hx1] at HX
  have h0 := on_zero hs
  generalize (f + m) % 18446744073709551616 = fm at *
  generalize (18446744073709551616 - f % 18446744073709551616) % 18446744073709551616 = nf at *
  clear hs hf hx1
  generalize f + m = g at *
  go_enter Try.func6, Try.ntmps6
  go_wp2_with (first
    | (go_at_call 20; refine (unhide HA).mono ?_; rintro e w1 ⟨rfl, hk⟩; clear HA; have hK := hide hk; clear hk)
    | (go_at_call 9; refine (unhide (HN1 _)).mono ?_; rintro e w2 ⟨b1, rfl, hd1, hb, hk⟩; clear HN1; replace hd1 := hide hd1; have g1 : w.heap.size ≤ b1 := Nat.le_trans (unhide hK).size hb; replace hK := hide ((unhide hK).more hk); clear hb hk)
    | (go_at_call 9; refine (unhide (HN2 _)).mono ?_; rintro e w3 ⟨b2, rfl, hd2, hb, hk⟩; clear HN2; replace hd2 := hide hd2; have n12 : b1 ≠ b2 := (by have := (unhide hd1).blk.lt; omega); have g2 : w.heap.size ≤ b2 := Nat.le_trans (unhide hK).size hb; replace hd1 := hide ((unhide hd1).keep hk (by simp)); replace hK := hide ((unhide hK).more hk); clear hb hk)
    | (go_at_call 24; refine (unhide (HJ1 _ _ (unhide hd1))).mono ?_; rintro e w4 ⟨rfl, hd, hk⟩; clear HJ1; replace hd2 := hide ((unhide hd2).keep hk (by simpa using n12.symm)); have q1 := hide hd; clear hd1 hd; replace hK := hide ((unhide hK).push hk g1); clear hk; have hS := hide (state_any (unhide q1)))
    | (go_at_call 23; refine (unhide hS).mono ?_; rintro e w5 ⟨rfl, hq⟩; have hq' := hq.symm; subst hq'; clear hS)
    | (go_at_call 24; refine (unhide (HJ2 _ _ (unhide q1))).mono ?_; rintro e w5 ⟨rfl, hd, hk⟩; clear HJ2; replace hd2 := hide ((unhide hd2).keep hk (by simpa using n12.symm)); have q2 := hide hd; clear q1 hd; replace hK := hide ((unhide hK).push hk g1); clear hk)
    | (go_at_call 24; refine (unhide (HJ3 _ _ (unhide hd2))).mono ?_; rintro e w6 ⟨rfl, hd, hk⟩; clear HJ3; replace q2 := hide ((unhide q2).keep hk (by simpa using n12)); have q3 := hide hd; clear hd2 hd; replace hK := hide ((unhide hK).push hk g2); clear hk; have hS1 := hide (state_any (unhide q2)); have hS2 := hide (state_any (unhide q3)); clear q2 q3)
    | (go_at_call 19; refine (unhide (hT1 _)).mono ?_; rintro e w7 ⟨rfl, hq⟩; have hq' := hq.symm; subst hq'; clear hT1)
    | (go_at_call 19; refine (unhide (hT2 _)).mono ?_; rintro e w7 ⟨rfl, hq⟩; have hq' := hq.symm; subst hq'; clear hT2)
    | (go_at_call 23; refine (unhide hS1).mono ?_; rintro e w7 ⟨rfl, hq⟩; have hq' := hq.symm; subst hq')
    | (go_at_call 23; refine (unhide hS2).mono ?_; rintro e w7 ⟨rfl, hq⟩; have hq' := hq.symm; subst hq')
    | (go_at_call 19; refine (unhide (hT3 _)).mono ?_; rintro e w7 ⟨rfl, hq⟩; have hq' := hq.symm; subst hq'; clear hT3)
    | (go_at_call 11; refine (unhide HR _).mono ?_; rintro e w7 ⟨rfl, hq⟩; have hq' := hq.symm; subst hq'; clear HR hS1 hS2)
    | (go_at_call 9; refine (unhide (HN3 _)).mono ?_; rintro e w8 ⟨b3, rfl, hd3, hb, hk⟩; clear HN3; replace hd3 := hide hd3; have g3 : w.heap.size ≤ b3 := Nat.le_trans (unhide hK).size hb; replace hK := hide ((unhide hK).more hk); clear hb hk)
    | (go_at_call 9; refine (unhide (HN4 _)).mono ?_; rintro e w9 ⟨b4, rfl, hd4, hb, hk⟩; clear HN4; replace hd4 := hide hd4; have n34 : b3 ≠ b4 := (by have := (unhide hd3).blk.lt; omega); have g4 : w.heap.size ≤ b4 := Nat.le_trans (unhide hK).size hb; replace hd3 := hide ((unhide hd3).keep hk (by simp)); replace hK := hide ((unhide hK).more hk); clear hb hk))
  clear e1 e2
  go_loopw [14] (fun s14 wr => ∃ k : Nat, k ≤ r ∧ s14 = .int .i64 (k : Int) ∧ Dc wr b3 (on s k) ∧ Dc wr b4 s ∧ Kept [] w wr) (fun s14 _ => r - (intOf s14).toNat)
  case atStart => exact ⟨0, by omega, rfl, by rw [h0]; exact unhide hd3, unhide hd4, unhide hK⟩
  case round =>
    obtain ⟨k, hk, rfl, q3, q4, hkp⟩ := hrel
    clear hK hd3 hd4
    replace q3 := hide q3
    replace q4 := hide q4
    replace hkp := hide hkp
    by_cases hlt : k < r
    · replace HX := HX k
      go_wp2_with (first
        | (go_at_call 21; refine (unhide (HX _ _ (unhide q3))).mono ?_; rintro e w10 ⟨rfl, hd, hk⟩; clear HX; replace hd := hide hd; replace hk := hide hk))
      exact ⟨⟨k + 1, by omega, by simp, unhide hd, (unhide q4).keep (unhide hk) (by simpa using n34.symm), (unhide hkp).push (unhide hk) g3⟩, by simp [intOf]; omega⟩
    · obtain rfl : k = r := by omega
      replace HX := HX k
      have HX2 := HX
      go_wp2_with (first
        | (go_at_call 24; refine (unhide (HJ4 _ _ (unhide q4))).mono ?_; rintro e w11 ⟨rfl, hd, hk⟩; clear HJ4; have q5 := hide hd; clear hd q4; replace q3 := hide ((unhide q3).keep hk (by simpa using n34)); replace hkp := hide ((unhide hkp).push hk g4); clear hk)
        | (go_at_call 21; refine (unhide (HX _ _ (unhide q3))).mono ?_; rintro e w12 ⟨rfl, hd, hk⟩; clear HX; replace q5 := hide ((unhide q5).keep hk (by simpa using n34.symm)); have q6 := hide hd; clear q3 hd; replace hkp := hide ((unhide hkp).push hk g3); clear hk)
        | (go_at_call 21; refine (unhide (HX2 _ _ (unhide q5))).mono ?_; rintro e w13 ⟨rfl, hd, hk⟩; clear HX2; replace q6 := hide ((unhide q6).keep hk (by simpa using n34)); have q7 := hide hd; clear q5 hd; replace hkp := hide ((unhide hkp).push hk g4); clear hk; have hS1 := hide (state_any (unhide q6)); have hS2 := hide (state_any (unhide q7)); clear q6 q7)
        | (go_at_call 23; refine (unhide hS1).mono ?_; rintro e w14 ⟨rfl, hq⟩; have hq' := hq.symm; subst hq')
        | (go_at_call 23; refine (unhide hS2).mono ?_; rintro e w14 ⟨rfl, hq⟩; have hq' := hq.symm; subst hq')
        | (go_at_call 19; refine (unhide (hT4 _)).mono ?_; rintro e w14 ⟨rfl, hq⟩; have hq' := hq.symm; subst hq'; clear hT4))
      go_ret
      exact ⟨by first | rfl | trace_state, unhide hkp⟩
end Go.Proofs.Ytoibkgjnnneagaa
