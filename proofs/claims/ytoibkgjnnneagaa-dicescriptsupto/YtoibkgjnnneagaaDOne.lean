/- DiceOneToOne, DiceJumps: walks. -/
import Derived.Test.YtoibkgjnnneagaaDAwake
namespace Go.Proofs.Ytoibkgjnnneagaa
open Go.RowKit

theorem eq_mix {x y : Nat} (hx : x < 18446744073709551616) (hy : y < 18446744073709551616) : (((mixN x : Nat) : Int) == ((mixN y : Nat) : Int)) = ((x : Int) == (y : Int)) := by
  by_cases h : x = y
  · subst h; simp
  · have : mixN x ≠ mixN y := fun e => h (by rw [← unmix_mix hx, ← unmix_mix hy, e])
    rw [bit_iff, bit_iff]; simp [h, this]
theorem add_stride (x : Nat) : IntKind.u64.wrap ((x : Int) + 11400714819323198485) = ((on x 1 : Nat) : Int) := by
  rw [IntKind.wrap_u64]; unfold on; omega

set_option maxRecDepth 100000 in
set_option maxHeartbeats 1000000 in
theorem one_walk (w : World) (x y : Nat) (hx : x < 18446744073709551616) (hy : y < 18446744073709551616) :
    Calls Try.prog 5 #[.int .u64 x, .int .u64 y] w fun e w' => e = .returned (.bool true) ∧ Kept [] w w' := by
  have HA := hide (awake_any w)
  have HM := fun v (hv : v < 18446744073709551616) w => hide (mixAt_any w v hv)
  have HU := fun v (hv : v < 18446744073709551616) w => hide (unmixAt_any w v hv)
  have e1 := eq_mix hx hy
  have hm1 := HM x hx
  have hm2 := HM y hy
  have hu1 := HU (mixN x) (mixN_lt x)
  rw [unmix_mix hx] at hu1
  have hu2 := HU x hx
  have hm3 := HM (unmixN x) (unmixN_lt x)
  rw [mix_unmix hx] at hm3
  have HN := fun w => hide (new_any w x hx)
  have HB := fun w => hide (before_any w (mixN (on x 1)) (mixN_lt _))
  have hu3 := HU (mixN (on x 1)) (mixN_lt _)
  rw [unmix_mix (on_lt _ _)] at hu3
  have ha := add_stride x
  have hbv := mix_bef (mixN_lt (on x 1))
  have hbo := on_bef (mixN (on x 1))
  rw [unmix_mix (on_lt _ _)] at hbo
  have tl := on_lt x 1
  have vl := mixN_lt (on x 1)
  have al := mixN_lt x
  clear HM HU
  generalize mixN x = a at *
  generalize mixN y = b at *
  generalize unmixN x = c at *
  generalize hv : mixN (on x 1) = v at *
  generalize bef v = q at *
  have HX := fun w1 b1 (h : Dc w1 b1 x) => hide (next_any h)
  have HQ := fun w1 b1 (h : Dc w1 b1 q) => hide (next_any h)
  rw [hv] at HX
  rw [hbo, hv] at HQ
  clear hv hbv hbo
  generalize on x 1 = t at *
  go_enter Try.func5, Try.ntmps5
  go_wp2_with (first
    | (go_at_call 20; refine (unhide HA).mono ?_; rintro e w1 ⟨rfl, hk1⟩; clear HA)
    | (go_at_call 17; refine (unhide (hm1 _)).mono ?_; rintro e w2 ⟨rfl, hq⟩; subst hq; clear hm1)
    | (go_at_call 17; refine (unhide (hm2 _)).mono ?_; rintro e w2 ⟨rfl, hq⟩; subst hq; clear hm2)
    | (go_at_call 18; refine (unhide (hu1 _)).mono ?_; rintro e w2 ⟨rfl, hq⟩; subst hq; clear hu1)
    | (go_at_call 18; refine (unhide (hu2 _)).mono ?_; rintro e w2 ⟨rfl, hq⟩; subst hq; clear hu2)
    | (go_at_call 17; refine (unhide (hm3 _)).mono ?_; rintro e w2 ⟨rfl, hq⟩; subst hq; clear hm3)
    | (go_at_call 9; refine (unhide (HN _)).mono ?_; rintro e w2 ⟨bd, rfl, hd, hbd, hk2⟩; clear HN; replace HX := HX _ _ hd; clear hd)
    | (go_at_call 21; refine (unhide HX).mono ?_; rintro e w3 ⟨rfl, hd, hk3⟩; clear HX)
    | (go_at_call 22; refine (unhide (HB _)).mono ?_; rintro e w4 ⟨be, rfl, hde, hbe, hk4⟩; clear HB; replace HQ := HQ _ _ hde; have hne : bd ≠ be := (by have := hd.blk.lt; omega); replace hd := hd.keep hk4 (by simp); clear hde)
    | (go_at_call 21; refine (unhide HQ).mono ?_; rintro e w5 ⟨rfl, hd5, hk5⟩; clear HQ; have HS1 := hide (state_any (hd.keep hk5 (by simpa using hne))); have HS2 := hide (state_any hd5); clear hd hd5)
    | (go_at_call 23; refine (unhide HS1).mono ?_; rintro e w6 ⟨rfl, hq⟩; have hq' := hq.symm; subst hq')
    | (go_at_call 23; refine (unhide HS2).mono ?_; rintro e w6 ⟨rfl, hq⟩; have hq' := hq.symm; subst hq')
    | (go_at_call 18; refine (unhide (hu3 _)).mono ?_; rintro e w2 ⟨rfl, hq⟩; have hq' := hq.symm; subst hq'; clear hu3))
  go_ret
  refine ⟨by first | rfl | trace_state, ?_⟩
  refine ((((hk1.trans hk2 ?_).trans hk3 ?_).trans hk4 ?_).trans hk5 ?_)
  · simp
  · intro z hz; simp at hz; subst hz; exact Or.inr (Nat.le_trans hk1.size hbd)
  · simp
  · intro z hz; simp at hz; subst hz; exact Or.inr (by have := hk1.size; have := hk2.size; have := hk3.size; omega)
end Go.Proofs.Ytoibkgjnnneagaa
