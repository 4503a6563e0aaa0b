/- steps on nil. -/
import Derived.Test.YtoibkgjnnneagaaDStep3
namespace Go.Proofs.Ytoibkgjnnneagaa
open Go.RowKit

set_option maxRecDepth 100000 in
set_option maxHeartbeats 4000000 in
theorem nstep1 (w : World) (wh n f : Int) (v : Value) :
    Calls Try.prog 12 #[.pointer none, .pointer none, .agg #[.int .i64 1, .int .i64 wh, .int .i64 n, .int .u64 f, v]] w fun e w' => e = .returned (.bool true) ∧ Kept [] w w' := by
  go_enter Try.func12, Try.ntmps12
  go_wp2_with (first
    | (go_at_call 29; refine (rnstate _).mono ?_; rintro e w1 ⟨rfl, hq⟩; have hq' := hq.symm; subst hq')
    | (go_at_call 23; refine (nstate _).mono ?_; rintro e w1 ⟨rfl, hq⟩; have hq' := hq.symm; subst hq'))
  go_ret
  exact ⟨rfl, (Kept.refl _ _).alloc _⟩

set_option maxRecDepth 100000 in
set_option maxHeartbeats 4000000 in
theorem nstep2 (w : World) (wh n f : Int) (v : Value) :
    Calls Try.prog 12 #[.pointer none, .pointer none, .agg #[.int .i64 2, .int .i64 wh, .int .i64 n, .int .u64 f, v]] w fun e w' => e = .returned (.bool true) ∧ Kept [] w w' := by
  go_enter Try.func12, Try.ntmps12
  go_wp2_with (first
    | (go_at_call 30; refine (rnnext _).mono ?_; rintro e w1 ⟨rfl, hq⟩; have hq' := hq.symm; subst hq')
    | (go_at_call 21; refine (nnext _).mono ?_; rintro e w1 ⟨rfl, hq⟩; have hq' := hq.symm; subst hq'))
  go_ret
  exact ⟨rfl, (Kept.refl _ _).alloc _⟩

set_option maxRecDepth 100000 in
set_option maxHeartbeats 4000000 in
theorem nstep3 (w : World) (wh n f : Int) (v : Value) :
    Calls Try.prog 12 #[.pointer none, .pointer none, .agg #[.int .i64 3, .int .i64 wh, .int .i64 n, .int .u64 f, v]] w fun e w' => e = .returned (.bool true) ∧ Kept [] w w' := by
  go_enter Try.func12, Try.ntmps12
  go_wp2_with (first
    | (go_at_call 31; refine (rnjump _ f).mono ?_; rintro e w1 ⟨rfl, hq⟩; have hq' := hq.symm; subst hq')
    | (go_at_call 24; refine (njump _ f).mono ?_; rintro e w1 ⟨rfl, hq⟩; have hq' := hq.symm; subst hq'))
  go_ret
  exact ⟨rfl, (Kept.refl _ _).alloc _⟩

set_option maxRecDepth 100000 in
set_option maxHeartbeats 4000000 in
theorem nstep4 (w : World) (wh n f : Int) (v : Value) :
    Calls Try.prog 12 #[.pointer none, .pointer none, .agg #[.int .i64 4, .int .i64 wh, .int .i64 n, .int .u64 f, v]] w fun e w' => e = .returned (.bool true) ∧ Kept [] w w' := by
  go_enter Try.func12, Try.ntmps12
  go_wp2_with (first
    | (go_at_call 32; refine (rnroll _ n).mono ?_; rintro e w1 ⟨rfl, hq⟩; have hq' := hq.symm; subst hq')
    | (go_at_call 25; refine (nroll _ n).mono ?_; rintro e w1 ⟨rfl, hq⟩; have hq' := hq.symm; subst hq'))
  go_ret
  exact ⟨rfl, (Kept.refl _ _).alloc _⟩

set_option maxRecDepth 100000 in
set_option maxHeartbeats 4000000 in
theorem nstep5 (w : World) (wh n f : Int) (v : Value) :
    Calls Try.prog 12 #[.pointer none, .pointer none, .agg #[.int .i64 5, .int .i64 wh, .int .i64 n, .int .u64 f, v]] w fun e w' => e = .returned (.bool true) ∧ Kept [] w w' := by
  have HB := kb
  go_enter Try.func12, Try.ntmps12
  go_wp2_with (first
    | (go_at_call 33; refine (rnreal _).mono ?_; rintro e w1 ⟨rfl, hq⟩; have hq' := hq.symm; subst hq')
    | (go_at_call 28; refine (nreal _).mono ?_; rintro e w1 ⟨rfl, hq⟩; have hq' := hq.symm; subst hq'))
  go_ret
  exact ⟨rfl, (Kept.refl _ _).alloc _⟩

set_option maxRecDepth 100000 in
set_option maxHeartbeats 4000000 in
theorem nstep6 (w : World) (wh n f : Int) (v : Value) :
    Calls Try.prog 12 #[.pointer none, .pointer none, .agg #[.int .i64 6, .int .i64 wh, .int .i64 n, .int .u64 f, v]] w fun e w' => e = .returned (.bool true) ∧ Kept [] w w' := by
  have K0 : Hid (Kept [] w (w.alloc (.cells #[.int .i64 6, .int .i64 wh, .int .i64 n, .int .u64 f, v] 33))) := (Kept.refl _ _).alloc _
  have HSM := fun w1 => hide (same_any (SeesI.nil w1) (SeesI.nil w1))
  by_cases h1 : n > 300 ∧ n ≤ 65536
  · obtain ⟨h1, h2⟩ := h1
    go_enter Try.func12, Try.ntmps12
    go_wp2_with fail
    go_ret
    exact ⟨rfl, unhide K0⟩
  · have tt : (¬ n > 300) ∨ (¬ n ≤ 65536) := by omega
    clear h1
    rcases tt with tt | tt
    all_goals go_enter Try.func12, Try.ntmps12
    all_goals go_wp2_with (first
      | (go_at_call 35; refine (rnshuffle _ n).mono ?_; rintro e w1 ⟨rfl, hq⟩; have hq' := hq.symm; subst hq')
      | (go_at_call 36; refine (nshuffle _ n).mono ?_; rintro e w1 ⟨rfl, hq⟩; have hq' := hq.symm; subst hq')
      | (go_at_call 37; refine (unhide (HSM _)).mono ?_; rintro e w2 ⟨rfl, hmm⟩; have hfin : Hid (Kept [] w w2) := (by obtain ⟨m, rfl⟩ := hmm; exact (unhide K0).drewN m); clear HSM hmm))
    all_goals go_loopw [14] (fun s14 wr => s14 = .int .i64 0 ∧ wr = w2) (fun _ _ => 0)
    all_goals first
      | exact ⟨rfl, rfl⟩
      | (obtain ⟨rfl, rfl⟩ := hrel; go_wp2_with fail; go_ret; exact ⟨rfl, unhide hfin⟩)

set_option maxRecDepth 100000 in
set_option maxHeartbeats 4000000 in
theorem nstep7 {w : World} (wh n f : Int) {v : Value} {l : List Nat} (hv : SeesU w v l) (hl : l.length ≤ 2097152) :
    Calls Try.prog 12 #[.pointer none, .pointer none, .agg #[.int .i64 7, .int .i64 wh, .int .i64 n, .int .u64 f, v]] w fun e w' => e = .returned (.bool true) ∧ Kept [] w w' := by
  have HB0 := Blk.new w #[.int .i64 7, .int .i64 wh, .int .i64 n, .int .u64 f, v] 33
  have K0 : Hid (Kept [] w (w.alloc (.cells #[.int .i64 7, .int .i64 wh, .int .i64 n, .int .u64 f, v] 33))) := (Kept.refl _ _).alloc _
  have HBk : Hid (∀ w1, Kept [] (w.alloc (.cells #[.int .i64 7, .int .i64 wh, .int .i64 n, .int .u64 f, v] 33)) w1 → w1.cell? ⟨w.heap.size, 4, none⟩ = some v) := fun w1 hk => by
    have h := HB0.kept hk (by simp)
    rw [h.cell]; rfl
  have HU : Hid (∀ w1, Kept [] w w1 → SeesU w1 v l) := fun w1 hk => hv.kept hk (Or.inr (by simp))
  have HFL := fun w1 (h : SeesU w1 v l) => hide (floats_any h hl)
  have HFL2 := HFL
  have HKP := fun w1 base g c (h1 : FRow w1 base g c l) (h2 : SeesU w1 v l) => hide (kept_any h1 h2 hl)
  obtain ⟨vp, vc, rfl, -, -, -⟩ := hv
  generalize hLL : l.length = LL at *
  clear HB0 hLL
  go_enter Try.func12, Try.ntmps12
  go_wp2_with (first
    | (go_at_call 39; refine (unhide (HFL _ (unhide HU _ (unhide K0)))).mono ?_; rintro e w1 ⟨g1, c1, rfl, hfr, hk⟩; clear HFL hfr; have KA := hide hk; have cV := unhide HBk _ hk; clear hk)
    | (go_at_call 38; refine (rnpick _ _ _ _).mono ?_; rintro e w2 ⟨rfl, hq⟩; have hq' := hq.symm; subst hq')
    | (go_at_call 39; refine (unhide (HFL2 _ (unhide HU _ ((unhide K0).more (unhide KA))))).mono ?_; rintro e w3 ⟨g3, c3, rfl, hfr3, hk⟩; clear HFL2; have KC := hide ((unhide KA).more hk); have cV3 := unhide HBk _ (unhide KC); replace hfr3 := hide hfr3; clear hk cV)
    | (go_at_call 13; refine (npick _ _ _ _).mono ?_; rintro e w4 ⟨rfl, hq⟩; have hq' := hq.symm; subst hq')
    | (go_at_call 40; refine (unhide (HKP _ _ _ _ (unhide hfr3) (unhide HU _ ((unhide K0).more (unhide KC))))).mono ?_; rintro e w5 ⟨rfl, hk⟩; have hfin : Hid (Kept [] w w5) := ((unhide K0).more (unhide KC)).more hk; clear HKP hk))
  go_ret
  exact ⟨rfl, unhide hfin⟩
end Go.Proofs.Ytoibkgjnnneagaa
