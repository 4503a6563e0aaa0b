/- steps: whatever the step. -/
import Derived.Test.YtoibkgjnnneagaaDStepN
namespace Go.Proofs.Ytoibkgjnnneagaa
open Go.RowKit

theorem steps_pair {w : World} {bd bm s : Nat} (hd : Dc w bd s) (hm : Rc w bm s) (hne : bd ≠ bm) (kd wh n : Int) (f : Nat) {v : Value} {l : List Nat} (hn : n ≤ 9223372036854775807) (hv : SeesU w v l) (hvn : l = [] ∨ ∀ k, v.ownBlock = some k → k ≠ bd ∧ k ≠ bm) (hl : l.length ≤ 2097152) (hb : ∀ j, j < l.length → l.getD j 0 < 18446744073709551616) :
    Calls Try.prog 12 #[.pointer (some ⟨bd, 0, none⟩), .pointer (some ⟨bm, 0, none⟩), .agg #[.int .i64 kd, .int .i64 wh, .int .i64 n, .int .u64 f, v]] w fun e w' => e = .returned (.bool true) ∧ Both w w' bd bm := by
  by_cases h1 : kd = 1
  · subst h1; exact step1 hd hm hne wh n f v
  by_cases h2 : kd = 2
  · subst h2; exact step2 hd hm hne wh n f v
  by_cases h3 : kd = 3
  · subst h3; exact step3 hd hm hne wh n f v
  by_cases h4 : kd = 4
  · subst h4
    by_cases hn1 : n < 1
    · exact step4low hd hm hne wh f n hn1 v
    · obtain ⟨m, rfl⟩ : ∃ m : Nat, n = (m : Int) := ⟨n.toNat, by omega⟩
      exact step4 hd hm hne wh f m (by omega) (by omega) v
  by_cases h5 : kd = 5
  · subst h5; exact step5 hd hm hne wh n f v
  by_cases h6 : kd = 6
  · subst h6
    by_cases hn1 : n < 1 ∨ 65536 < n
    · exact step6none hd hm hne wh f n hn1 v
    · by_cases hn2 : 300 < n
      · exact step6far hd hm hne wh f n hn2 (by omega) v
      · obtain ⟨m, rfl⟩ : ∃ m : Nat, n = (m : Int) := ⟨n.toNat, by omega⟩
        exact step6 hd hm hne wh f m (by omega) (by omega) v
  by_cases h7 : kd = 7
  · subst h7; exact step7 hd hm hne wh n f hv hvn hl hb
  · refine (step_other kd wh n f v ⟨h1, h2, h3, h4, h5, h6, h7⟩).mono ?_
    rintro e w' ⟨he, hk⟩
    exact ⟨he, both_of hk (Kept.refl _ _) (Kept.refl _ _) (hd.keep hk (by simp)) (hm.keep hk (by simp)) hne⟩

theorem steps_nil {w : World} (kd wh n f : Int) {v : Value} {l : List Nat} (hv : SeesU w v l) (hl : l.length ≤ 2097152) :
    Calls Try.prog 12 #[.pointer none, .pointer none, .agg #[.int .i64 kd, .int .i64 wh, .int .i64 n, .int .u64 f, v]] w fun e w' => e = .returned (.bool true) ∧ Kept [] w w' := by
  by_cases h1 : kd = 1
  · subst h1; exact nstep1 w wh n f v
  by_cases h2 : kd = 2
  · subst h2; exact nstep2 w wh n f v
  by_cases h3 : kd = 3
  · subst h3; exact nstep3 w wh n f v
  by_cases h4 : kd = 4
  · subst h4; exact nstep4 w wh n f v
  by_cases h5 : kd = 5
  · subst h5; exact nstep5 w wh n f v
  by_cases h6 : kd = 6
  · subst h6; exact nstep6 w wh n f v
  by_cases h7 : kd = 7
  · subst h7; exact nstep7 wh n f hv hl
  · exact step_other kd wh n f v ⟨h1, h2, h3, h4, h5, h6, h7⟩
end Go.Proofs.Ytoibkgjnnneagaa
