/- known: the sketch that the document names. -/
import Derived.Test.YtgiifedljebclabRLaw
namespace Go.Proofs.Ytgiifedljebclab
open Go.RowKit

def five : List Int := [5, 1, 4, 2, 3]
theorem five_lo : nearE 0 1 (foldE gtV 4 0 [] five) = 1 := by decide
theorem five_hi : nearE 0 5 (foldE gtV 4 0 [] five) = 5 := by decide

theorem sees_five (w : World) : SeesI (w.alloc (.cells #[.int .i64 5, .int .i64 1, .int .i64 4, .int .i64 2, .int .i64 3] 3)) (.slice (some ⟨w.heap.size, 0, none⟩) 5 5) five := by
  refine ⟨_, 5, rfl, by decide, by decide, Or.inr ⟨w.heap.size, 0, rfl, by simp, fun j hj => ?_⟩⟩
  rw [(Blk.new w _ 3).cell]
  match j, hj with
  | 0, _ => rfl
  | 1, _ => rfl
  | 2, _ => rfl
  | 3, _ => rfl
  | 4, _ => rfl
  | j + 5, hj => exact absurd hj (by simp [five])

theorem five_fit : Fit gtV 5 (foldE gtV 4 0 [] five) := fit_fold behindV (inv := 4) five (fit_nil gtV)
theorem five_count {W : World} {b : Nat} {v : Value} (hs : Sk W b 4 5 (foldE gtV 4 0 [] five) v) : Calls Try.prog 18 #[.pointer (some ⟨b, 0, none⟩)] W fun e w' => e = .returned (.int .i64 5) ∧ w' = W := count_any hs
theorem five_q1 {W : World} {b : Nat} {v : Value} (hs : Sk W b 4 5 (foldE gtV 4 0 [] five) v) : Calls Try.prog 19 #[.pointer (some ⟨b, 0, none⟩), .int .i64 1] W fun e w' => e = .returned (.tuple #[.int .i64 1, .int .i64 0]) ∧ Kept [] W w' := by
  have := query_any hs five_fit (by decide) 1 (by decide) (by decide)
  rw [five_lo] at this
  exact this
theorem five_q5 {W : World} {b : Nat} {v : Value} (hs : Sk W b 4 5 (foldE gtV 4 0 [] five) v) : Calls Try.prog 19 #[.pointer (some ⟨b, 0, none⟩), .int .i64 5] W fun e w' => e = .returned (.tuple #[.int .i64 5, .int .i64 0]) ∧ Kept [] W w' := by
  have := query_any hs five_fit (by decide) 5 (by decide) (by decide)
  rw [five_hi] at this
  exact this

set_option maxHeartbeats 1000000 in
set_option maxRecDepth 100000 in
theorem known_any {w : World} : Calls Try.prog 4 #[] w fun e w' => e = .returned (.bool true) ∧ Kept [] w w' := by
  have HF := hide (filled_any (inv := 4) (sees_five w) (by omega) (by omega) (by decide))
  have HM := hide (fun w => num_any (w := w) 0)
  go_enter Try.func4, Try.ntmps4
  go_wp2_with (first
    | (go_at_call 17; refine (unhide HF).mono ?_; rintro e w1 ⟨b, rfl, v1, hs1, hk1, hb1, ho1⟩; have HK1 := hide (((Kept.refl [] w).alloc _).trans hk1 (by simp)); have HC := hide (five_count hs1); have HQ1 := hide (five_q1 hs1); have HQ5 := hide (fun W (hk : Kept [] w1 W) => five_q5 (hs1.keep hk (by simp) (by simp))); clear hs1 hk1 hb1 ho1 HF)
    | (go_at_call 18; refine (unhide HC).mono ?_; rintro e w2 ⟨rfl, hq⟩; have hq' := hq.symm; subst hq'; clear HC)
    | (go_at_call 19; refine (unhide HQ1).mono ?_; rintro e w3 ⟨rfl, hk3⟩; clear HQ1)
    | (go_at_call 19; refine (unhide HQ5 _ hk3).mono ?_; rintro e w4 ⟨rfl, hk4⟩; clear HQ5)
    | (go_at_call 8; refine (unhide HM _).mono ?_; rintro e w5 ⟨rfl, hq⟩; have hq' := hq.symm; subst hq'))
  go_ret
  exact ⟨rfl, ((unhide HK1).trans hk3 (by simp)).trans hk4 (by simp)⟩
end Go.Proofs.Ytgiifedljebclab
