/- The document's Pick. -/
import Derived.Test.YtoibkgjnnneagaaDRefP
namespace Go.Proofs.Ytoibkgjnnneagaa
open Go.RowKit

set_option maxRecDepth 100000 in
set_option maxHeartbeats 4000000 in
theorem rpick_no {w : World} {b s : Nat} {v : Value} {ws : List Nat} (h : Rc w b s) (hs : SeesF w v ws) (hb : ∀ j, j < ws.length → ws.getD j 0 < 18446744073709551616) (hr : ¬ right ws) (hl : ws.length ≤ 2097152) :
    Calls Try.prog 38 #[.pointer (some ⟨b, 0, none⟩), v] w fun e w' => e = .returned (.tuple #[.int .i64 0, .int .i64 2]) ∧ Rc w' b s ∧ Kept [] w w' := by
  have HT := hide (sums_no hs hb hr hl)
  have HH := hide h
  obtain ⟨p, pc, rfl, -, -, -⟩ := hs
  clear hr hb h
  generalize ws.length = L at *
  go_enter Try.func38, Try.ntmps38
  go_wp2_with (first
    | (go_at_call 48; refine (unhide HT).mono ?_; rintro e w1 ⟨rfl, hk⟩; clear HT))
  refine bodyPost_ret (results_tmp2 rfl _ _ _) rfl ?_
  exact ⟨rfl, (unhide HH).keep hk (by simp), hk⟩
end Go.Proofs.Ytoibkgjnnneagaa
