/- same: the same numbers. -/
import Derived.Test.YtoibkgjnnneagaaDKeep
import Derived.OwnWalk
import Derived.BigQuiet
namespace Go.Proofs.Ytoibkgjnnneagaa
open Go.RowKit

set_option maxRecDepth 100000 in
set_option maxHeartbeats 400000 in
theorem same_any {w : World} {v1 v2 : Value} {l : List Int} (s1 : SeesI w v1 l) (s2 : SeesI w v2 l) :
    Calls Try.prog 37 #[v1, v2] w fun e w' => e = .returned (.bool true) ∧ ∃ m, w' = w.drewN m := by
  obtain ⟨a, cap, rfl, h1, h2, h4⟩ := s1
  obtain ⟨b, cbp, rfl, g1, g2, g4⟩ := s2
  have hml : l.length ≤ 9223372036854775807 := by unfold maxLen at h2; omega
  have H4 := hide h4
  have G4 := hide g4
  clear h4 g4
  generalize hL : l.length = L at h1 g1 hml
  have HL := hide hL
  clear hL
  go_enter Try.func37, Try.ntmps37
  go_wp2_with fail
  go_loopw [5] (fun i wr => ∃ k : Nat, k ≤ L ∧ i = .int .i64 k ∧ ∃ m, wr = w.drewN m) (fun i _ => L - (intOf i).toNat)
  case atStart => exact ⟨0, by omega, rfl, 0, rfl⟩
  case round =>
    obtain ⟨k, hk, rfl, m, hq⟩ := hrel
    subst hq
    by_cases hkl : k < L
    · obtain ⟨p, off, rfl, hc⟩ := at_int (unhide HL) (unhide H4) hkl
      obtain ⟨q, off2, rfl, hc2⟩ := at_int (unhide HL) (unhide G4) hkl
      generalize l.getD k 0 = x at hc hc2
      go_wp2
      go_quiet (fail)
      go_wp2
      go_roundw
      case rel => exact ⟨k + 1, by omega, by simp, _, rfl⟩
      case measure => simp [intOf]; omega
    · obtain rfl : k = L := by omega
      go_wp2
      go_ret
      exact ⟨rfl, _, rfl⟩

end Go.Proofs.Ytoibkgjnnneagaa
