/- A text of the base. -/
import Derived.Test.YtfhfkpgfnlmfhaaGreatDoorPkK
import Derived.Test.YtfhfkpgfnlmfhaaGreatDoorPkF
/- slices.Insert at []byte: where it grows; all ways together. -/
namespace Go.Proofs.YtfhfkpgfnlmfhaaGreatDoor
open Go.RowKit

theorem Tryz.u3 : Tryz.prog.underlying 3 = some (.int .i64) := by kernel_rfl

/-- What an owned row of bytes looks like, where it is not empty. -/
theorem own_form {w : World} {v : Value} {bs : List Nat} (h : w.ownsRow 0 5 1 v bs.length (u8s bs)) (hn : 0 < bs.length) :
    ∃ g cap cur, v = .slice (some ⟨g, 0, none⟩) bs.length cap ∧ Blk w g cur 5 ∧ cur.size = cap ∧ bs.length ≤ cap ∧ cap ≤ maxLen ∧ ∀ j, j < bs.length → w.cell? ⟨g, j, none⟩ = some (.int .u8 (bs.getD j 0 : Nat)) := by
  rcases h.2 with ⟨_, h0⟩ | ⟨g, cap, cur, hv, _, hg, hc, hm, hs, _⟩
  · omega
  · refine ⟨g, cap, cur, hv, hg, by omega, hc, hm, fun j hj => ?_⟩
    rcases Sees.of_own h with ⟨h1, _⟩ | ⟨b', o', c', hv', _, _, _, hcell⟩
    · rw [hv] at h1; cases h1
    · rw [hv] at hv'; cases hv'
      simpa using hcell j hj

end Go.Proofs.YtfhfkpgfnlmfhaaGreatDoor
