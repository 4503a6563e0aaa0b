/- A text of the base. -/
import Derived.Test.YtfhfkpgfnlmfhaaGreatDoorTie
import Derived.Test.YtfhfkpgfnlmfhaaGreatDoorCards
import Derived.Test.YtfhfkpgfnlmfhaaGreatDoorPkT
import Derived.ProofKit
import Derived.OpenShut
import Derived.LaidMore
import Derived.Lay
import Derived.MakeChecks
import Derived.SevenTiedAt
import Derived.Stop.Joined
import Derived.Lib.LaidTab
/- The table, off the rows' own list of variables. -/
namespace Go.Proofs.YtfhfkpgfnlmfhaaGreatDoor
open Go.RowKit

def fourZ : List Int := [0, 274646895, 549293790, 820201905, 1098587580, 1361435347, 1640403810, 1905808397, 2197175160, 2460548119, 2722870694, 2987750089, 3280807620, 3553878443, 3811616794, 4084100981]
theorem fourZ_is : ∀ i, i < 16 → fourZ.getD i 0 = ((four i : Nat) : Int) := by decide +kernel
abbrev laidList : List (String × DataW Unit) := [("haulage/seal.fourSteps", Rows.laid_haulage_seal_fourSteps)]
theorem laid_plain (W : World) : laidMetH Tryz.prog laidList W = laidMet Tryz.prog laidList W := MakeChecks.laidMetH_plain _ _ _ (by kernel_rfl)

theorem tab_of_laid {W : World} (h : laidMetH Tryz.prog laidList W) : Tab W := by
  rw [laid_plain] at h
  have hg : Tryz.prog.globalNamed "haulage/seal.fourSteps" = some 0 := by kernel_rfl
  have hT : Lib.TabIs Tryz.prog W "haulage/seal.fourSteps" .u32 fourZ :=
    Lib.tabIs_of_head hg (show (Tryz.prog.globals[0]?).map (·.type) = some 98 by kernel_rfl) Tryz.underlying98 Tryz.underlying43 (by kernel_rfl) (by kernel_rfl) h
  have hc : ∀ i, i < 16 → W.cell? ⟨0, i, none⟩ = some (.int .u32 (four i : Nat)) := by
    intro i hi
    rw [← fourZ_is i hi]
    exact hT.cell hg i (by simpa [fourZ] using hi)
  refine ⟨?_, hc⟩
  have h0 := hc 0 (by omega)
  rcases Nat.eq_zero_or_pos W.heap.size with h1 | h1
  · simp [World.cell?, Array.getElem?_eq_none (show W.heap.size ≤ 0 by omega)] at h0
  · exact h1
end Go.Proofs.YtfhfkpgfnlmfhaaGreatDoor
