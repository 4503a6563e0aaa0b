/- A text of the base. -/
import Derived.Test.YtfhfkpgfnlmfhaaGreatDoorPkC
import Derived.Deep.RegionWith
/- The writer where there is no room; num. -/
namespace Go.Proofs.YtfhfkpgfnlmfhaaGreatDoor
open Go.RowKit

def failWS (c : Nat) : WS := ⟨0, [], [], c⟩

theorem Blk.set4 {w : World} {b : Nat} {x0 x1 x2 x3 y0 y1 y2 y3 : Value} {t : TypeId} (h : Blk w b #[x0, x1, x2, x3] t) :
    Blk ((((w.setCell ⟨b, 0, none⟩ y0).setCell ⟨b, 1, none⟩ y1).setCell ⟨b, 2, none⟩ y2).setCell ⟨b, 3, none⟩ y3) b #[y0, y1, y2, y3] t := by
  have h3 := (((h.set 0 y0).set 1 y1).set 2 y2).set 3 y3
  simpa using h3

end Go.Proofs.YtfhfkpgfnlmfhaaGreatDoor
