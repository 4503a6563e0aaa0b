/- Texts laid one behind the other: EnterB EnterE. -/
import Derived.Test.YtfhfkpgfnlmfhaaGreatDoorPkO
import Derived.Deep.DeepCutAuto
/- The reader's Enter. -/
namespace Go.Proofs.YtfhfkpgfnlmfhaaGreatDoor
open Go.RowKit

end Go.Proofs.YtfhfkpgfnlmfhaaGreatDoor

/- The reader's Leave; Enter where it is refused. -/
namespace Go.Proofs.YtfhfkpgfnlmfhaaGreatDoor
open Go.RowKit

/-- A way of a region that ends by a panic: nothing is left to be walked. -/
theorem stop_region (w : World) {p : Prop} (h : p) (_ : wpAny Tryz.prog default #[] (fun _ _ _ => True) 0 #[] { tmps := #[], defers := [] } w) : p := h

end Go.Proofs.YtfhfkpgfnlmfhaaGreatDoor
