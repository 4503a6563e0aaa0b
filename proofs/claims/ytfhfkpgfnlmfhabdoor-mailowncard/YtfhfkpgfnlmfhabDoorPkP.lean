/- Texts laid one behind the other: EnterB EnterE. -/
import Derived.Test.YtfhfkpgfnlmfhabDoorPkO
import Derived.Deep.DeepCutAuto
/- The reader's Enter. -/
namespace Go.Proofs.YtfhfkpgfnlmfhabDoor
open Go.RowKit

end Go.Proofs.YtfhfkpgfnlmfhabDoor

/- The reader's Leave; Enter where it is refused. -/
namespace Go.Proofs.YtfhfkpgfnlmfhabDoor
open Go.RowKit

/-- A way of a region that ends by a panic: nothing is left to be walked. -/
theorem stop_region (w : World) {p : Prop} (h : p) (_ : wpAny Tryd.prog default #[] (fun _ _ _ => True) 0 #[] { tmps := #[], defers := [] } w) : p := h

end Go.Proofs.YtfhfkpgfnlmfhabDoor
