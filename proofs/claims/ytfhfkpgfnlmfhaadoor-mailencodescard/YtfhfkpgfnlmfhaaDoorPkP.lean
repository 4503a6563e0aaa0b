/- Texts laid one behind the other: EnterB EnterE. -/
import Derived.Test.YtfhfkpgfnlmfhaaDoorPkO
import Derived.Deep.DeepCutAuto
/- The reader's Enter. -/
namespace Go.Proofs.YtfhfkpgfnlmfhaaDoor
open Go.RowKit

end Go.Proofs.YtfhfkpgfnlmfhaaDoor

/- The reader's Leave; Enter where it is refused. -/
namespace Go.Proofs.YtfhfkpgfnlmfhaaDoor
open Go.RowKit

/-- A way of a region that ends by a panic: nothing is left to be walked. -/
theorem stop_region (w : World) {p : Prop} (h : p) (_ : wpAny Tryd.prog default #[] (fun _ _ _ => True) 0 #[] { tmps := #[], defers := [] } w) : p := h

end Go.Proofs.YtfhfkpgfnlmfhaaDoor
