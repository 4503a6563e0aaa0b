/- A text of the base. -/
import Derived.Test.YtfhfkpgfnlmfhaaGreatDoorPkBP
import Derived.Test.YtfhfkpgfnlmfhaaGreatDoorPkBQ
/- The document's writer: Close. -/
namespace Go.Proofs.YtfhfkpgfnlmfhaaGreatDoor
open Go.RowKit

end Go.Proofs.YtfhfkpgfnlmfhaaGreatDoor
