/- A text of the base. -/
import Derived.Test.YtfhfkpgfnlmfhaaDoorPkBI
import Derived.Test.YtfhfkpgfnlmfhaaDoorPkBJ
/- The document's writer: Close. -/
namespace Go.Proofs.YtfhfkpgfnlmfhaaDoor
open Go.RowKit

end Go.Proofs.YtfhfkpgfnlmfhaaDoor
