/- A text of the base. -/
import Derived.Test.YtfhfkpgfnlmfhaaDoorPkS
import Derived.Test.YtfhfkpgfnlmfhaaDoorPkBE
import Derived.Deep.RegionHeld3
/- The document's reader in memory; whether it is dead, what is left, the next bytes. -/
namespace Go.Proofs.YtfhfkpgfnlmfhaaDoor
open Go.RowKit

def qfoot (c : Nat) (pv ev : Value) : List Nat := c :: (pv.ownBlock.toList ++ ev.ownBlock.toList)

end Go.Proofs.YtfhfkpgfnlmfhaaDoor
