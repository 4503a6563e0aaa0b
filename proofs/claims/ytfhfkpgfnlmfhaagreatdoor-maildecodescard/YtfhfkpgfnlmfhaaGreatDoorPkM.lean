/- A text of the base. -/
import Derived.Test.YtfhfkpgfnlmfhaaGreatDoorPkL
import Derived.Test.YtfhfkpgfnlmfhaaGreatDoorPkH
/- The writer's state as a function of the calls: lay, whatever the state; Num, Int, Real, Raw, Text. -/
namespace Go.Proofs.YtfhfkpgfnlmfhaaGreatDoor
open Go.RowKit

/-- A piece, as P1.2 has it. -/
def wLay (s : WS) (ps : List Nat) : WS := if s.fault ≠ 0 then s else if s.bs.length + ps.length ≤ s.room then { s with bs := s.bs ++ ps } else failWS 13
/-- A refusal. -/
def wFail (s : WS) (c : Nat) : WS := if s.fault ≠ 0 then s else failWS c

end Go.Proofs.YtfhfkpgfnlmfhaaGreatDoor
