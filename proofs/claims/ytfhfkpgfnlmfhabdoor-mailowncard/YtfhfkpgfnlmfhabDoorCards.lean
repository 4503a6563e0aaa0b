/-
  DERIVED. GIVEN WITH THE SEED: THE CARDS: each row of YtfhfkpgfnlmfhabDoorRows.lean that lists a variable, with what it lists TIED to the program's text (the seventh form; the later family's looks); each row that meets fmt, with fmt's text TOLD by the authors' own Lean function (tested against real Go, not proved from fmt's source: count such statements apart). THE CARD IS WHAT COUNTS. Prove the row's statement (the work); the ties are given (YtfhfkpgfnlmfhabDoorTie.lean); close each card by the builder's one call (the guide's Derived/Test/ToyasCard.lean, 'card_holds'). Laid BY PROGRAM, IN A SANDBOX (cutbox-door.mjs). By AI agents, Wed Nov 11 2026. No macro, syntax, notation, axiom, sorry.
-/
import Derived.Test.YtfhfkpgfnlmfhabDoorRows
import GoSem.ClaimSeven
namespace Go.Proofs.YtfhfkpgfnlmfhabDoor
namespace Rows

/-- THE TIED CARD OF 'haulagelaw19.MailUnused'. -/
def mailUnusedCard : Claim7 := { stood := { row := mailUnusedRow, standIns := [], harness := (true, "aaaf803e451fd2af96a8b1435873edd9309a1c80e81cbc4ecd8f85453932c684"), looks := true }, kinds := [], alts := [], laidByText := true, laidKinds := [.data], laidTests := true, laidLooks := .later }
def MailUnusedCardSaid : Prop := Claim7.holds Tryd.pinned (.plain (OpenSpec.ofChange mailUnusedSpec)) mailUnusedCard

/-- THE TIED CARD OF 'haulagelaw19.MailOwn'. -/
def mailOwnCard : Claim7 := { stood := { row := mailOwnRow, standIns := [], harness := (true, "aaaf803e451fd2af96a8b1435873edd9309a1c80e81cbc4ecd8f85453932c684"), looks := true }, kinds := [], alts := [], laidByText := true, laidKinds := [.data], laidTests := true, laidLooks := .later }
def MailOwnCardSaid : Prop := Claim7.holds Tryd.pinned (.plain (OpenSpec.ofChange mailOwnSpec)) mailOwnCard

/-- THE SECOND FORM's CARD OF 'haulagelaw19.MailUnused'. -/
def mailUnusedUptoCard : Claim7 := { stood := { row := mailUnusedUptoRow, standIns := [], harness := (true, "aaaf803e451fd2af96a8b1435873edd9309a1c80e81cbc4ecd8f85453932c684"), looks := true }, kinds := [], alts := [], laidByText := true, laidKinds := [.data], laidTests := true, laidLooks := .later }
def MailUnusedUptoCardSaid : Prop := Claim7.holds Tryd.pinned (.plain (OpenSpec.upto mailUnusedSpec)) mailUnusedUptoCard

/-- THE SECOND FORM's CARD OF 'haulagelaw19.MailOwn'. -/
def mailOwnUptoCard : Claim7 := { stood := { row := mailOwnUptoRow, standIns := [], harness := (true, "aaaf803e451fd2af96a8b1435873edd9309a1c80e81cbc4ecd8f85453932c684"), looks := true }, kinds := [], alts := [], laidByText := true, laidKinds := [.data], laidTests := true, laidLooks := .later }
def MailOwnUptoCardSaid : Prop := Claim7.holds Tryd.pinned (.plain (OpenSpec.upto mailOwnSpec)) mailOwnUptoCard
end Rows
end Go.Proofs.YtfhfkpgfnlmfhabDoor
