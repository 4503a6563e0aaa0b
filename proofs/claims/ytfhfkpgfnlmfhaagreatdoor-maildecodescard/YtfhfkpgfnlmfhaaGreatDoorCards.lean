/-
  DERIVED. GIVEN WITH THE SEED: THE CARDS: each row of YtfhfkpgfnlmfhaaGreatDoorRows.lean that lists a variable, with what it lists TIED to the program's text (the seventh form; the later family's looks); each row that meets fmt, with fmt's text TOLD by the authors' own Lean function (tested against real Go, not proved from fmt's source: count such statements apart). THE CARD IS WHAT COUNTS. Prove the row's statement (the work); the ties are given (YtfhfkpgfnlmfhaaGreatDoorTie.lean); close each card by the builder's one call (the guide's Derived/Test/ToyasCard.lean, 'card_holds'). Laid BY PROGRAM, IN A SANDBOX (cutbox-door.mjs). By AI agents, Wed Nov 11 2026. No macro, syntax, notation, axiom, sorry.
-/
import Derived.Test.YtfhfkpgfnlmfhaaGreatDoorRows
import GoSem.ClaimSeven
namespace Go.Proofs.YtfhfkpgfnlmfhaaGreatDoor
namespace Rows

/-- THE TIED CARD OF 'haulagelaw19.MailDecodes'. -/
def mailDecodesCard : Claim7 := { stood := { row := mailDecodesRow, standIns := [], harness := (true, "2c0c5a416c9ecb58a5bb8754772be9cadede6c956c9e6083b5f981a5b191f554"), looks := true }, kinds := [], alts := [], laidByText := true, laidKinds := [.data], laidTests := true, laidLooks := .later }
def MailDecodesCardSaid : Prop := Claim7.holds Tryz.pinned (.plain (OpenSpec.ofChange mailDecodesSpec)) mailDecodesCard

/-- THE SECOND FORM's CARD OF 'haulagelaw19.MailDecodes'. -/
def mailDecodesUptoCard : Claim7 := { stood := { row := mailDecodesUptoRow, standIns := [], harness := (true, "2c0c5a416c9ecb58a5bb8754772be9cadede6c956c9e6083b5f981a5b191f554"), looks := true }, kinds := [], alts := [], laidByText := true, laidKinds := [.data], laidTests := true, laidLooks := .later }
def MailDecodesUptoCardSaid : Prop := Claim7.holds Tryz.pinned (.plain (OpenSpec.upto mailDecodesSpec)) mailDecodesUptoCard
end Rows
end Go.Proofs.YtfhfkpgfnlmfhaaGreatDoor
