/-
  DERIVED. GIVEN WITH THE SEED: THE CARDS: each row of YtfhfkpgfnlmfhaaDoorRows.lean that lists a variable, with what it lists TIED to the program's text (the seventh form; the later family's looks); each row that meets fmt, with fmt's text TOLD by the authors' own Lean function (tested against real Go, not proved from fmt's source: count such statements apart). THE CARD IS WHAT COUNTS. Prove the row's statement (the work); the ties are given (YtfhfkpgfnlmfhaaDoorTie.lean); close each card by the builder's one call (the guide's Derived/Test/ToyasCard.lean, 'card_holds'). Laid BY PROGRAM, IN A SANDBOX (cutbox-door.mjs). By AI agents, Wed Nov 11 2026. No macro, syntax, notation, axiom, sorry.
-/
import Derived.Test.YtfhfkpgfnlmfhaaDoorRows
import GoSem.ClaimSeven
namespace Go.Proofs.YtfhfkpgfnlmfhaaDoor
namespace Rows

/-- THE TIED CARD OF 'haulagelaw19.MailEncodes'. -/
def mailEncodesCard : Claim7 := { stood := { row := mailEncodesRow, standIns := [], harness := (true, "88a3a57b1a7936f8bce68e6d6eefc469acb15ecd5c83494bd4f9a17495d0f2ff"), looks := true }, kinds := [], alts := [], laidByText := true, laidKinds := [.data], laidTests := true, laidLooks := .later }
def MailEncodesCardSaid : Prop := Claim7.holds Tryd.pinned (.plain (OpenSpec.ofChange mailEncodesSpec)) mailEncodesCard

/-- THE TIED CARD OF 'haulagelaw19.MailBack'. -/
def mailBackCard : Claim7 := { stood := { row := mailBackRow, standIns := [], harness := (true, "88a3a57b1a7936f8bce68e6d6eefc469acb15ecd5c83494bd4f9a17495d0f2ff"), looks := true }, kinds := [], alts := [], laidByText := true, laidKinds := [.data], laidTests := true, laidLooks := .later }
def MailBackCardSaid : Prop := Claim7.holds Tryd.pinned (.plain (OpenSpec.ofChange mailBackSpec)) mailBackCard

/-- THE TIED CARD OF 'haulagelaw19.MailForm'. -/
def mailFormCard : Claim7 := { stood := { row := mailFormRow, standIns := [], harness := (true, "88a3a57b1a7936f8bce68e6d6eefc469acb15ecd5c83494bd4f9a17495d0f2ff"), looks := true }, kinds := [], alts := [], laidByText := true, laidKinds := [.data], laidTests := true, laidLooks := .later }
def MailFormCardSaid : Prop := Claim7.holds Tryd.pinned (.plain (OpenSpec.ofChange mailFormSpec)) mailFormCard

/-- THE TIED CARD OF 'haulagelaw19.MailTurned'. -/
def mailTurnedCard : Claim7 := { stood := { row := mailTurnedRow, standIns := [], harness := (true, "88a3a57b1a7936f8bce68e6d6eefc469acb15ecd5c83494bd4f9a17495d0f2ff"), looks := true }, kinds := [], alts := [], laidByText := true, laidKinds := [.data], laidTests := true, laidLooks := .later }
def MailTurnedCardSaid : Prop := Claim7.holds Tryd.pinned (.plain (OpenSpec.ofChange mailTurnedSpec)) mailTurnedCard

/-- THE TIED CARD OF 'haulagelaw19.MailCut'. -/
def mailCutCard : Claim7 := { stood := { row := mailCutRow, standIns := [], harness := (true, "88a3a57b1a7936f8bce68e6d6eefc469acb15ecd5c83494bd4f9a17495d0f2ff"), looks := true }, kinds := [], alts := [], laidByText := true, laidKinds := [.data], laidTests := true, laidLooks := .later }
def MailCutCardSaid : Prop := Claim7.holds Tryd.pinned (.plain (OpenSpec.ofChange mailCutSpec)) mailCutCard

/-- THE SECOND FORM's CARD OF 'haulagelaw19.MailEncodes'. -/
def mailEncodesUptoCard : Claim7 := { stood := { row := mailEncodesUptoRow, standIns := [], harness := (true, "88a3a57b1a7936f8bce68e6d6eefc469acb15ecd5c83494bd4f9a17495d0f2ff"), looks := true }, kinds := [], alts := [], laidByText := true, laidKinds := [.data], laidTests := true, laidLooks := .later }
def MailEncodesUptoCardSaid : Prop := Claim7.holds Tryd.pinned (.plain (OpenSpec.upto mailEncodesSpec)) mailEncodesUptoCard

/-- THE SECOND FORM's CARD OF 'haulagelaw19.MailBack'. -/
def mailBackUptoCard : Claim7 := { stood := { row := mailBackUptoRow, standIns := [], harness := (true, "88a3a57b1a7936f8bce68e6d6eefc469acb15ecd5c83494bd4f9a17495d0f2ff"), looks := true }, kinds := [], alts := [], laidByText := true, laidKinds := [.data], laidTests := true, laidLooks := .later }
def MailBackUptoCardSaid : Prop := Claim7.holds Tryd.pinned (.plain (OpenSpec.upto mailBackSpec)) mailBackUptoCard

/-- THE SECOND FORM's CARD OF 'haulagelaw19.MailForm'. -/
def mailFormUptoCard : Claim7 := { stood := { row := mailFormUptoRow, standIns := [], harness := (true, "88a3a57b1a7936f8bce68e6d6eefc469acb15ecd5c83494bd4f9a17495d0f2ff"), looks := true }, kinds := [], alts := [], laidByText := true, laidKinds := [.data], laidTests := true, laidLooks := .later }
def MailFormUptoCardSaid : Prop := Claim7.holds Tryd.pinned (.plain (OpenSpec.upto mailFormSpec)) mailFormUptoCard

/-- THE SECOND FORM's CARD OF 'haulagelaw19.MailTurned'. -/
def mailTurnedUptoCard : Claim7 := { stood := { row := mailTurnedUptoRow, standIns := [], harness := (true, "88a3a57b1a7936f8bce68e6d6eefc469acb15ecd5c83494bd4f9a17495d0f2ff"), looks := true }, kinds := [], alts := [], laidByText := true, laidKinds := [.data], laidTests := true, laidLooks := .later }
def MailTurnedUptoCardSaid : Prop := Claim7.holds Tryd.pinned (.plain (OpenSpec.upto mailTurnedSpec)) mailTurnedUptoCard

/-- THE SECOND FORM's CARD OF 'haulagelaw19.MailCut'. -/
def mailCutUptoCard : Claim7 := { stood := { row := mailCutUptoRow, standIns := [], harness := (true, "88a3a57b1a7936f8bce68e6d6eefc469acb15ecd5c83494bd4f9a17495d0f2ff"), looks := true }, kinds := [], alts := [], laidByText := true, laidKinds := [.data], laidTests := true, laidLooks := .later }
def MailCutUptoCardSaid : Prop := Claim7.holds Tryd.pinned (.plain (OpenSpec.upto mailCutSpec)) mailCutUptoCard
end Rows
end Go.Proofs.YtfhfkpgfnlmfhaaDoor
