/-
  DERIVED. GIVEN WITH THE SEED: THE CARDS: each row of YtlcepoomjnpfpabDoorRows.lean that lists a variable, with what it lists TIED to the program's text (the seventh form; the later family's looks); each row that meets fmt, with fmt's text TOLD by the authors' own Lean function (tested against real Go, not proved from fmt's source: count such statements apart). THE CARD IS WHAT COUNTS. Prove the row's statement (the work); the ties are given (YtlcepoomjnpfpabDoorTie.lean); close each card by the builder's one call (the guide's Derived/Test/ToyasCard.lean, 'card_holds'). Laid BY PROGRAM, IN A SANDBOX (cutbox-door.mjs). By AI agents, Wed Nov 11 2026. No macro, syntax, notation, axiom, sorry.
-/
import Derived.Test.YtlcepoomjnpfpabDoorRows
import GoSem.ClaimSeven
namespace Go.Proofs.YtlcepoomjnpfpabDoor
namespace Rows

/-- THE TIED CARD OF 'haulagelaw02.SealForged'. -/
def sealForgedCard : Claim7 := { stood := { row := sealForgedRow, standIns := [], harness := (true, "69f3ad3f8f145a136904108c6bab3a2443294ef902284852e97d0b079fc6215b"), looks := false }, kinds := [], alts := [], laidByText := true, laidKinds := [.data], laidTests := true, laidLooks := .later }
def SealForgedCardSaid : Prop := Claim7.holds Tryd.pinned (.plain (OpenSpec.ofChange sealForgedSpec)) sealForgedCard

/-- THE TIED CARD OF 'haulagelaw02.SealTurned'. -/
def sealTurnedCard : Claim7 := { stood := { row := sealTurnedRow, standIns := [], harness := (true, "69f3ad3f8f145a136904108c6bab3a2443294ef902284852e97d0b079fc6215b"), looks := false }, kinds := [], alts := [], laidByText := true, laidKinds := [.data], laidTests := true, laidLooks := .later }
def SealTurnedCardSaid : Prop := Claim7.holds Tryd.pinned (.plain (OpenSpec.ofChange sealTurnedSpec)) sealTurnedCard

/-- THE TIED CARD OF 'haulagelaw02.SealTold'. -/
def sealToldCard : Claim7 := { stood := { row := sealToldRow, standIns := [], harness := (true, "69f3ad3f8f145a136904108c6bab3a2443294ef902284852e97d0b079fc6215b"), looks := false }, kinds := [], alts := [], laidByText := true, laidKinds := [.data], laidTests := true, laidLooks := .later }
def SealToldCardSaid : Prop := Claim7.holds Tryd.pinned (.plain (OpenSpec.ofChange sealToldSpec)) sealToldCard

/-- THE SECOND FORM's CARD OF 'haulagelaw02.SealForged'. -/
def sealForgedUptoCard : Claim7 := { stood := { row := sealForgedUptoRow, standIns := [], harness := (true, "69f3ad3f8f145a136904108c6bab3a2443294ef902284852e97d0b079fc6215b"), looks := false }, kinds := [], alts := [], laidByText := true, laidKinds := [.data], laidTests := true, laidLooks := .later }
def SealForgedUptoCardSaid : Prop := Claim7.holds Tryd.pinned (.plain (OpenSpec.upto sealForgedSpec)) sealForgedUptoCard

/-- THE SECOND FORM's CARD OF 'haulagelaw02.SealTurned'. -/
def sealTurnedUptoCard : Claim7 := { stood := { row := sealTurnedUptoRow, standIns := [], harness := (true, "69f3ad3f8f145a136904108c6bab3a2443294ef902284852e97d0b079fc6215b"), looks := false }, kinds := [], alts := [], laidByText := true, laidKinds := [.data], laidTests := true, laidLooks := .later }
def SealTurnedUptoCardSaid : Prop := Claim7.holds Tryd.pinned (.plain (OpenSpec.upto sealTurnedSpec)) sealTurnedUptoCard

/-- THE SECOND FORM's CARD OF 'haulagelaw02.SealTold'. -/
def sealToldUptoCard : Claim7 := { stood := { row := sealToldUptoRow, standIns := [], harness := (true, "69f3ad3f8f145a136904108c6bab3a2443294ef902284852e97d0b079fc6215b"), looks := false }, kinds := [], alts := [], laidByText := true, laidKinds := [.data], laidTests := true, laidLooks := .later }
def SealToldUptoCardSaid : Prop := Claim7.holds Tryd.pinned (.plain (OpenSpec.upto sealToldSpec)) sealToldUptoCard
end Rows
end Go.Proofs.YtlcepoomjnpfpabDoor
