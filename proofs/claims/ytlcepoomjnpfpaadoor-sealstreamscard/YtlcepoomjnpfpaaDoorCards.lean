/-
  DERIVED. GIVEN WITH THE SEED: THE CARDS: each row of YtlcepoomjnpfpaaDoorRows.lean that lists a variable, with what it lists TIED to the program's text (the seventh form; the later family's looks); each row that meets fmt, with fmt's text TOLD by the authors' own Lean function (tested against real Go, not proved from fmt's source: count such statements apart). THE CARD IS WHAT COUNTS. Prove the row's statement (the work); the ties are given (YtlcepoomjnpfpaaDoorTie.lean); close each card by the builder's one call (the guide's Derived/Test/ToyasCard.lean, 'card_holds'). Laid BY PROGRAM, IN A SANDBOX (cutbox-door.mjs). By AI agents, Wed Nov 11 2026. No macro, syntax, notation, axiom, sorry.
-/
import Derived.Test.YtlcepoomjnpfpaaDoorRows
import GoSem.ClaimSeven
namespace Go.Proofs.YtlcepoomjnpfpaaDoor
namespace Rows

/-- THE TIED CARD OF 'haulagelaw02.SealAnswers'. -/
def sealAnswersCard : Claim7 := { stood := { row := sealAnswersRow, standIns := [], harness := (true, "00d697bc9c3ff4c9653fd2a26eb48bcb67ff47455259b3516a15e719c3b1b8ef"), looks := false }, kinds := [], alts := [], laidByText := true, laidKinds := [.data], laidTests := true, laidLooks := .later }
def SealAnswersCardSaid : Prop := Claim7.holds Tryd.pinned (.plain (OpenSpec.ofChange sealAnswersSpec)) sealAnswersCard

/-- THE TIED CARD OF 'haulagelaw02.SealStreams'. -/
def sealStreamsCard : Claim7 := { stood := { row := sealStreamsRow, standIns := [], harness := (true, "00d697bc9c3ff4c9653fd2a26eb48bcb67ff47455259b3516a15e719c3b1b8ef"), looks := false }, kinds := [], alts := [], laidByText := true, laidKinds := [.data], laidTests := true, laidLooks := .later }
def SealStreamsCardSaid : Prop := Claim7.holds Tryd.pinned (.plain (OpenSpec.ofChange sealStreamsSpec)) sealStreamsCard

/-- THE TIED CARD OF 'haulagelaw02.SealKnown'. -/
def sealKnownCard : Claim7 := { stood := { row := sealKnownRow, standIns := [], harness := (true, "00d697bc9c3ff4c9653fd2a26eb48bcb67ff47455259b3516a15e719c3b1b8ef"), looks := false }, kinds := [], alts := [], laidByText := true, laidKinds := [.data], laidTests := true, laidLooks := .later }
def SealKnownCardSaid : Prop := Claim7.holds Tryd.pinned (.plain (OpenSpec.ofChange sealKnownSpec)) sealKnownCard

/-- THE TIED CARD OF 'haulagelaw02.SealBehind'. -/
def sealBehindCard : Claim7 := { stood := { row := sealBehindRow, standIns := [], harness := (true, "00d697bc9c3ff4c9653fd2a26eb48bcb67ff47455259b3516a15e719c3b1b8ef"), looks := false }, kinds := [], alts := [], laidByText := true, laidKinds := [.data], laidTests := true, laidLooks := .later }
def SealBehindCardSaid : Prop := Claim7.holds Tryd.pinned (.plain (OpenSpec.ofChange sealBehindSpec)) sealBehindCard

/-- THE SECOND FORM's CARD OF 'haulagelaw02.SealAnswers'. -/
def sealAnswersUptoCard : Claim7 := { stood := { row := sealAnswersUptoRow, standIns := [], harness := (true, "00d697bc9c3ff4c9653fd2a26eb48bcb67ff47455259b3516a15e719c3b1b8ef"), looks := false }, kinds := [], alts := [], laidByText := true, laidKinds := [.data], laidTests := true, laidLooks := .later }
def SealAnswersUptoCardSaid : Prop := Claim7.holds Tryd.pinned (.plain (OpenSpec.upto sealAnswersSpec)) sealAnswersUptoCard

/-- THE SECOND FORM's CARD OF 'haulagelaw02.SealStreams'. -/
def sealStreamsUptoCard : Claim7 := { stood := { row := sealStreamsUptoRow, standIns := [], harness := (true, "00d697bc9c3ff4c9653fd2a26eb48bcb67ff47455259b3516a15e719c3b1b8ef"), looks := false }, kinds := [], alts := [], laidByText := true, laidKinds := [.data], laidTests := true, laidLooks := .later }
def SealStreamsUptoCardSaid : Prop := Claim7.holds Tryd.pinned (.plain (OpenSpec.upto sealStreamsSpec)) sealStreamsUptoCard

/-- THE SECOND FORM's CARD OF 'haulagelaw02.SealKnown'. -/
def sealKnownUptoCard : Claim7 := { stood := { row := sealKnownUptoRow, standIns := [], harness := (true, "00d697bc9c3ff4c9653fd2a26eb48bcb67ff47455259b3516a15e719c3b1b8ef"), looks := false }, kinds := [], alts := [], laidByText := true, laidKinds := [.data], laidTests := true, laidLooks := .later }
def SealKnownUptoCardSaid : Prop := Claim7.holds Tryd.pinned (.plain (OpenSpec.upto sealKnownSpec)) sealKnownUptoCard

/-- THE SECOND FORM's CARD OF 'haulagelaw02.SealBehind'. -/
def sealBehindUptoCard : Claim7 := { stood := { row := sealBehindUptoRow, standIns := [], harness := (true, "00d697bc9c3ff4c9653fd2a26eb48bcb67ff47455259b3516a15e719c3b1b8ef"), looks := false }, kinds := [], alts := [], laidByText := true, laidKinds := [.data], laidTests := true, laidLooks := .later }
def SealBehindUptoCardSaid : Prop := Claim7.holds Tryd.pinned (.plain (OpenSpec.upto sealBehindSpec)) sealBehindUptoCard
end Rows
end Go.Proofs.YtlcepoomjnpfpaaDoor
