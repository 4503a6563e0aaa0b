/-
  NARROWER THAN 'FOR EVERY INPUT', by the rows' own cells (each row's printed sentence says how): SealForged: laid · SealTurned: laid · SealTold: laid.
  DERIVED. THE GIVEN ROWS OF THIS SEAT. 3 by the template 'for every input the law returns true; each argument reads behind the call as it read before'; 0 by the template 'total and deterministic' (their statements: YtlcepoomjnpfpabDoorTotals.lean).
  GIVEN WITH THE SEED: the statements are not yours to turn. If you find one false, say at which input.
  Laid BY PROGRAM, IN A SANDBOX (cutbox-rows.mjs): the forced cells as the released guide's own fill.sh prints them over the translation 0f00ad9e177323d4… (all of the seat's roots in one cut). By AI agents, Wed Nov 11 2026. No macro, syntax, notation, axiom, sorry.
-/
import Derived.Test.YtlcepoomjnpfpabDoorChecked
import GoSem.Claim
import GoSem.ClaimJoined
import GoSem.ClaimMapViews
import Derived.JoinedTies
import Derived.KernelRfl
namespace Go.Proofs.YtlcepoomjnpfpabDoor
/- THE CELL 'sum', in the pinned program and in every row, IS THE sha256 OF THE DUMP (.gsa) THAT YtlcepoomjnpfpabDoorProg.lean LOADS. Nothing in Lean hashes anything: it is a label: what it is worth is what the hold of that sum in a sandbox is worth. -/
noncomputable def Tryd.pinned : Pinned := { name := "ytlcepoomjnpfpabdoor", sum := "0f00ad9e177323d4a7a856c1fd1f9db325e328651af41d1e103cf8e7f9c729aa", checked := Tryd.checked }
namespace Rows
def none {H : Type} : Left H := { results := [], args := [] }

/- WHAT THE LISTED PACKAGE-LEVEL VARIABLES READ AS WHEN THE CALL BEGINS. Each datum BY PROGRAM (the guide's laid-datum.mjs) off the statement by which the dump's own 'gosem.cut.vars' lays the variable. In a bare row this is a premise. The card (YtlcepoomjnpfpabDoorCards.lean) ties it to the program's text. -/
def laid_haulage_seal_fourSteps {H : Type} : DataW H := .agg [.lit (.int .u32 0), .lit (.int .u32 274646895), .lit (.int .u32 549293790), .lit (.int .u32 820201905), .lit (.int .u32 1098587580), .lit (.int .u32 1361435347), .lit (.int .u32 1640403810), .lit (.int .u32 1905808397), .lit (.int .u32 2197175160), .lit (.int .u32 2460548119), .lit (.int .u32 2722870694), .lit (.int .u32 2987750089), .lit (.int .u32 3280807620), .lit (.int .u32 3553878443), .lit (.int .u32 3811616794), .lit (.int .u32 4084100981)]

/-- 'haulagelaw02.SealForged': WHATEVER THE INPUT: true; the input reads as it did. -/
def sealForgedSpec : ChangeSpec := { name := "sealForged", fn := fun _ => fun
  | [d1, d2, d3] => { results := [.lit (.bool true)], args := [d1, d2, d3] }
  | _ => none }
def sealForgedRow : OpenClaim := { program := "ytlcepoomjnpfpabdoor", sum := "0f00ad9e177323d4a7a856c1fd1f9db325e328651af41d1e103cf8e7f9c729aa", func := "haulage/haulagelaw02.SealForged", spec := "sealForged", named := ["haulage/seal.fourSteps"], apart := false, laid := [("haulage/seal.fourSteps", laid_haulage_seal_fourSteps)] }
def SealForgedSaid : Prop := sealForgedRow.holds Tryd.pinned (OpenSpec.ofChange sealForgedSpec)

/-- ITS FALSE NEIGHBOUR: 'it returns false'. Refute it at one input. -/
def sealForgedWrong : ChangeSpec := { name := "sealForged", fn := fun _ => fun
  | [d1, d2, d3] => { results := [.lit (.bool false)], args := [d1, d2, d3] }
  | _ => none }
def SealForgedWrongFalsely : Prop := sealForgedRow.holds Tryd.pinned (OpenSpec.ofChange sealForgedWrong)

/-- 'haulagelaw02.SealTurned': WHATEVER THE INPUT: true; the input reads as it did. -/
def sealTurnedSpec : ChangeSpec := { name := "sealTurned", fn := fun _ => fun
  | [d1, d2, d3, d4, d5] => { results := [.lit (.bool true)], args := [d1, d2, d3, d4, d5] }
  | _ => none }
def sealTurnedRow : OpenClaim := { program := "ytlcepoomjnpfpabdoor", sum := "0f00ad9e177323d4a7a856c1fd1f9db325e328651af41d1e103cf8e7f9c729aa", func := "haulage/haulagelaw02.SealTurned", spec := "sealTurned", named := ["haulage/seal.fourSteps"], apart := false, laid := [("haulage/seal.fourSteps", laid_haulage_seal_fourSteps)] }
def SealTurnedSaid : Prop := sealTurnedRow.holds Tryd.pinned (OpenSpec.ofChange sealTurnedSpec)

/-- ITS FALSE NEIGHBOUR: 'it returns false'. Refute it at one input. -/
def sealTurnedWrong : ChangeSpec := { name := "sealTurned", fn := fun _ => fun
  | [d1, d2, d3, d4, d5] => { results := [.lit (.bool false)], args := [d1, d2, d3, d4, d5] }
  | _ => none }
def SealTurnedWrongFalsely : Prop := sealTurnedRow.holds Tryd.pinned (OpenSpec.ofChange sealTurnedWrong)

/-- 'haulagelaw02.SealTold': WHATEVER THE INPUT: true; the input reads as it did. -/
def sealToldSpec : ChangeSpec := { name := "sealTold", fn := fun _ => fun
  | [d1, d2, d3] => { results := [.lit (.bool true)], args := [d1, d2, d3] }
  | _ => none }
def sealToldRow : OpenClaim := { program := "ytlcepoomjnpfpabdoor", sum := "0f00ad9e177323d4a7a856c1fd1f9db325e328651af41d1e103cf8e7f9c729aa", func := "haulage/haulagelaw02.SealTold", spec := "sealTold", named := ["haulage/seal.fourSteps"], apart := false, laid := [("haulage/seal.fourSteps", laid_haulage_seal_fourSteps)] }
def SealToldSaid : Prop := sealToldRow.holds Tryd.pinned (OpenSpec.ofChange sealToldSpec)

/-- ITS FALSE NEIGHBOUR: 'it returns false'. Refute it at one input. -/
def sealToldWrong : ChangeSpec := { name := "sealTold", fn := fun _ => fun
  | [d1, d2, d3] => { results := [.lit (.bool false)], args := [d1, d2, d3] }
  | _ => none }
def SealToldWrongFalsely : Prop := sealToldRow.holds Tryd.pinned (OpenSpec.ofChange sealToldWrong)

/- THE SECOND FORM. 'bulk': how many values and letters a reading holds, each counted each time it is reached (what is shared counts as often as it is met; a slice's spare places count too). A statement '..UptoSaid' is the law's where the arguments, and the package variables that the reading takes, are together of bulk at most 1048576: NARROWER than '..Said'. Prove '..Said' where nothing that the law and all that it calls make is longer than what came in: it says more and counts as full. Else prove '..UptoSaid'. A law counts once. -/
mutual
def uptoBulk {H : Type} : DataW H → Nat
  | .lit (.string bytes) => bytes.length + 1
  | .lit _ => 1
  | .nil => 1
  | .ptr d => uptoBulk d + 1
  | .slice elems spare => uptoBulkAll elems + uptoBulkAll spare + 1
  | .agg parts => uptoBulkAll parts + 1
  | .iface _ d => uptoBulk d + 1
  | .map entries => uptoBulkEntries entries + 1
  | .held _ => 1
def uptoBulkAll {H : Type} : List (DataW H) → Nat
  | [] => 0
  | d :: r => uptoBulk d + uptoBulkAll r
def uptoBulkEntries {H : Type} : List (Lit × DataW H) → Nat
  | [] => 0
  | x :: r => uptoBulkEntry x + uptoBulkEntries r
def uptoBulkEntry {H : Type} : Lit × DataW H → Nat
  | (.string bytes, d) => bytes.length + uptoBulk d + 1
  | (_, d) => uptoBulk d + 1
 end
def uptoSmall : (H : Type) → List (DataW H) → Bool := fun _ ds => decide (uptoBulkAll ds ≤ 1048576)
def OpenSpec.upto (s : _root_.Go.ChangeSpec) : _root_.Go.OpenSpec := { _root_.Go.OpenSpec.ofChange s with cond := some uptoSmall }

/-- 'haulagelaw02.SealForged', WHERE WHAT IT READS IS OF BULK AT MOST 1048576: true; the input reads as it did. -/
def sealForgedUptoRow : OpenClaim := { program := "ytlcepoomjnpfpabdoor", sum := "0f00ad9e177323d4a7a856c1fd1f9db325e328651af41d1e103cf8e7f9c729aa", func := "haulage/haulagelaw02.SealForged", spec := "sealForged", named := ["haulage/seal.fourSteps"], apart := false, laid := [("haulage/seal.fourSteps", laid_haulage_seal_fourSteps)], narrowed := true }
def SealForgedUptoSaid : Prop := sealForgedUptoRow.holds Tryd.pinned (OpenSpec.upto sealForgedSpec)

/-- 'haulagelaw02.SealTurned', WHERE WHAT IT READS IS OF BULK AT MOST 1048576: true; the input reads as it did. -/
def sealTurnedUptoRow : OpenClaim := { program := "ytlcepoomjnpfpabdoor", sum := "0f00ad9e177323d4a7a856c1fd1f9db325e328651af41d1e103cf8e7f9c729aa", func := "haulage/haulagelaw02.SealTurned", spec := "sealTurned", named := ["haulage/seal.fourSteps"], apart := false, laid := [("haulage/seal.fourSteps", laid_haulage_seal_fourSteps)], narrowed := true }
def SealTurnedUptoSaid : Prop := sealTurnedUptoRow.holds Tryd.pinned (OpenSpec.upto sealTurnedSpec)

/-- 'haulagelaw02.SealTold', WHERE WHAT IT READS IS OF BULK AT MOST 1048576: true; the input reads as it did. -/
def sealToldUptoRow : OpenClaim := { program := "ytlcepoomjnpfpabdoor", sum := "0f00ad9e177323d4a7a856c1fd1f9db325e328651af41d1e103cf8e7f9c729aa", func := "haulage/haulagelaw02.SealTold", spec := "sealTold", named := ["haulage/seal.fourSteps"], apart := false, laid := [("haulage/seal.fourSteps", laid_haulage_seal_fourSteps)], narrowed := true }
def SealToldUptoSaid : Prop := sealToldUptoRow.holds Tryd.pinned (OpenSpec.upto sealToldSpec)

end Rows
end Go.Proofs.YtlcepoomjnpfpabDoor
