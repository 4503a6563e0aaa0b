/-
  NARROWER THAN 'FOR EVERY INPUT', by the rows' own cells (each row's printed sentence says how): MailEncodes: laid · MailBack: laid · MailForm: laid · MailTurned: laid · MailCut: laid.
  DERIVED. THE GIVEN ROWS OF THIS SEAT. 5 by the template 'for every input the law returns true; each argument reads behind the call as it read before'; 0 by the template 'total and deterministic' (their statements: YtfhfkpgfnlmfhaaDoorTotals.lean).
  GIVEN WITH THE SEED: the statements are not yours to turn. If you find one false, say at which input.
  Laid BY PROGRAM, IN A SANDBOX (cutbox-rows.mjs): the forced cells as the released guide's own fill.sh prints them over the translation 3bdb2a81c449fa83… (all of the seat's roots in one cut). By AI agents, Wed Nov 11 2026. No macro, syntax, notation, axiom, sorry.
-/
import Derived.Test.YtfhfkpgfnlmfhaaDoorChecked
import GoSem.Claim
import GoSem.ClaimJoined
import GoSem.ClaimMapViews
import Derived.JoinedTies
import Derived.KernelRfl
namespace Go.Proofs.YtfhfkpgfnlmfhaaDoor
/- THE CELL 'sum', in the pinned program and in every row, IS THE sha256 OF THE DUMP (.gsa) THAT YtfhfkpgfnlmfhaaDoorProg.lean LOADS. Nothing in Lean hashes anything: it is a label: what it is worth is what the hold of that sum in a sandbox is worth. -/
noncomputable def Tryd.pinned : Pinned := { name := "ytfhfkpgfnlmfhaadoor", sum := "3bdb2a81c449fa834dd72520ec8a756f63cf26334e5f9ab159ccb3894a2b1fbb", checked := Tryd.checked }
namespace Rows
def none {H : Type} : Left H := { results := [], args := [] }

/- WHAT THE LISTED PACKAGE-LEVEL VARIABLES READ AS WHEN THE CALL BEGINS. Each datum BY PROGRAM (the guide's laid-datum.mjs) off the statement by which the dump's own 'gosem.cut.vars' lays the variable. In a bare row this is a premise. The card (YtfhfkpgfnlmfhaaDoorCards.lean) ties it to the program's text. -/
def laid_haulage_seal_fourSteps {H : Type} : DataW H := .agg [.lit (.int .u32 0), .lit (.int .u32 274646895), .lit (.int .u32 549293790), .lit (.int .u32 820201905), .lit (.int .u32 1098587580), .lit (.int .u32 1361435347), .lit (.int .u32 1640403810), .lit (.int .u32 1905808397), .lit (.int .u32 2197175160), .lit (.int .u32 2460548119), .lit (.int .u32 2722870694), .lit (.int .u32 2987750089), .lit (.int .u32 3280807620), .lit (.int .u32 3553878443), .lit (.int .u32 3811616794), .lit (.int .u32 4084100981)]

/-- 'haulagelaw19.MailEncodes': WHATEVER THE INPUT: true; the input reads as it did. -/
def mailEncodesSpec : ChangeSpec := { name := "mailEncodes", fn := fun _ => fun
  | [d] => { results := [.lit (.bool true)], args := [d] }
  | _ => none }
def mailEncodesRow : OpenClaim := { program := "ytfhfkpgfnlmfhaadoor", sum := "3bdb2a81c449fa834dd72520ec8a756f63cf26334e5f9ab159ccb3894a2b1fbb", func := "haulage/haulagelaw19.MailEncodes", spec := "mailEncodes", unfollowed := true, recurses := true, named := ["haulage/seal.fourSteps"], apart := false, laid := [("haulage/seal.fourSteps", laid_haulage_seal_fourSteps)] }
def MailEncodesSaid : Prop := mailEncodesRow.holds Tryd.pinned (OpenSpec.ofChange mailEncodesSpec)

/-- ITS FALSE NEIGHBOUR: 'it returns false'. Refute it at one input. -/
def mailEncodesWrong : ChangeSpec := { name := "mailEncodes", fn := fun _ => fun
  | [d] => { results := [.lit (.bool false)], args := [d] }
  | _ => none }
def MailEncodesWrongFalsely : Prop := mailEncodesRow.holds Tryd.pinned (OpenSpec.ofChange mailEncodesWrong)

/-- 'haulagelaw19.MailBack': WHATEVER THE INPUT: true; the input reads as it did. -/
def mailBackSpec : ChangeSpec := { name := "mailBack", fn := fun _ => fun
  | [d1, d2] => { results := [.lit (.bool true)], args := [d1, d2] }
  | _ => none }
def mailBackRow : OpenClaim := { program := "ytfhfkpgfnlmfhaadoor", sum := "3bdb2a81c449fa834dd72520ec8a756f63cf26334e5f9ab159ccb3894a2b1fbb", func := "haulage/haulagelaw19.MailBack", spec := "mailBack", unfollowed := true, recurses := true, named := ["haulage/seal.fourSteps"], apart := false, laid := [("haulage/seal.fourSteps", laid_haulage_seal_fourSteps)] }
def MailBackSaid : Prop := mailBackRow.holds Tryd.pinned (OpenSpec.ofChange mailBackSpec)

/-- ITS FALSE NEIGHBOUR: 'it returns false'. Refute it at one input. -/
def mailBackWrong : ChangeSpec := { name := "mailBack", fn := fun _ => fun
  | [d1, d2] => { results := [.lit (.bool false)], args := [d1, d2] }
  | _ => none }
def MailBackWrongFalsely : Prop := mailBackRow.holds Tryd.pinned (OpenSpec.ofChange mailBackWrong)

/-- 'haulagelaw19.MailForm': WHATEVER THE INPUT: true; the input reads as it did. -/
def mailFormSpec : ChangeSpec := { name := "mailForm", fn := fun _ => fun
  | [d1, d2] => { results := [.lit (.bool true)], args := [d1, d2] }
  | _ => none }
def mailFormRow : OpenClaim := { program := "ytfhfkpgfnlmfhaadoor", sum := "3bdb2a81c449fa834dd72520ec8a756f63cf26334e5f9ab159ccb3894a2b1fbb", func := "haulage/haulagelaw19.MailForm", spec := "mailForm", unfollowed := true, recurses := true, named := ["haulage/seal.fourSteps"], apart := false, laid := [("haulage/seal.fourSteps", laid_haulage_seal_fourSteps)] }
def MailFormSaid : Prop := mailFormRow.holds Tryd.pinned (OpenSpec.ofChange mailFormSpec)

/-- ITS FALSE NEIGHBOUR: 'it returns false'. Refute it at one input. -/
def mailFormWrong : ChangeSpec := { name := "mailForm", fn := fun _ => fun
  | [d1, d2] => { results := [.lit (.bool false)], args := [d1, d2] }
  | _ => none }
def MailFormWrongFalsely : Prop := mailFormRow.holds Tryd.pinned (OpenSpec.ofChange mailFormWrong)

/-- 'haulagelaw19.MailTurned': WHATEVER THE INPUT: true; the input reads as it did. -/
def mailTurnedSpec : ChangeSpec := { name := "mailTurned", fn := fun _ => fun
  | [d1, d2, d3] => { results := [.lit (.bool true)], args := [d1, d2, d3] }
  | _ => none }
def mailTurnedRow : OpenClaim := { program := "ytfhfkpgfnlmfhaadoor", sum := "3bdb2a81c449fa834dd72520ec8a756f63cf26334e5f9ab159ccb3894a2b1fbb", func := "haulage/haulagelaw19.MailTurned", spec := "mailTurned", unfollowed := true, recurses := true, named := ["haulage/seal.fourSteps"], apart := false, laid := [("haulage/seal.fourSteps", laid_haulage_seal_fourSteps)] }
def MailTurnedSaid : Prop := mailTurnedRow.holds Tryd.pinned (OpenSpec.ofChange mailTurnedSpec)

/-- ITS FALSE NEIGHBOUR: 'it returns false'. Refute it at one input. -/
def mailTurnedWrong : ChangeSpec := { name := "mailTurned", fn := fun _ => fun
  | [d1, d2, d3] => { results := [.lit (.bool false)], args := [d1, d2, d3] }
  | _ => none }
def MailTurnedWrongFalsely : Prop := mailTurnedRow.holds Tryd.pinned (OpenSpec.ofChange mailTurnedWrong)

/-- 'haulagelaw19.MailCut': WHATEVER THE INPUT: true; the input reads as it did. -/
def mailCutSpec : ChangeSpec := { name := "mailCut", fn := fun _ => fun
  | [d1, d2, d3] => { results := [.lit (.bool true)], args := [d1, d2, d3] }
  | _ => none }
def mailCutRow : OpenClaim := { program := "ytfhfkpgfnlmfhaadoor", sum := "3bdb2a81c449fa834dd72520ec8a756f63cf26334e5f9ab159ccb3894a2b1fbb", func := "haulage/haulagelaw19.MailCut", spec := "mailCut", unfollowed := true, recurses := true, named := ["haulage/seal.fourSteps"], apart := false, laid := [("haulage/seal.fourSteps", laid_haulage_seal_fourSteps)] }
def MailCutSaid : Prop := mailCutRow.holds Tryd.pinned (OpenSpec.ofChange mailCutSpec)

/-- ITS FALSE NEIGHBOUR: 'it returns false'. Refute it at one input. -/
def mailCutWrong : ChangeSpec := { name := "mailCut", fn := fun _ => fun
  | [d1, d2, d3] => { results := [.lit (.bool false)], args := [d1, d2, d3] }
  | _ => none }
def MailCutWrongFalsely : Prop := mailCutRow.holds Tryd.pinned (OpenSpec.ofChange mailCutWrong)

/- THE SECOND FORM. 'bulk': how many values and letters a reading holds, each counted each time it is reached (what is shared counts as often as it is met; a slice's spare places count too). A statement '..UptoSaid' is the law's where the arguments, and the package variables that the reading takes, are together of bulk at most 1048576: NARROWER than '..Said'. Prove '..Said' where nothing that the law and all that it calls make is longer than what came in: it says more and counts as full. Else prove '..UptoSaid'. A law counts once. -/
mutual
def uptoBulk {H : Type} : DataW H → Nat
  | .lit (.string bytes) => bytes.length + 1
  | .lit _ => 1
  | .nil => 1
  | .ptr d => uptoBulk d + 1
  | .slice elems spare => uptoBulkAll elems + uptoBulkAll spare + 1
  | .agg parts => uptoBulkAll parts + 1
  | .iface _ d => uptoBulk d + 1
  | .map entries => uptoBulkEntries entries + 1
  | .held _ => 1
def uptoBulkAll {H : Type} : List (DataW H) → Nat
  | [] => 0
  | d :: r => uptoBulk d + uptoBulkAll r
def uptoBulkEntries {H : Type} : List (Lit × DataW H) → Nat
  | [] => 0
  | x :: r => uptoBulkEntry x + uptoBulkEntries r
def uptoBulkEntry {H : Type} : Lit × DataW H → Nat
  | (.string bytes, d) => bytes.length + uptoBulk d + 1
  | (_, d) => uptoBulk d + 1
 end
def uptoSmall : (H : Type) → List (DataW H) → Bool := fun _ ds => decide (uptoBulkAll ds ≤ 1048576)
def OpenSpec.upto (s : _root_.Go.ChangeSpec) : _root_.Go.OpenSpec := { _root_.Go.OpenSpec.ofChange s with cond := some uptoSmall }

/-- 'haulagelaw19.MailEncodes', WHERE WHAT IT READS IS OF BULK AT MOST 1048576: true; the input reads as it did. -/
def mailEncodesUptoRow : OpenClaim := { program := "ytfhfkpgfnlmfhaadoor", sum := "3bdb2a81c449fa834dd72520ec8a756f63cf26334e5f9ab159ccb3894a2b1fbb", func := "haulage/haulagelaw19.MailEncodes", spec := "mailEncodes", unfollowed := true, recurses := true, named := ["haulage/seal.fourSteps"], apart := false, laid := [("haulage/seal.fourSteps", laid_haulage_seal_fourSteps)], narrowed := true }
def MailEncodesUptoSaid : Prop := mailEncodesUptoRow.holds Tryd.pinned (OpenSpec.upto mailEncodesSpec)

/-- 'haulagelaw19.MailBack', WHERE WHAT IT READS IS OF BULK AT MOST 1048576: true; the input reads as it did. -/
def mailBackUptoRow : OpenClaim := { program := "ytfhfkpgfnlmfhaadoor", sum := "3bdb2a81c449fa834dd72520ec8a756f63cf26334e5f9ab159ccb3894a2b1fbb", func := "haulage/haulagelaw19.MailBack", spec := "mailBack", unfollowed := true, recurses := true, named := ["haulage/seal.fourSteps"], apart := false, laid := [("haulage/seal.fourSteps", laid_haulage_seal_fourSteps)], narrowed := true }
def MailBackUptoSaid : Prop := mailBackUptoRow.holds Tryd.pinned (OpenSpec.upto mailBackSpec)

/-- 'haulagelaw19.MailForm', WHERE WHAT IT READS IS OF BULK AT MOST 1048576: true; the input reads as it did. -/
def mailFormUptoRow : OpenClaim := { program := "ytfhfkpgfnlmfhaadoor", sum := "3bdb2a81c449fa834dd72520ec8a756f63cf26334e5f9ab159ccb3894a2b1fbb", func := "haulage/haulagelaw19.MailForm", spec := "mailForm", unfollowed := true, recurses := true, named := ["haulage/seal.fourSteps"], apart := false, laid := [("haulage/seal.fourSteps", laid_haulage_seal_fourSteps)], narrowed := true }
def MailFormUptoSaid : Prop := mailFormUptoRow.holds Tryd.pinned (OpenSpec.upto mailFormSpec)

/-- 'haulagelaw19.MailTurned', WHERE WHAT IT READS IS OF BULK AT MOST 1048576: true; the input reads as it did. -/
def mailTurnedUptoRow : OpenClaim := { program := "ytfhfkpgfnlmfhaadoor", sum := "3bdb2a81c449fa834dd72520ec8a756f63cf26334e5f9ab159ccb3894a2b1fbb", func := "haulage/haulagelaw19.MailTurned", spec := "mailTurned", unfollowed := true, recurses := true, named := ["haulage/seal.fourSteps"], apart := false, laid := [("haulage/seal.fourSteps", laid_haulage_seal_fourSteps)], narrowed := true }
def MailTurnedUptoSaid : Prop := mailTurnedUptoRow.holds Tryd.pinned (OpenSpec.upto mailTurnedSpec)

/-- 'haulagelaw19.MailCut', WHERE WHAT IT READS IS OF BULK AT MOST 1048576: true; the input reads as it did. -/
def mailCutUptoRow : OpenClaim := { program := "ytfhfkpgfnlmfhaadoor", sum := "3bdb2a81c449fa834dd72520ec8a756f63cf26334e5f9ab159ccb3894a2b1fbb", func := "haulage/haulagelaw19.MailCut", spec := "mailCut", unfollowed := true, recurses := true, named := ["haulage/seal.fourSteps"], apart := false, laid := [("haulage/seal.fourSteps", laid_haulage_seal_fourSteps)], narrowed := true }
def MailCutUptoSaid : Prop := mailCutUptoRow.holds Tryd.pinned (OpenSpec.upto mailCutSpec)

end Rows
end Go.Proofs.YtfhfkpgfnlmfhaaDoor
