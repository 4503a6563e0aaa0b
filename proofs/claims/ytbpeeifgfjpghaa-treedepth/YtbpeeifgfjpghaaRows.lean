/-
  No cell of these rows narrows 'for every input' (looked for: loops, veiled, ifaces, maps, wideKeys, modest, calm, conditions, laid).
  DERIVED. THE GIVEN ROWS OF THIS SEAT. 4 by the template 'for every input the law returns true; each argument reads behind the call as it read before'; 0 by the template 'total and deterministic' (their statements: YtbpeeifgfjpghaaTotals.lean).
  GIVEN WITH THE SEED: the statements are not yours to turn. If you find one false, say at which input.
  Laid BY PROGRAM, IN A SANDBOX (cutbox-rows.mjs): the forced cells as the released guide's own fill.sh prints them over the translation edda5e4919fcf5ec… (all of the seat's roots in one cut). By AI agents, Wed Nov 11 2026. No macro, syntax, notation, axiom, sorry.
-/
import Derived.Test.YtbpeeifgfjpghaaChecked
import GoSem.Claim
import GoSem.ClaimJoined
import GoSem.ClaimMapViews
import Derived.JoinedTies
import Derived.KernelRfl
namespace Go.Proofs.Ytbpeeifgfjpghaa
/- THE CELL 'sum', in the pinned program and in every row, IS THE sha256 OF THE DUMP (.gsa) THAT YtbpeeifgfjpghaaProg.lean LOADS. Nothing in Lean hashes anything: it is a label: what it is worth is what the hold of that sum in a sandbox is worth. -/
noncomputable def Try.pinned : Pinned := { name := "ytbpeeifgfjpghaa", sum := "edda5e4919fcf5eca7f872d41a784cb86f4a339b060513c705fb9e444de1a841", checked := Try.checked }
namespace Rows
def none {H : Type} : Left H := { results := [], args := [] }

/-- 'haulagelaw05.TreeInts': WHATEVER THE INPUT: true; the input reads as it did. -/
def treeIntsSpec : ChangeSpec := { name := "treeInts", fn := fun _ => fun
  | [d] => { results := [.lit (.bool true)], args := [d] }
  | _ => none }
def treeIntsRow : OpenClaim := { program := "ytbpeeifgfjpghaa", sum := "edda5e4919fcf5eca7f872d41a784cb86f4a339b060513c705fb9e444de1a841", func := "haulage/haulagelaw05.TreeInts", spec := "treeInts", unfollowed := true, recurses := true, apart := false }
def TreeIntsSaid : Prop := treeIntsRow.holds Try.pinned (OpenSpec.ofChange treeIntsSpec)

/-- ITS FALSE NEIGHBOUR: 'it returns false'. Refute it at one input. -/
def treeIntsWrong : ChangeSpec := { name := "treeInts", fn := fun _ => fun
  | [d] => { results := [.lit (.bool false)], args := [d] }
  | _ => none }
def TreeIntsWrongFalsely : Prop := treeIntsRow.holds Try.pinned (OpenSpec.ofChange treeIntsWrong)

/-- 'haulagelaw05.TreeReals': WHATEVER THE INPUT: true; the input reads as it did. -/
def treeRealsSpec : ChangeSpec := { name := "treeReals", fn := fun _ => fun
  | [d1, d2] => { results := [.lit (.bool true)], args := [d1, d2] }
  | _ => none }
def treeRealsRow : OpenClaim := { program := "ytbpeeifgfjpghaa", sum := "edda5e4919fcf5eca7f872d41a784cb86f4a339b060513c705fb9e444de1a841", func := "haulage/haulagelaw05.TreeReals", spec := "treeReals", inPlace := ["math.Float64frombits", "math.Float64bits"], unfollowed := true, recurses := true, apart := false }
def TreeRealsSaid : Prop := treeRealsRow.holds Try.pinned (OpenSpec.ofChange treeRealsSpec)

/-- ITS FALSE NEIGHBOUR: 'it returns false'. Refute it at one input. -/
def treeRealsWrong : ChangeSpec := { name := "treeReals", fn := fun _ => fun
  | [d1, d2] => { results := [.lit (.bool false)], args := [d1, d2] }
  | _ => none }
def TreeRealsWrongFalsely : Prop := treeRealsRow.holds Try.pinned (OpenSpec.ofChange treeRealsWrong)

/-- 'haulagelaw05.TreeLists': WHATEVER THE INPUT: true; the input reads as it did. -/
def treeListsSpec : ChangeSpec := { name := "treeLists", fn := fun _ => fun
  | [d1, d2, d3, d4] => { results := [.lit (.bool true)], args := [d1, d2, d3, d4] }
  | _ => none }
def treeListsRow : OpenClaim := { program := "ytbpeeifgfjpghaa", sum := "edda5e4919fcf5eca7f872d41a784cb86f4a339b060513c705fb9e444de1a841", func := "haulage/haulagelaw05.TreeLists", spec := "treeLists", recurses := true, apart := false }
def TreeListsSaid : Prop := treeListsRow.holds Try.pinned (OpenSpec.ofChange treeListsSpec)

/-- ITS FALSE NEIGHBOUR: 'it returns false'. Refute it at one input. -/
def treeListsWrong : ChangeSpec := { name := "treeLists", fn := fun _ => fun
  | [d1, d2, d3, d4] => { results := [.lit (.bool false)], args := [d1, d2, d3, d4] }
  | _ => none }
def TreeListsWrongFalsely : Prop := treeListsRow.holds Try.pinned (OpenSpec.ofChange treeListsWrong)

/-- 'haulagelaw05.TreeDepth': WHATEVER THE INPUT: true; the input reads as it did. -/
def treeDepthSpec : ChangeSpec := { name := "treeDepth", fn := fun _ => fun
  | [d1, d2, d3, d4] => { results := [.lit (.bool true)], args := [d1, d2, d3, d4] }
  | _ => none }
def treeDepthRow : OpenClaim := { program := "ytbpeeifgfjpghaa", sum := "edda5e4919fcf5eca7f872d41a784cb86f4a339b060513c705fb9e444de1a841", func := "haulage/haulagelaw05.TreeDepth", spec := "treeDepth", unfollowed := true, recurses := true, apart := false }
def TreeDepthSaid : Prop := treeDepthRow.holds Try.pinned (OpenSpec.ofChange treeDepthSpec)

/-- ITS FALSE NEIGHBOUR: 'it returns false'. Refute it at one input. -/
def treeDepthWrong : ChangeSpec := { name := "treeDepth", fn := fun _ => fun
  | [d1, d2, d3, d4] => { results := [.lit (.bool false)], args := [d1, d2, d3, d4] }
  | _ => none }
def TreeDepthWrongFalsely : Prop := treeDepthRow.holds Try.pinned (OpenSpec.ofChange treeDepthWrong)

/- THE SECOND FORM. 'bulk': how many values and letters a reading holds, each counted each time it is reached (what is shared counts as often as it is met; a slice's spare places count too). A statement '..UptoSaid' is the law's where the arguments, and the package variables that the reading takes, are together of bulk at most 1048576: NARROWER than '..Said'. Prove '..Said' where nothing that the law and all that it calls make is longer than what came in: it says more and counts as full. Else prove '..UptoSaid'. A law counts once. -/
mutual
def uptoBulk {H : Type} : DataW H → Nat
  | .lit (.string bytes) => bytes.length + 1
  | .lit _ => 1
  | .nil => 1
  | .ptr d => uptoBulk d + 1
  | .slice elems spare => uptoBulkAll elems + uptoBulkAll spare + 1
  | .agg parts => uptoBulkAll parts + 1
  | .iface _ d => uptoBulk d + 1
  | .map entries => uptoBulkEntries entries + 1
  | .held _ => 1
def uptoBulkAll {H : Type} : List (DataW H) → Nat
  | [] => 0
  | d :: r => uptoBulk d + uptoBulkAll r
def uptoBulkEntries {H : Type} : List (Lit × DataW H) → Nat
  | [] => 0
  | x :: r => uptoBulkEntry x + uptoBulkEntries r
def uptoBulkEntry {H : Type} : Lit × DataW H → Nat
  | (.string bytes, d) => bytes.length + uptoBulk d + 1
  | (_, d) => uptoBulk d + 1
 end
def uptoSmall : (H : Type) → List (DataW H) → Bool := fun _ ds => decide (uptoBulkAll ds ≤ 1048576)
def OpenSpec.upto (s : _root_.Go.ChangeSpec) : _root_.Go.OpenSpec := { _root_.Go.OpenSpec.ofChange s with cond := some uptoSmall }

/-- 'haulagelaw05.TreeInts', WHERE WHAT IT READS IS OF BULK AT MOST 1048576: true; the input reads as it did. -/
def treeIntsUptoRow : OpenClaim := { program := "ytbpeeifgfjpghaa", sum := "edda5e4919fcf5eca7f872d41a784cb86f4a339b060513c705fb9e444de1a841", func := "haulage/haulagelaw05.TreeInts", spec := "treeInts", unfollowed := true, recurses := true, apart := false, narrowed := true }
def TreeIntsUptoSaid : Prop := treeIntsUptoRow.holds Try.pinned (OpenSpec.upto treeIntsSpec)

/-- 'haulagelaw05.TreeReals', WHERE WHAT IT READS IS OF BULK AT MOST 1048576: true; the input reads as it did. -/
def treeRealsUptoRow : OpenClaim := { program := "ytbpeeifgfjpghaa", sum := "edda5e4919fcf5eca7f872d41a784cb86f4a339b060513c705fb9e444de1a841", func := "haulage/haulagelaw05.TreeReals", spec := "treeReals", inPlace := ["math.Float64frombits", "math.Float64bits"], unfollowed := true, recurses := true, apart := false, narrowed := true }
def TreeRealsUptoSaid : Prop := treeRealsUptoRow.holds Try.pinned (OpenSpec.upto treeRealsSpec)

/-- 'haulagelaw05.TreeLists', WHERE WHAT IT READS IS OF BULK AT MOST 1048576: true; the input reads as it did. -/
def treeListsUptoRow : OpenClaim := { program := "ytbpeeifgfjpghaa", sum := "edda5e4919fcf5eca7f872d41a784cb86f4a339b060513c705fb9e444de1a841", func := "haulage/haulagelaw05.TreeLists", spec := "treeLists", recurses := true, apart := false, narrowed := true }
def TreeListsUptoSaid : Prop := treeListsUptoRow.holds Try.pinned (OpenSpec.upto treeListsSpec)

/-- 'haulagelaw05.TreeDepth', WHERE WHAT IT READS IS OF BULK AT MOST 1048576: true; the input reads as it did. -/
def treeDepthUptoRow : OpenClaim := { program := "ytbpeeifgfjpghaa", sum := "edda5e4919fcf5eca7f872d41a784cb86f4a339b060513c705fb9e444de1a841", func := "haulage/haulagelaw05.TreeDepth", spec := "treeDepth", unfollowed := true, recurses := true, apart := false, narrowed := true }
def TreeDepthUptoSaid : Prop := treeDepthUptoRow.holds Try.pinned (OpenSpec.upto treeDepthSpec)

end Rows
end Go.Proofs.Ytbpeeifgfjpghaa
