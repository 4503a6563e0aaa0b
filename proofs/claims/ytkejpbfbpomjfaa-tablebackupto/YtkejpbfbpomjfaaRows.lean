/-
  No cell of these rows narrows 'for every input' (looked for: loops, veiled, ifaces, maps, wideKeys, modest, calm, conditions, laid).
  DERIVED. THE GIVEN ROWS OF THIS SEAT. 4 by the template 'for every input the law returns true; each argument reads behind the call as it read before'; 0 by the template 'total and deterministic' (their statements: YtkejpbfbpomjfaaTotals.lean).
  GIVEN WITH THE SEED: the statements are not yours to turn. If you find one false, say at which input.
  Laid BY PROGRAM, IN A SANDBOX (cutbox-rows.mjs): the forced cells as the released guide's own fill.sh prints them over the translation d460eeae7d18ab69… (all of the seat's roots in one cut). By AI agents, Wed Nov 11 2026. No macro, syntax, notation, axiom, sorry.
-/
import Derived.Test.YtkejpbfbpomjfaaChecked
import GoSem.Claim
import GoSem.ClaimJoined
import GoSem.ClaimMapViews
import Derived.JoinedTies
import Derived.KernelRfl
namespace Go.Proofs.Ytkejpbfbpomjfaa
/- THE CELL 'sum', in the pinned program and in every row, IS THE sha256 OF THE DUMP (.gsa) THAT YtkejpbfbpomjfaaProg.lean LOADS. Nothing in Lean hashes anything: it is a label: what it is worth is what the hold of that sum in a sandbox is worth. -/
noncomputable def Try.pinned : Pinned := { name := "ytkejpbfbpomjfaa", sum := "d460eeae7d18ab69207c16eddbcce2e30e6e1076ff0e8d5e983df6c78d3bcf01", checked := Try.checked }
namespace Rows
def none {H : Type} : Left H := { results := [], args := [] }

/-- 'haulagelaw13.TablePlace': WHATEVER THE INPUT: true; the input reads as it did. -/
def tablePlaceSpec : ChangeSpec := { name := "tablePlace", fn := fun _ => fun
  | [d1, d2] => { results := [.lit (.bool true)], args := [d1, d2] }
  | _ => none }
def tablePlaceRow : OpenClaim := { program := "ytkejpbfbpomjfaa", sum := "d460eeae7d18ab69207c16eddbcce2e30e6e1076ff0e8d5e983df6c78d3bcf01", func := "haulage/haulagelaw13.TablePlace", spec := "tablePlace", unfollowed := true, recurses := true, apart := false }
def TablePlaceSaid : Prop := tablePlaceRow.holds Try.pinned (OpenSpec.ofChange tablePlaceSpec)

/-- ITS FALSE NEIGHBOUR: 'it returns false'. Refute it at one input. -/
def tablePlaceWrong : ChangeSpec := { name := "tablePlace", fn := fun _ => fun
  | [d1, d2] => { results := [.lit (.bool false)], args := [d1, d2] }
  | _ => none }
def TablePlaceWrongFalsely : Prop := tablePlaceRow.holds Try.pinned (OpenSpec.ofChange tablePlaceWrong)

/-- 'haulagelaw13.TableMap': WHATEVER THE INPUT: true; the input reads as it did. -/
def tableMapSpec : ChangeSpec := { name := "tableMap", fn := fun _ => fun
  | [d] => { results := [.lit (.bool true)], args := [d] }
  | _ => none }
def tableMapRow : OpenClaim := { program := "ytkejpbfbpomjfaa", sum := "d460eeae7d18ab69207c16eddbcce2e30e6e1076ff0e8d5e983df6c78d3bcf01", func := "haulage/haulagelaw13.TableMap", spec := "tableMap", unfollowed := true, recurses := true, apart := false }
def TableMapSaid : Prop := tableMapRow.holds Try.pinned (OpenSpec.ofChange tableMapSpec)

/-- ITS FALSE NEIGHBOUR: 'it returns false'. Refute it at one input. -/
def tableMapWrong : ChangeSpec := { name := "tableMap", fn := fun _ => fun
  | [d] => { results := [.lit (.bool false)], args := [d] }
  | _ => none }
def TableMapWrongFalsely : Prop := tableMapRow.holds Try.pinned (OpenSpec.ofChange tableMapWrong)

/-- 'haulagelaw13.TableBack': WHATEVER THE INPUT: true; the input reads as it did. -/
def tableBackSpec : ChangeSpec := { name := "tableBack", fn := fun _ => fun
  | [d1, d2, d3] => { results := [.lit (.bool true)], args := [d1, d2, d3] }
  | _ => none }
def tableBackRow : OpenClaim := { program := "ytkejpbfbpomjfaa", sum := "d460eeae7d18ab69207c16eddbcce2e30e6e1076ff0e8d5e983df6c78d3bcf01", func := "haulage/haulagelaw13.TableBack", spec := "tableBack", unfollowed := true, recurses := true, apart := false }
def TableBackSaid : Prop := tableBackRow.holds Try.pinned (OpenSpec.ofChange tableBackSpec)

/-- ITS FALSE NEIGHBOUR: 'it returns false'. Refute it at one input. -/
def tableBackWrong : ChangeSpec := { name := "tableBack", fn := fun _ => fun
  | [d1, d2, d3] => { results := [.lit (.bool false)], args := [d1, d2, d3] }
  | _ => none }
def TableBackWrongFalsely : Prop := tableBackRow.holds Try.pinned (OpenSpec.ofChange tableBackWrong)

/-- 'haulagelaw13.TableForm': WHATEVER THE INPUT: true; the input reads as it did. -/
def tableFormSpec : ChangeSpec := { name := "tableForm", fn := fun _ => fun
  | [d] => { results := [.lit (.bool true)], args := [d] }
  | _ => none }
def tableFormRow : OpenClaim := { program := "ytkejpbfbpomjfaa", sum := "d460eeae7d18ab69207c16eddbcce2e30e6e1076ff0e8d5e983df6c78d3bcf01", func := "haulage/haulagelaw13.TableForm", spec := "tableForm", unfollowed := true, recurses := true, apart := false }
def TableFormSaid : Prop := tableFormRow.holds Try.pinned (OpenSpec.ofChange tableFormSpec)

/-- ITS FALSE NEIGHBOUR: 'it returns false'. Refute it at one input. -/
def tableFormWrong : ChangeSpec := { name := "tableForm", fn := fun _ => fun
  | [d] => { results := [.lit (.bool false)], args := [d] }
  | _ => none }
def TableFormWrongFalsely : Prop := tableFormRow.holds Try.pinned (OpenSpec.ofChange tableFormWrong)

/- THE SECOND FORM. 'bulk': how many values and letters a reading holds, each counted each time it is reached (what is shared counts as often as it is met; a slice's spare places count too). A statement '..UptoSaid' is the law's where the arguments, and the package variables that the reading takes, are together of bulk at most 1048576: NARROWER than '..Said'. Prove '..Said' where nothing that the law and all that it calls make is longer than what came in: it says more and counts as full. Else prove '..UptoSaid'. A law counts once. -/
mutual
def uptoBulk {H : Type} : DataW H → Nat
  | .lit (.string bytes) => bytes.length + 1
  | .lit _ => 1
  | .nil => 1
  | .ptr d => uptoBulk d + 1
  | .slice elems spare => uptoBulkAll elems + uptoBulkAll spare + 1
  | .agg parts => uptoBulkAll parts + 1
  | .iface _ d => uptoBulk d + 1
  | .map entries => uptoBulkEntries entries + 1
  | .held _ => 1
def uptoBulkAll {H : Type} : List (DataW H) → Nat
  | [] => 0
  | d :: r => uptoBulk d + uptoBulkAll r
def uptoBulkEntries {H : Type} : List (Lit × DataW H) → Nat
  | [] => 0
  | x :: r => uptoBulkEntry x + uptoBulkEntries r
def uptoBulkEntry {H : Type} : Lit × DataW H → Nat
  | (.string bytes, d) => bytes.length + uptoBulk d + 1
  | (_, d) => uptoBulk d + 1
 end
def uptoSmall : (H : Type) → List (DataW H) → Bool := fun _ ds => decide (uptoBulkAll ds ≤ 1048576)
def OpenSpec.upto (s : _root_.Go.ChangeSpec) : _root_.Go.OpenSpec := { _root_.Go.OpenSpec.ofChange s with cond := some uptoSmall }

/-- 'haulagelaw13.TablePlace', WHERE WHAT IT READS IS OF BULK AT MOST 1048576: true; the input reads as it did. -/
def tablePlaceUptoRow : OpenClaim := { program := "ytkejpbfbpomjfaa", sum := "d460eeae7d18ab69207c16eddbcce2e30e6e1076ff0e8d5e983df6c78d3bcf01", func := "haulage/haulagelaw13.TablePlace", spec := "tablePlace", unfollowed := true, recurses := true, apart := false, narrowed := true }
def TablePlaceUptoSaid : Prop := tablePlaceUptoRow.holds Try.pinned (OpenSpec.upto tablePlaceSpec)

/-- 'haulagelaw13.TableMap', WHERE WHAT IT READS IS OF BULK AT MOST 1048576: true; the input reads as it did. -/
def tableMapUptoRow : OpenClaim := { program := "ytkejpbfbpomjfaa", sum := "d460eeae7d18ab69207c16eddbcce2e30e6e1076ff0e8d5e983df6c78d3bcf01", func := "haulage/haulagelaw13.TableMap", spec := "tableMap", unfollowed := true, recurses := true, apart := false, narrowed := true }
def TableMapUptoSaid : Prop := tableMapUptoRow.holds Try.pinned (OpenSpec.upto tableMapSpec)

/-- 'haulagelaw13.TableBack', WHERE WHAT IT READS IS OF BULK AT MOST 1048576: true; the input reads as it did. -/
def tableBackUptoRow : OpenClaim := { program := "ytkejpbfbpomjfaa", sum := "d460eeae7d18ab69207c16eddbcce2e30e6e1076ff0e8d5e983df6c78d3bcf01", func := "haulage/haulagelaw13.TableBack", spec := "tableBack", unfollowed := true, recurses := true, apart := false, narrowed := true }
def TableBackUptoSaid : Prop := tableBackUptoRow.holds Try.pinned (OpenSpec.upto tableBackSpec)

/-- 'haulagelaw13.TableForm', WHERE WHAT IT READS IS OF BULK AT MOST 1048576: true; the input reads as it did. -/
def tableFormUptoRow : OpenClaim := { program := "ytkejpbfbpomjfaa", sum := "d460eeae7d18ab69207c16eddbcce2e30e6e1076ff0e8d5e983df6c78d3bcf01", func := "haulage/haulagelaw13.TableForm", spec := "tableForm", unfollowed := true, recurses := true, apart := false, narrowed := true }
def TableFormUptoSaid : Prop := tableFormUptoRow.holds Try.pinned (OpenSpec.upto tableFormSpec)

end Rows
end Go.Proofs.Ytkejpbfbpomjfaa
