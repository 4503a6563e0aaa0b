/-
  No cell of these rows narrows 'for every input' (looked for: loops, veiled, ifaces, maps, wideKeys, modest, calm, conditions, laid).
  DERIVED. THE GIVEN ROWS OF THIS SEAT. 5 by the template 'for every input the law returns true; each argument reads behind the call as it read before'; 0 by the template 'total and deterministic' (their statements: YtiabhgkndejigabTotals.lean).
  GIVEN WITH THE SEED: the statements are not yours to turn. If you find one false, say at which input.
  Laid BY PROGRAM, IN A SANDBOX (cutbox-rows.mjs): the forced cells as the released guide's own fill.sh prints them over the translation fe26e662aafc86f4… (all of the seat's roots in one cut). By AI agents, Wed Nov 11 2026. No macro, syntax, notation, axiom, sorry.
-/
import Derived.Test.YtiabhgkndejigabChecked
import GoSem.Claim
import GoSem.ClaimJoined
import GoSem.ClaimMapViews
import Derived.JoinedTies
import Derived.KernelRfl
namespace Go.Proofs.Ytiabhgkndejigab
/- THE CELL 'sum', in the pinned program and in every row, IS THE sha256 OF THE DUMP (.gsa) THAT YtiabhgkndejigabProg.lean LOADS. Nothing in Lean hashes anything: it is a label: what it is worth is what the hold of that sum in a sandbox is worth. -/
noncomputable def Try.pinned : Pinned := { name := "ytiabhgkndejigab", sum := "fe26e662aafc86f4374355ce3389ba24ec036ee0cf3634e05acf753f4b2ad993", checked := Try.checked }
namespace Rows
def none {H : Type} : Left H := { results := [], args := [] }

/-- 'haulagelaw01.ParcelForms': WHATEVER THE INPUT: true; the input reads as it did. -/
def parcelFormsSpec : ChangeSpec := { name := "parcelForms", fn := fun _ => fun
  | [d1, d2] => { results := [.lit (.bool true)], args := [d1, d2] }
  | _ => none }
def parcelFormsRow : OpenClaim := { program := "ytiabhgkndejigab", sum := "fe26e662aafc86f4374355ce3389ba24ec036ee0cf3634e05acf753f4b2ad993", func := "haulage/haulagelaw01.ParcelForms", spec := "parcelForms", inPlace := ["slices.overlaps[byte]", "math.Float64frombits", "math.Float64bits"], unfollowed := true, recurses := true, apart := false }
def ParcelFormsSaid : Prop := parcelFormsRow.holds Try.pinned (OpenSpec.ofChange parcelFormsSpec)

/-- ITS FALSE NEIGHBOUR: 'it returns false'. Refute it at one input. -/
def parcelFormsWrong : ChangeSpec := { name := "parcelForms", fn := fun _ => fun
  | [d1, d2] => { results := [.lit (.bool false)], args := [d1, d2] }
  | _ => none }
def ParcelFormsWrongFalsely : Prop := parcelFormsRow.holds Try.pinned (OpenSpec.ofChange parcelFormsWrong)

/-- 'haulagelaw01.ParcelShut': WHATEVER THE INPUT: true; the input reads as it did. -/
def parcelShutSpec : ChangeSpec := { name := "parcelShut", fn := fun _ => fun
  | [d1, d2, d3] => { results := [.lit (.bool true)], args := [d1, d2, d3] }
  | _ => none }
def parcelShutRow : OpenClaim := { program := "ytiabhgkndejigab", sum := "fe26e662aafc86f4374355ce3389ba24ec036ee0cf3634e05acf753f4b2ad993", func := "haulage/haulagelaw01.ParcelShut", spec := "parcelShut", inPlace := ["slices.overlaps[byte]", "math.Float64frombits", "math.Float64bits"], unfollowed := true, recurses := true, apart := false }
def ParcelShutSaid : Prop := parcelShutRow.holds Try.pinned (OpenSpec.ofChange parcelShutSpec)

/-- ITS FALSE NEIGHBOUR: 'it returns false'. Refute it at one input. -/
def parcelShutWrong : ChangeSpec := { name := "parcelShut", fn := fun _ => fun
  | [d1, d2, d3] => { results := [.lit (.bool false)], args := [d1, d2, d3] }
  | _ => none }
def ParcelShutWrongFalsely : Prop := parcelShutRow.holds Try.pinned (OpenSpec.ofChange parcelShutWrong)

/-- 'haulagelaw01.ParcelRefuses': WHATEVER THE INPUT: true; the input reads as it did. -/
def parcelRefusesSpec : ChangeSpec := { name := "parcelRefuses", fn := fun _ => fun
  | [d1, d2, d3] => { results := [.lit (.bool true)], args := [d1, d2, d3] }
  | _ => none }
def parcelRefusesRow : OpenClaim := { program := "ytiabhgkndejigab", sum := "fe26e662aafc86f4374355ce3389ba24ec036ee0cf3634e05acf753f4b2ad993", func := "haulage/haulagelaw01.ParcelRefuses", spec := "parcelRefuses", inPlace := ["slices.overlaps[byte]", "math.Float64frombits", "math.Float64bits"], unfollowed := true, recurses := true, apart := false }
def ParcelRefusesSaid : Prop := parcelRefusesRow.holds Try.pinned (OpenSpec.ofChange parcelRefusesSpec)

/-- ITS FALSE NEIGHBOUR: 'it returns false'. Refute it at one input. -/
def parcelRefusesWrong : ChangeSpec := { name := "parcelRefuses", fn := fun _ => fun
  | [d1, d2, d3] => { results := [.lit (.bool false)], args := [d1, d2, d3] }
  | _ => none }
def ParcelRefusesWrongFalsely : Prop := parcelRefusesRow.holds Try.pinned (OpenSpec.ofChange parcelRefusesWrong)

/-- 'haulagelaw01.ParcelWriterOwn': WHATEVER THE INPUT: true; the input reads as it did. -/
def parcelWriterOwnSpec : ChangeSpec := { name := "parcelWriterOwn", fn := fun _ => fun
  | [d1, d2] => { results := [.lit (.bool true)], args := [d1, d2] }
  | _ => none }
def parcelWriterOwnRow : OpenClaim := { program := "ytiabhgkndejigab", sum := "fe26e662aafc86f4374355ce3389ba24ec036ee0cf3634e05acf753f4b2ad993", func := "haulage/haulagelaw01.ParcelWriterOwn", spec := "parcelWriterOwn", inPlace := ["slices.overlaps[byte]"], unfollowed := true, recurses := true, apart := false }
def ParcelWriterOwnSaid : Prop := parcelWriterOwnRow.holds Try.pinned (OpenSpec.ofChange parcelWriterOwnSpec)

/-- ITS FALSE NEIGHBOUR: 'it returns false'. Refute it at one input. -/
def parcelWriterOwnWrong : ChangeSpec := { name := "parcelWriterOwn", fn := fun _ => fun
  | [d1, d2] => { results := [.lit (.bool false)], args := [d1, d2] }
  | _ => none }
def ParcelWriterOwnWrongFalsely : Prop := parcelWriterOwnRow.holds Try.pinned (OpenSpec.ofChange parcelWriterOwnWrong)

/-- 'haulagelaw01.ParcelReaderOwn': WHATEVER THE INPUT: true; the input reads as it did. -/
def parcelReaderOwnSpec : ChangeSpec := { name := "parcelReaderOwn", fn := fun _ => fun
  | [d] => { results := [.lit (.bool true)], args := [d] }
  | _ => none }
def parcelReaderOwnRow : OpenClaim := { program := "ytiabhgkndejigab", sum := "fe26e662aafc86f4374355ce3389ba24ec036ee0cf3634e05acf753f4b2ad993", func := "haulage/haulagelaw01.ParcelReaderOwn", spec := "parcelReaderOwn", inPlace := ["slices.overlaps[byte]"], unfollowed := true, recurses := true, apart := false }
def ParcelReaderOwnSaid : Prop := parcelReaderOwnRow.holds Try.pinned (OpenSpec.ofChange parcelReaderOwnSpec)

/-- ITS FALSE NEIGHBOUR: 'it returns false'. Refute it at one input. -/
def parcelReaderOwnWrong : ChangeSpec := { name := "parcelReaderOwn", fn := fun _ => fun
  | [d] => { results := [.lit (.bool false)], args := [d] }
  | _ => none }
def ParcelReaderOwnWrongFalsely : Prop := parcelReaderOwnRow.holds Try.pinned (OpenSpec.ofChange parcelReaderOwnWrong)

/- THE SECOND FORM. 'bulk': how many values and letters a reading holds, each counted each time it is reached (what is shared counts as often as it is met; a slice's spare places count too). A statement '..UptoSaid' is the law's where the arguments, and the package variables that the reading takes, are together of bulk at most 1048576: NARROWER than '..Said'. Prove '..Said' where nothing that the law and all that it calls make is longer than what came in: it says more and counts as full. Else prove '..UptoSaid'. A law counts once. -/
mutual
def uptoBulk {H : Type} : DataW H → Nat
  | .lit (.string bytes) => bytes.length + 1
  | .lit _ => 1
  | .nil => 1
  | .ptr d => uptoBulk d + 1
  | .slice elems spare => uptoBulkAll elems + uptoBulkAll spare + 1
  | .agg parts => uptoBulkAll parts + 1
  | .iface _ d => uptoBulk d + 1
  | .map entries => uptoBulkEntries entries + 1
  | .held _ => 1
def uptoBulkAll {H : Type} : List (DataW H) → Nat
  | [] => 0
  | d :: r => uptoBulk d + uptoBulkAll r
def uptoBulkEntries {H : Type} : List (Lit × DataW H) → Nat
  | [] => 0
  | x :: r => uptoBulkEntry x + uptoBulkEntries r
def uptoBulkEntry {H : Type} : Lit × DataW H → Nat
  | (.string bytes, d) => bytes.length + uptoBulk d + 1
  | (_, d) => uptoBulk d + 1
 end
def uptoSmall : (H : Type) → List (DataW H) → Bool := fun _ ds => decide (uptoBulkAll ds ≤ 1048576)
def OpenSpec.upto (s : _root_.Go.ChangeSpec) : _root_.Go.OpenSpec := { _root_.Go.OpenSpec.ofChange s with cond := some uptoSmall }

/-- 'haulagelaw01.ParcelForms', WHERE WHAT IT READS IS OF BULK AT MOST 1048576: true; the input reads as it did. -/
def parcelFormsUptoRow : OpenClaim := { program := "ytiabhgkndejigab", sum := "fe26e662aafc86f4374355ce3389ba24ec036ee0cf3634e05acf753f4b2ad993", func := "haulage/haulagelaw01.ParcelForms", spec := "parcelForms", inPlace := ["slices.overlaps[byte]", "math.Float64frombits", "math.Float64bits"], unfollowed := true, recurses := true, apart := false, narrowed := true }
def ParcelFormsUptoSaid : Prop := parcelFormsUptoRow.holds Try.pinned (OpenSpec.upto parcelFormsSpec)

/-- 'haulagelaw01.ParcelShut', WHERE WHAT IT READS IS OF BULK AT MOST 1048576: true; the input reads as it did. -/
def parcelShutUptoRow : OpenClaim := { program := "ytiabhgkndejigab", sum := "fe26e662aafc86f4374355ce3389ba24ec036ee0cf3634e05acf753f4b2ad993", func := "haulage/haulagelaw01.ParcelShut", spec := "parcelShut", inPlace := ["slices.overlaps[byte]", "math.Float64frombits", "math.Float64bits"], unfollowed := true, recurses := true, apart := false, narrowed := true }
def ParcelShutUptoSaid : Prop := parcelShutUptoRow.holds Try.pinned (OpenSpec.upto parcelShutSpec)

/-- 'haulagelaw01.ParcelRefuses', WHERE WHAT IT READS IS OF BULK AT MOST 1048576: true; the input reads as it did. -/
def parcelRefusesUptoRow : OpenClaim := { program := "ytiabhgkndejigab", sum := "fe26e662aafc86f4374355ce3389ba24ec036ee0cf3634e05acf753f4b2ad993", func := "haulage/haulagelaw01.ParcelRefuses", spec := "parcelRefuses", inPlace := ["slices.overlaps[byte]", "math.Float64frombits", "math.Float64bits"], unfollowed := true, recurses := true, apart := false, narrowed := true }
def ParcelRefusesUptoSaid : Prop := parcelRefusesUptoRow.holds Try.pinned (OpenSpec.upto parcelRefusesSpec)

/-- 'haulagelaw01.ParcelWriterOwn', WHERE WHAT IT READS IS OF BULK AT MOST 1048576: true; the input reads as it did. -/
def parcelWriterOwnUptoRow : OpenClaim := { program := "ytiabhgkndejigab", sum := "fe26e662aafc86f4374355ce3389ba24ec036ee0cf3634e05acf753f4b2ad993", func := "haulage/haulagelaw01.ParcelWriterOwn", spec := "parcelWriterOwn", inPlace := ["slices.overlaps[byte]"], unfollowed := true, recurses := true, apart := false, narrowed := true }
def ParcelWriterOwnUptoSaid : Prop := parcelWriterOwnUptoRow.holds Try.pinned (OpenSpec.upto parcelWriterOwnSpec)

/-- 'haulagelaw01.ParcelReaderOwn', WHERE WHAT IT READS IS OF BULK AT MOST 1048576: true; the input reads as it did. -/
def parcelReaderOwnUptoRow : OpenClaim := { program := "ytiabhgkndejigab", sum := "fe26e662aafc86f4374355ce3389ba24ec036ee0cf3634e05acf753f4b2ad993", func := "haulage/haulagelaw01.ParcelReaderOwn", spec := "parcelReaderOwn", inPlace := ["slices.overlaps[byte]"], unfollowed := true, recurses := true, apart := false, narrowed := true }
def ParcelReaderOwnUptoSaid : Prop := parcelReaderOwnUptoRow.holds Try.pinned (OpenSpec.upto parcelReaderOwnSpec)

end Rows
end Go.Proofs.Ytiabhgkndejigab
