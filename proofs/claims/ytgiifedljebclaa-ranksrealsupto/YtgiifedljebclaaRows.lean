/-
  No cell of these rows narrows 'for every input' (looked for: loops, veiled, ifaces, maps, wideKeys, modest, calm, conditions, laid).
  DERIVED. THE GIVEN ROWS OF THIS SEAT. 6 by the template 'for every input the law returns true; each argument reads behind the call as it read before'; 0 by the template 'total and deterministic' (their statements: YtgiifedljebclaaTotals.lean).
  GIVEN WITH THE SEED: the statements are not yours to turn. If you find one false, say at which input.
  Laid BY PROGRAM, IN A SANDBOX (cutbox-rows.mjs): the forced cells as the released guide's own fill.sh prints them over the translation 8717d5c1ba6bc7ea… (all of the seat's roots in one cut). By AI agents, Wed Nov 11 2026. No macro, syntax, notation, axiom, sorry.
-/
import Derived.Test.YtgiifedljebclaaChecked
import GoSem.Claim
import GoSem.ClaimJoined
import GoSem.ClaimMapViews
import Derived.JoinedTies
import Derived.KernelRfl
namespace Go.Proofs.Ytgiifedljebclaa
/- THE CELL 'sum', in the pinned program and in every row, IS THE sha256 OF THE DUMP (.gsa) THAT YtgiifedljebclaaProg.lean LOADS. Nothing in Lean hashes anything: it is a label: what it is worth is what the hold of that sum in a sandbox is worth. -/
noncomputable def Try.pinned : Pinned := { name := "ytgiifedljebclaa", sum := "8717d5c1ba6bc7ea12b6627d5a776ec5dadc81fce69cacfe23c530a50d43d414", checked := Try.checked }
namespace Rows
def none {H : Type} : Left H := { results := [], args := [] }

/-- 'haulagelaw06.RanksInts': WHATEVER THE INPUT: true; the input reads as it did. -/
def ranksIntsSpec : ChangeSpec := { name := "ranksInts", fn := fun _ => fun
  | [d1, d2, d3, d4] => { results := [.lit (.bool true)], args := [d1, d2, d3, d4] }
  | _ => none }
def ranksIntsRow : OpenClaim := { program := "ytgiifedljebclaa", sum := "8717d5c1ba6bc7ea12b6627d5a776ec5dadc81fce69cacfe23c530a50d43d414", func := "haulage/haulagelaw06.RanksInts", spec := "ranksInts", inPlace := ["slices.overlaps[haulage/ranks.entry[int]]"], unfollowed := true, recurses := true, apart := false }
def RanksIntsSaid : Prop := ranksIntsRow.holds Try.pinned (OpenSpec.ofChange ranksIntsSpec)

/-- ITS FALSE NEIGHBOUR: 'it returns false'. Refute it at one input. -/
def ranksIntsWrong : ChangeSpec := { name := "ranksInts", fn := fun _ => fun
  | [d1, d2, d3, d4] => { results := [.lit (.bool false)], args := [d1, d2, d3, d4] }
  | _ => none }
def RanksIntsWrongFalsely : Prop := ranksIntsRow.holds Try.pinned (OpenSpec.ofChange ranksIntsWrong)

/-- 'haulagelaw06.RanksReals': WHATEVER THE INPUT: true; the input reads as it did. -/
def ranksRealsSpec : ChangeSpec := { name := "ranksReals", fn := fun _ => fun
  | [d1, d2, d3, d4] => { results := [.lit (.bool true)], args := [d1, d2, d3, d4] }
  | _ => none }
def ranksRealsRow : OpenClaim := { program := "ytgiifedljebclaa", sum := "8717d5c1ba6bc7ea12b6627d5a776ec5dadc81fce69cacfe23c530a50d43d414", func := "haulage/haulagelaw06.RanksReals", spec := "ranksReals", inPlace := ["math.Float64frombits", "slices.overlaps[haulage/ranks.entry[float64]]", "math.Float64bits"], unfollowed := true, recurses := true, apart := false }
def RanksRealsSaid : Prop := ranksRealsRow.holds Try.pinned (OpenSpec.ofChange ranksRealsSpec)

/-- ITS FALSE NEIGHBOUR: 'it returns false'. Refute it at one input. -/
def ranksRealsWrong : ChangeSpec := { name := "ranksReals", fn := fun _ => fun
  | [d1, d2, d3, d4] => { results := [.lit (.bool false)], args := [d1, d2, d3, d4] }
  | _ => none }
def RanksRealsWrongFalsely : Prop := ranksRealsRow.holds Try.pinned (OpenSpec.ofChange ranksRealsWrong)

/-- 'haulagelaw06.RanksTexts': WHATEVER THE INPUT: true; the input reads as it did. -/
def ranksTextsSpec : ChangeSpec := { name := "ranksTexts", fn := fun _ => fun
  | [d1, d2, d3, d4] => { results := [.lit (.bool true)], args := [d1, d2, d3, d4] }
  | _ => none }
def ranksTextsRow : OpenClaim := { program := "ytgiifedljebclaa", sum := "8717d5c1ba6bc7ea12b6627d5a776ec5dadc81fce69cacfe23c530a50d43d414", func := "haulage/haulagelaw06.RanksTexts", spec := "ranksTexts", inPlace := ["slices.overlaps[haulage/ranks.entry[string]]"], unfollowed := true, recurses := true, apart := false }
def RanksTextsSaid : Prop := ranksTextsRow.holds Try.pinned (OpenSpec.ofChange ranksTextsSpec)

/-- ITS FALSE NEIGHBOUR: 'it returns false'. Refute it at one input. -/
def ranksTextsWrong : ChangeSpec := { name := "ranksTexts", fn := fun _ => fun
  | [d1, d2, d3, d4] => { results := [.lit (.bool false)], args := [d1, d2, d3, d4] }
  | _ => none }
def RanksTextsWrongFalsely : Prop := ranksTextsRow.holds Try.pinned (OpenSpec.ofChange ranksTextsWrong)

/-- 'haulagelaw06.RanksNear': WHATEVER THE INPUT: true; the input reads as it did. -/
def ranksNearSpec : ChangeSpec := { name := "ranksNear", fn := fun _ => fun
  | [d1, d2] => { results := [.lit (.bool true)], args := [d1, d2] }
  | _ => none }
def ranksNearRow : OpenClaim := { program := "ytgiifedljebclaa", sum := "8717d5c1ba6bc7ea12b6627d5a776ec5dadc81fce69cacfe23c530a50d43d414", func := "haulage/haulagelaw06.RanksNear", spec := "ranksNear", inPlace := ["slices.overlaps[haulage/ranks.entry[int]]"], unfollowed := true, recurses := true, apart := false }
def RanksNearSaid : Prop := ranksNearRow.holds Try.pinned (OpenSpec.ofChange ranksNearSpec)

/-- ITS FALSE NEIGHBOUR: 'it returns false'. Refute it at one input. -/
def ranksNearWrong : ChangeSpec := { name := "ranksNear", fn := fun _ => fun
  | [d1, d2] => { results := [.lit (.bool false)], args := [d1, d2] }
  | _ => none }
def RanksNearWrongFalsely : Prop := ranksNearRow.holds Try.pinned (OpenSpec.ofChange ranksNearWrong)

/-- 'haulagelaw06.RanksCounted': WHATEVER THE INPUT: true; the input reads as it did. -/
def ranksCountedSpec : ChangeSpec := { name := "ranksCounted", fn := fun _ => fun
  | [d1, d2, d3] => { results := [.lit (.bool true)], args := [d1, d2, d3] }
  | _ => none }
def ranksCountedRow : OpenClaim := { program := "ytgiifedljebclaa", sum := "8717d5c1ba6bc7ea12b6627d5a776ec5dadc81fce69cacfe23c530a50d43d414", func := "haulage/haulagelaw06.RanksCounted", spec := "ranksCounted", inPlace := ["slices.overlaps[haulage/ranks.entry[int]]"], unfollowed := true, recurses := true, apart := false }
def RanksCountedSaid : Prop := ranksCountedRow.holds Try.pinned (OpenSpec.ofChange ranksCountedSpec)

/-- ITS FALSE NEIGHBOUR: 'it returns false'. Refute it at one input. -/
def ranksCountedWrong : ChangeSpec := { name := "ranksCounted", fn := fun _ => fun
  | [d1, d2, d3] => { results := [.lit (.bool false)], args := [d1, d2, d3] }
  | _ => none }
def RanksCountedWrongFalsely : Prop := ranksCountedRow.holds Try.pinned (OpenSpec.ofChange ranksCountedWrong)

/-- 'haulagelaw06.RanksQuiet': WHATEVER THE INPUT: true; the input reads as it did. -/
def ranksQuietSpec : ChangeSpec := { name := "ranksQuiet", fn := fun _ => fun
  | [d1, d2, d3] => { results := [.lit (.bool true)], args := [d1, d2, d3] }
  | _ => none }
def ranksQuietRow : OpenClaim := { program := "ytgiifedljebclaa", sum := "8717d5c1ba6bc7ea12b6627d5a776ec5dadc81fce69cacfe23c530a50d43d414", func := "haulage/haulagelaw06.RanksQuiet", spec := "ranksQuiet", inPlace := ["slices.overlaps[haulage/ranks.entry[int]]"], unfollowed := true, recurses := true, apart := false }
def RanksQuietSaid : Prop := ranksQuietRow.holds Try.pinned (OpenSpec.ofChange ranksQuietSpec)

/-- ITS FALSE NEIGHBOUR: 'it returns false'. Refute it at one input. -/
def ranksQuietWrong : ChangeSpec := { name := "ranksQuiet", fn := fun _ => fun
  | [d1, d2, d3] => { results := [.lit (.bool false)], args := [d1, d2, d3] }
  | _ => none }
def RanksQuietWrongFalsely : Prop := ranksQuietRow.holds Try.pinned (OpenSpec.ofChange ranksQuietWrong)

/- THE SECOND FORM. 'bulk': how many values and letters a reading holds, each counted each time it is reached (what is shared counts as often as it is met; a slice's spare places count too). A statement '..UptoSaid' is the law's where the arguments, and the package variables that the reading takes, are together of bulk at most 1048576: NARROWER than '..Said'. Prove '..Said' where nothing that the law and all that it calls make is longer than what came in: it says more and counts as full. Else prove '..UptoSaid'. A law counts once. -/
mutual
def uptoBulk {H : Type} : DataW H → Nat
  | .lit (.string bytes) => bytes.length + 1
  | .lit _ => 1
  | .nil => 1
  | .ptr d => uptoBulk d + 1
  | .slice elems spare => uptoBulkAll elems + uptoBulkAll spare + 1
  | .agg parts => uptoBulkAll parts + 1
  | .iface _ d => uptoBulk d + 1
  | .map entries => uptoBulkEntries entries + 1
  | .held _ => 1
def uptoBulkAll {H : Type} : List (DataW H) → Nat
  | [] => 0
  | d :: r => uptoBulk d + uptoBulkAll r
def uptoBulkEntries {H : Type} : List (Lit × DataW H) → Nat
  | [] => 0
  | x :: r => uptoBulkEntry x + uptoBulkEntries r
def uptoBulkEntry {H : Type} : Lit × DataW H → Nat
  | (.string bytes, d) => bytes.length + uptoBulk d + 1
  | (_, d) => uptoBulk d + 1
 end
def uptoSmall : (H : Type) → List (DataW H) → Bool := fun _ ds => decide (uptoBulkAll ds ≤ 1048576)
def OpenSpec.upto (s : _root_.Go.ChangeSpec) : _root_.Go.OpenSpec := { _root_.Go.OpenSpec.ofChange s with cond := some uptoSmall }

/-- 'haulagelaw06.RanksInts', WHERE WHAT IT READS IS OF BULK AT MOST 1048576: true; the input reads as it did. -/
def ranksIntsUptoRow : OpenClaim := { program := "ytgiifedljebclaa", sum := "8717d5c1ba6bc7ea12b6627d5a776ec5dadc81fce69cacfe23c530a50d43d414", func := "haulage/haulagelaw06.RanksInts", spec := "ranksInts", inPlace := ["slices.overlaps[haulage/ranks.entry[int]]"], unfollowed := true, recurses := true, apart := false, narrowed := true }
def RanksIntsUptoSaid : Prop := ranksIntsUptoRow.holds Try.pinned (OpenSpec.upto ranksIntsSpec)

/-- 'haulagelaw06.RanksReals', WHERE WHAT IT READS IS OF BULK AT MOST 1048576: true; the input reads as it did. -/
def ranksRealsUptoRow : OpenClaim := { program := "ytgiifedljebclaa", sum := "8717d5c1ba6bc7ea12b6627d5a776ec5dadc81fce69cacfe23c530a50d43d414", func := "haulage/haulagelaw06.RanksReals", spec := "ranksReals", inPlace := ["math.Float64frombits", "slices.overlaps[haulage/ranks.entry[float64]]", "math.Float64bits"], unfollowed := true, recurses := true, apart := false, narrowed := true }
def RanksRealsUptoSaid : Prop := ranksRealsUptoRow.holds Try.pinned (OpenSpec.upto ranksRealsSpec)

/-- 'haulagelaw06.RanksTexts', WHERE WHAT IT READS IS OF BULK AT MOST 1048576: true; the input reads as it did. -/
def ranksTextsUptoRow : OpenClaim := { program := "ytgiifedljebclaa", sum := "8717d5c1ba6bc7ea12b6627d5a776ec5dadc81fce69cacfe23c530a50d43d414", func := "haulage/haulagelaw06.RanksTexts", spec := "ranksTexts", inPlace := ["slices.overlaps[haulage/ranks.entry[string]]"], unfollowed := true, recurses := true, apart := false, narrowed := true }
def RanksTextsUptoSaid : Prop := ranksTextsUptoRow.holds Try.pinned (OpenSpec.upto ranksTextsSpec)

/-- 'haulagelaw06.RanksNear', WHERE WHAT IT READS IS OF BULK AT MOST 1048576: true; the input reads as it did. -/
def ranksNearUptoRow : OpenClaim := { program := "ytgiifedljebclaa", sum := "8717d5c1ba6bc7ea12b6627d5a776ec5dadc81fce69cacfe23c530a50d43d414", func := "haulage/haulagelaw06.RanksNear", spec := "ranksNear", inPlace := ["slices.overlaps[haulage/ranks.entry[int]]"], unfollowed := true, recurses := true, apart := false, narrowed := true }
def RanksNearUptoSaid : Prop := ranksNearUptoRow.holds Try.pinned (OpenSpec.upto ranksNearSpec)

/-- 'haulagelaw06.RanksCounted', WHERE WHAT IT READS IS OF BULK AT MOST 1048576: true; the input reads as it did. -/
def ranksCountedUptoRow : OpenClaim := { program := "ytgiifedljebclaa", sum := "8717d5c1ba6bc7ea12b6627d5a776ec5dadc81fce69cacfe23c530a50d43d414", func := "haulage/haulagelaw06.RanksCounted", spec := "ranksCounted", inPlace := ["slices.overlaps[haulage/ranks.entry[int]]"], unfollowed := true, recurses := true, apart := false, narrowed := true }
def RanksCountedUptoSaid : Prop := ranksCountedUptoRow.holds Try.pinned (OpenSpec.upto ranksCountedSpec)

/-- 'haulagelaw06.RanksQuiet', WHERE WHAT IT READS IS OF BULK AT MOST 1048576: true; the input reads as it did. -/
def ranksQuietUptoRow : OpenClaim := { program := "ytgiifedljebclaa", sum := "8717d5c1ba6bc7ea12b6627d5a776ec5dadc81fce69cacfe23c530a50d43d414", func := "haulage/haulagelaw06.RanksQuiet", spec := "ranksQuiet", inPlace := ["slices.overlaps[haulage/ranks.entry[int]]"], unfollowed := true, recurses := true, apart := false, narrowed := true }
def RanksQuietUptoSaid : Prop := ranksQuietUptoRow.holds Try.pinned (OpenSpec.upto ranksQuietSpec)

end Rows
end Go.Proofs.Ytgiifedljebclaa
