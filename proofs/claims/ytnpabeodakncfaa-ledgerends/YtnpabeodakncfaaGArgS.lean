/- A script that came in, with its size. -/
import Derived.Test.YtnpabeodakncfaaGArg
namespace Go.Proofs.Ytnpabeodakncfaa
open Go.ChangeShapes Go.WideShapes Go.ChangeAt Go.RowKit
theorem bytesAct : Try.prog.bytesOf 52 = 32 := by kernel_rfl
theorem open_actsS {H : Type} {enc : TypeId × Value → H} {W : World} {k : Nat} {a : Option Addr} {len cap : Nat} {x : DataW H × List MemPlace} (h : DataW.trod enc Try.prog W 0 (fun _ => true) true k 44 [.slice a len cap] = some x) :
    len = 0 ∨ ∃ elems spare, x.1 = .slice elems spare ∧ elems.length = len := by
  rcases Go.Deep.open_slice Try.underlying44 h with ⟨e, _⟩ | ⟨a', len', cap', m, n, D, Pl, e, _, hl, hm, hmm, rfl, hall⟩
  · left; simp at e; exact e.2.1
  · right
    simp at e
    obtain ⟨-, rfl, -⟩ := e
    exact ⟨_, _, rfl, by simp⟩
end Go.Proofs.Ytnpabeodakncfaa
