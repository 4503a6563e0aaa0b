/- A script that came in, with its size. -/
import Derived.Test.YthhgeobfolhpoaaVArg
import Derived.Test.YthhgeobfolhpoaaVPl7
namespace Go.Proofs.Ythhgeobfolhpoaa
open Go.ChangeShapes Go.WideShapes Go.ChangeAt Go.RowKit
theorem bytesOp : Try.prog.bytesOf 36 = 40 := by kernel_rfl
theorem open_opsS {H : Type} {enc : TypeId × Value → H} {W : World} {k : Nat} {a : Option Addr} {len cap : Nat} {x : DataW H × List MemPlace} (h : DataW.trod enc Try.prog W 0 (fun _ => true) true k 22 [.slice a len cap] = some x) :
    len = 0 ∨ ∃ elems spare, x.1 = .slice elems spare ∧ elems.length = len := by
  rcases Go.Deep.open_slice Try.underlying22 h with ⟨e, _⟩ | ⟨a', len', cap', m, n, D, Pl, e, _, hl, hm, hmm, rfl, hall⟩
  · left; simp at e; exact e.2.1
  · right
    simp at e
    obtain ⟨-, rfl, -⟩ := e
    exact ⟨_, _, rfl, by simp⟩
end Go.Proofs.Ythhgeobfolhpoaa
