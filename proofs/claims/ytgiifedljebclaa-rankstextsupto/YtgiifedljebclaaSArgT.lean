/- Texts that came in. -/
import Derived.Test.YtgiifedljebclaaSArgO
import Derived.Test.YtgiifedljebclaaRSee
namespace Go.Proofs.Ytgiifedljebclaa.str
open Go.ChangeShapes Go.WideShapes Go.ChangeAt Go.RowKit

def strc (x : ByteArray) : List Value := [(.string x)]
theorem cellsT : Try.prog.cellsOf 9 = 1 := by kernel_rfl
theorem open_text {H : Type} {enc : TypeId × Value → H} {W : World} {k : Nat} {cs : List Value} {x : DataW H × List MemPlace} (h : DataW.trod enc Try.prog W 0 (fun _ => true) true k 9 cs = some x) : ∃ o : ByteArray, cs = strc o := by
  obtain ⟨s, hs, -, -⟩ := DataW.trod_string Try.underlying9 h
  exact ⟨s, hs⟩
theorem open_texts {H : Type} {enc : TypeId × Value → H} {W : World} {k : Nat} {cs : List Value} {x : DataW H × List MemPlace} (h : DataW.trod enc Try.prog W 0 (fun _ => true) true k 58 cs = some x) :
    ∃ a n cap os, cs = [.slice a n cap] ∧ RowOf 1 strc W (.slice a n cap) os ∧ os.length = n ∧ n ≤ Rows.uptoBulk x.1 :=
  open_row strc ByteArray.empty Try.underlying58 cellsT (fun _ => rfl) (fun _ => ⟨_, rfl⟩) (fun _ _ _ h => open_text h) h
theorem sees_of_row {W : World} {v : Value} {os : List ByteArray} (h : RowOf 1 strc W v os) : SeesX (fun x : ByteArray => (.string x)) ByteArray.empty W v os := by
  obtain ⟨a, cap, hv, -, h2⟩ := h
  refine ⟨a, cap, hv, fun j hj => ?_⟩
  obtain ⟨b, off, h3, h4, h5⟩ := h2 j os[j] (List.getElem?_eq_getElem hj)
  have h6 := h5 0 _ rfl
  refine ⟨b, off, h3, h4, ?_⟩
  rw [Nat.mul_one] at h6
  rw [List.getD_eq_getElem?_getD, List.getElem?_eq_getElem hj, Option.getD_some]
  exact h6
end Go.Proofs.Ytgiifedljebclaa.str
