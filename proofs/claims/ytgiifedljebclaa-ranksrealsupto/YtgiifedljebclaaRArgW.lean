/- Words that came in. -/
import Derived.Test.YtgiifedljebclaaDArgO
import Derived.Test.YtgiifedljebclaaRSee
namespace Go.Proofs.Ytgiifedljebclaa.flo
open Go.ChangeShapes Go.WideShapes Go.ChangeAt Go.RowKit

def wrdc (x : Nat) : List Value := [.int .u64 (x : Int)]
theorem cellsU : Try.prog.cellsOf 50 = 1 := by kernel_rfl
theorem open_word {H : Type} {enc : TypeId × Value → H} {W : World} {k : Nat} {cs : List Value} {x : DataW H × List MemPlace} (h : DataW.trod enc Try.prog W 0 (fun _ => true) true k 50 cs = some x) : ∃ o : Nat, cs = wrdc o := by
  obtain ⟨z, hz, -, hw⟩ := DataW.trod_int Try.underlying50 h
  have h0 : 0 ≤ z := by simp only [Lit.wf, Bool.and_eq_true, decide_eq_true_eq] at hw; exact hw.1
  exact ⟨z.toNat, by rw [hz]; unfold wrdc; rw [Int.toNat_of_nonneg h0]⟩
theorem open_words {H : Type} {enc : TypeId × Value → H} {W : World} {k : Nat} {cs : List Value} {x : DataW H × List MemPlace} (h : DataW.trod enc Try.prog W 0 (fun _ => true) true k 44 cs = some x) :
    ∃ a n cap os, cs = [.slice a n cap] ∧ RowOf 1 wrdc W (.slice a n cap) os ∧ os.length = n ∧ n ≤ Rows.uptoBulk x.1 :=
  open_row wrdc 0 Try.underlying44 cellsU (fun _ => rfl) (fun _ => ⟨_, rfl⟩) (fun _ _ _ h => open_word h) h
theorem sees_of_row {W : World} {v : Value} {os : List Nat} (h : RowOf 1 wrdc W v os) : SeesX (fun x : Nat => .int .u64 (x : Int)) 0 W v os := by
  obtain ⟨a, cap, hv, -, h2⟩ := h
  refine ⟨a, cap, hv, fun j hj => ?_⟩
  obtain ⟨b, off, h3, h4, h5⟩ := h2 j os[j] (List.getElem?_eq_getElem hj)
  have h6 := h5 0 _ rfl
  refine ⟨b, off, h3, h4, ?_⟩
  rw [Nat.mul_one] at h6
  rw [List.getD_eq_getElem?_getD, List.getElem?_eq_getElem hj, Option.getD_some]
  exact h6
end Go.Proofs.Ytgiifedljebclaa.flo
