/- Sound. -/
import Derived.Test.YtnpabeodakncfabGHold
namespace Go.Proofs.Ytnpabeodakncfab
open Go.RowKit

def agr (row : List Ld) (h : Int) (s : Nat) : Bool :=
  let l := row.getD s ⟨0, 0, 0⟩
  let p := row.getD l.pe.toNat ⟨0, 0, 0⟩
  if l.ph = 1 ∨ l.ph = 2 then decide ((s : Int) = h)
  else if l.ph = 3 then (if p.ep = l.ep then decide ((s : Int) = h ∨ p.ph ≠ 4) else decide (l.ep < p.ep))
  else if l.ph = 4 then (if p.ep = l.ep then decide (l.pe = h ∧ p.pe = (s : Int)) else decide (l.ep < p.ep))
  else true
def sndP (row : List Ld) : Prop :=
  (∀ i, i < row.length → vld (i : Int) (row.getD i ⟨0, 0, 0⟩) = true ∧ (row.getD i ⟨0, 0, 0⟩).pe < (row.length : Int)) ∧ 0 ≤ hldr row ∧
  ∀ i, i < row.length → (row.getD i ⟨0, 0, 0⟩).ep ≤ (row.getD (hldr row).toNat ⟨0, 0, 0⟩).ep ∧ agr row (hldr row) i = true
theorem vld_pe {s : Int} {l : Ld} (h : vld s l = true) : 0 ≤ l.pe := by
  simp only [vld, decide_eq_true_eq] at h; omega
end Go.Proofs.Ytnpabeodakncfab
