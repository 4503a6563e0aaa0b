/- A slice that came in reads as these values. -/
import Derived.Test.YtgiifedljebclaaRKit
namespace Go.Proofs.Ytgiifedljebclaa
open Go.RowKit

def SeesX {α : Type} (f : α → Value) (z : α) (w : World) (v : Value) (l : List α) : Prop :=
  ∃ a cap, v = .slice a l.length cap ∧ ∀ j, j < l.length → ∃ b off, a = some ⟨b, off, none⟩ ∧ b < w.heap.size ∧ w.cell? ⟨b, off + j, none⟩ = some (f (l.getD j z))
theorem SeesX.kept {α : Type} {f : α → Value} {z : α} {w w' : World} {v : Value} {l : List α} (h : SeesX f z w v l) (hk : Kept [] w w') : SeesX f z w' v l := by
  obtain ⟨a, cap, rfl, h1⟩ := h
  refine ⟨a, cap, rfl, fun j hj => ?_⟩
  obtain ⟨b, off, rfl, h5, h6⟩ := h1 j hj
  exact ⟨b, off, rfl, Nat.lt_of_lt_of_le h5 hk.size, (hk.cell (p := ⟨b, off + j, none⟩) h5 (by simp)).trans h6⟩
theorem at_x {α : Type} {f : α → Value} {z : α} {w : World} {a : Option Addr} {L : Nat} {l : List α} (hL : l.length = L) (h : ∀ j, j < l.length → ∃ b off, a = some ⟨b, off, none⟩ ∧ b < w.heap.size ∧ w.cell? ⟨b, off + j, none⟩ = some (f (l.getD j z))) {k : Nat} (hk : k < L) :
    ∃ b off, a = some ⟨b, off, none⟩ ∧ w.cell? ⟨b, off + k, none⟩ = some (f (l.getD k z)) := by
  obtain ⟨b, off, h1, _, h3⟩ := h k (by omega)
  exact ⟨b, off, h1, h3⟩
end Go.Proofs.Ytgiifedljebclaa
