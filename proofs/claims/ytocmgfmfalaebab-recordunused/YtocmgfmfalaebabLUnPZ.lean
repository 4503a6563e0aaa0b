/- RecordUnused. -/
import Derived.Test.YtocmgfmfalaebabPkW
namespace Go.Proofs.Ytocmgfmfalaebab
open Go.RowKit

/-- A field that says something. -/
def setF (p : Pl) : Nat → Pl
  | 0 => { p with client := 1 }
  | 1 => { p with seq := 1 }
  | 2 => { p with peer := 1 }
  | 3 => { p with epoch := 1 }
  | 4 => { p with copy := [0] }
  | 5 => { p with okind := 2 }
  | 6 => { p with key := [0] }
  | 7 => { p with val := [0] }
  | _ => { p with rev := 1 }
/-- The kind has it not. -/
def unF (p : Pl) : Nat → Prop
  | 0 => p.kind ≠ 1
  | 1 => p.kind ≠ 1
  | 2 => p.kind ≠ 4 ∧ p.kind ≠ 2
  | 3 => p.kind ≠ 4
  | 4 => p.kind ≠ 4
  | 5 => p.kind ≠ 1
  | 6 => p.kind ≠ 1
  | 7 => p.kind ≠ 1 ∨ p.okind = 3
  | _ => p.kind ≠ 1 ∨ p.okind ≠ 4
theorem unused_no {p : Pl} (k : Nat) (hu : unF p k) : snd (setF p k) = false := by
  cases h : snd (setF p k) with
  | false => rfl
  | true =>
    exfalso
    have hw := @wrt_iff (setF p k).okind (setF p k).key.length (setF p k).val.length (setF p k).rev
    rcases (snd_iff _).1 h with g | g | g | g
    · obtain ⟨g1, g2, g3, g4, g5, g6, g7, g8⟩ := g
      have g9 := hw.1 g5
      match k with
      | 0 => simp [setF, unF] at *; omega
      | 1 => simp [setF, unF] at *; omega
      | 2 => simp [setF, unF] at *
      | 3 => simp [setF, unF] at *
      | 4 => simp [setF, unF] at *
      | 5 => simp [setF, unF] at *; omega
      | 6 => simp [setF, unF] at *; omega
      | 7 => simp [setF, unF] at *; omega
      | k + 8 => simp [setF, unF] at *; omega
    · obtain ⟨g1, g2, g3, g4, g5, g6, ⟨n1, n2, n3, n4⟩, g8⟩ := g
      match k with
      | 0 => simp [setF, unF] at *
      | 1 => simp [setF, unF] at *
      | 2 => simp [setF, unF] at *; omega
      | 3 => simp [setF, unF] at *
      | 4 => simp [setF, unF] at *
      | 5 => simp [setF, unF] at *
      | 6 => simp [setF, unF] at *
      | 7 => simp [setF, unF] at *
      | k + 8 => simp [setF, unF] at *
    · obtain ⟨g1, g2, g3, g4, g5, g6, g7, ⟨n1, n2, n3, n4⟩⟩ := g
      match k with
      | 0 => simp [setF, unF] at *
      | 1 => simp [setF, unF] at *
      | 2 => simp [setF, unF] at *; omega
      | 3 => simp [setF, unF] at *; omega
      | 4 => simp [setF, unF] at *; omega
      | 5 => simp [setF, unF] at *
      | 6 => simp [setF, unF] at *
      | 7 => simp [setF, unF] at *
      | k + 8 => simp [setF, unF] at *
    · obtain ⟨g1, g2, g3, g4, g5, g6, ⟨n1, n2, n3, n4⟩, g8⟩ := g
      match k with
      | 0 => simp [setF, unF] at *
      | 1 => simp [setF, unF] at *
      | 2 => simp [setF, unF] at *
      | 3 => simp [setF, unF] at *
      | 4 => simp [setF, unF] at *
      | 5 => simp [setF, unF] at *
      | 6 => simp [setF, unF] at *
      | 7 => simp [setF, unF] at *
      | k + 8 => simp [setF, unF] at *
end Go.Proofs.Ytocmgfmfalaebab
