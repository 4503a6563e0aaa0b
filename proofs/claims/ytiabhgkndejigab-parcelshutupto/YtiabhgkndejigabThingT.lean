/- A reader's step over a thing. (What 'back' does with it is the first seat's: it is not in this program.) -/
import Derived.Test.YtiabhgkndejigabThingW
namespace Go.Proofs.Ytiabhgkndejigab
open Go.RowKit

def RStep (t : Th) (l : List Nat) (bh : List (List Nat)) (l' : List Nat) (bh' : List (List Nat)) : Prop :=
  (t.k < 7 ∧ l = t.bytes ++ l' ∧ bh' = bh) ∨ (t.k = 7 ∧ bh.length < 16 ∧ ∃ rest, l = form l'.length ++ (l' ++ rest) ∧ bh' = bh ++ [rest]) ∨ (t.k = 8 ∧ l = [] ∧ bh = bh' ++ [l'])

theorem canon_cases (n : Nat) : (nanB n = false ∧ canon n = n) ∨ (nanB n = true ∧ canon n = oneNaN) := by
  unfold canon
  cases h : nanB n
  · left; exact ⟨rfl, by simp⟩
  · right; exact ⟨rfl, by simp⟩
theorem canon_lt (n : Nat) (hn : n < 18446744073709551616) : canon n < 18446744073709551616 := by
  rcases canon_cases n with ⟨_, h⟩ | ⟨_, h⟩ <;> rw [h]
  · exact hn
  · decide
theorem canon_nan (n : Nat) : nanB (canon n) = false ∨ (nanB (canon n) = true ∧ canon n = oneNaN) := by
  rcases canon_cases n with ⟨h1, h⟩ | ⟨_, h⟩ <;> rw [h]
  · exact Or.inl h1
  · exact Or.inr ⟨nan_one, rfl⟩
def Took (w : World) (b : Nat) (lv bv : Value) (rest : List Nat) (w' : World) : Prop := (∃ lv', Rd w' b lv' bv rest ∧ lv'.ownBlock = lv.ownBlock) ∧ Kept [b] w w'
def RPost (w : World) (b : Nat) (bv : Value) (D : Option Nat) (l' : List Nat) (bh' : List (List Nat)) (w' : World) : Prop :=
  ∃ lv' bv' hs', Rf w' b lv' bv' hs' l' bh' D ∧ Kept (rfoot b bv) w w' ∧ ∀ x, x ∈ rfoot b bv' → x ∈ rfoot b bv ∨ w.heap.size ≤ x

theorem RPost.from {w W w' : World} {b : Nat} {bv : Value} {D : Option Nat} {l' : List Nat} {bh' : List (List Nat)} (k : Kept [] w W) (h : RPost W b bv D l' bh' w') : RPost w b bv D l' bh' w' := by
  obtain ⟨lv', bv', hs', h1, h2, h3⟩ := h
  refine ⟨lv', bv', hs', h1, (k.mono (by simp)).trans h2 (fun x hx => Or.inl hx), fun x hx => ?_⟩
  rcases h3 x hx with h | h
  · exact Or.inl h
  · right; have := k.size; omega

theorem Took.post {w w' : World} {b : Nat} {lv bv : Value} {hs : List Value} {l rest : List Nat} {bh : List (List Nat)} {D : Option Nat} (h : Rf w b lv bv hs l bh D) (ht : Took w b lv bv rest w') : RPost w b bv D rest bh w' := by
  obtain ⟨⟨lv', h1, h2⟩, h3⟩ := ht
  exact ⟨lv', bv, hs, h.step h1 h2 h3, h3.mono (fun x hx => by simp at hx; subst hx; exact Or.inl (by simp [rfoot])), fun x hx => Or.inl hx⟩
end Go.Proofs.Ytiabhgkndejigab
