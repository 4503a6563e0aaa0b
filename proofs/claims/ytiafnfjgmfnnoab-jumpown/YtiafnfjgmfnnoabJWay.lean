/- Jump and Way of the program: the way's buckets. -/
import Derived.Test.YtiafnfjgmfnnoabJLeap
namespace Go.Proofs.Ytiafnfjgmfnnoab
open Go.RowKit

/-- the buckets of the way below N, from the bucket b with the state x on -/
def way (N : Nat) : Nat → Nat → Nat → List Nat
  | 0, _, _ => []
  | f + 1, x, b => if b < N then b :: way N f (nx x) (leapN b (nx x)) else []

/-- the way of a hash -/
def wayOf (h N : Nat) : List Nat := if N ≤ 1048576 then way N N h 0 else []
def zn (l : List Nat) : List Int := l.map fun b : Nat => (b : Int)
theorem zn_length (l : List Nat) : (zn l).length = l.length := by simp [zn]
theorem zn_append (l m : List Nat) : zn (l ++ m) = zn l ++ zn m := by simp [zn]
/-- the last of them, or -1 -/
def lastI (l : List Nat) : Int := match l.getLast? with
  | some b => (b : Int)
  | none => -1
theorem lastI_snoc (l : List Nat) (b : Nat) : lastI (l ++ [b]) = (b : Int) := by simp [lastI]

theorem way_step {N f x b : Nat} (h : b < N) : way N (f + 1) x b = b :: way N f (nx x) (leapN b (nx x)) := by simp [way, h]
theorem way_end {N : Nat} (f x : Nat) {b : Nat} (h : ¬ b < N) : way N f x b = [] := by
  cases f <;> simp [way, h]

/-- how far a walk along the way has come -/
structure Gone (N : Nat) (W done : List Nat) (x b : Nat) : Prop where
  st : x < 18446744073709551616
  fit : done.length ≤ b
  bl : b ≤ 9007199254740992
  rest : ∃ f, N ≤ b + f ∧ done ++ way N f x b = W

theorem Gone.start (N h : Nat) (hh : h < 18446744073709551616) : Gone N (way N N h 0) [] h 0 := ⟨hh, by simp, by omega, N, by omega, rfl⟩
theorem Gone.step {N : Nat} {W done : List Nat} {x b : Nat} (g : Gone N W done x b) (hN : N ≤ 1048576) (hb : b < N) : Gone N W (done ++ [b]) (nx x) (leapN b (nx x)) ∧ b < leapN b (nx x) ∧ leapN b (nx x) ≤ 9007199254740992 := by
  obtain ⟨f, hf, he⟩ := g.rest
  have h1 := leapN_gt (b := b) (x := nx x) (by omega) (nx_lt x)
  have h2 := leapN_le (b := b) (x := nx x) (by omega) (nx_lt x)
  have := g.fit
  refine ⟨⟨nx_lt x, by simp; omega, h2, f - 1, by omega, ?_⟩, h1, h2⟩
  obtain ⟨j, rfl⟩ : ∃ j, f = j + 1 := ⟨f - 1, by omega⟩
  rw [way_step hb] at he
  rw [← he]; simp
theorem Gone.stop {N : Nat} {W done : List Nat} {x b : Nat} (g : Gone N W done x b) (hb : ¬ b < N) : done = W := by
  obtain ⟨f, hf, he⟩ := g.rest
  rw [way_end f x hb] at he
  rw [← he]; simp

end Go.Proofs.Ytiafnfjgmfnnoab
