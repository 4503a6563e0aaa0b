/- Keeping on. -/
import Derived.Test.YtoibkgjnnneagabDAwake
namespace Go.Proofs.Ytoibkgjnnneagab
open Go.RowKit
theorem Kept.push {a b c : World} {k : Nat} (h : Kept [] a b) (h2 : Kept [k] b c) (hk : a.heap.size ≤ k) : Kept [] a c :=
  h.trans h2 (fun x hx => by simp at hx; subst hx; exact Or.inr hk)
theorem Kept.more {a b c : World} (h : Kept [] a b) (h2 : Kept [] b c) : Kept [] a c := h.trans h2 (fun x hx => by simp at hx)
end Go.Proofs.Ytoibkgjnnneagab
