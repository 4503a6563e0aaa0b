/- The document's Add, a sketch or none. -/
import Derived.Test.YtgiifedljebclaaDHan
import Derived.Test.YtgiifedljebclaaRRefA
namespace Go.Proofs.Ytgiifedljebclaa.flo
open Go.RowKit ref
theorem radd_h {L N : Nat} {val : Nat → Nat} {code : Nat → Int} (hO : Ord L val code) {w : World} {p : Value} {F : List Nat} {o : Option Sd} (h : Hq code w p F o) (g : Og L val code N o) (hN : N ≤ 549755813887) {v : Nat} (hv : v < L) :
    Calls Try.prog 18 #[p, .int .i64 (code v)] w fun e w' => e = .returned (.int .i64 (errA o)) ∧ ∃ F', Hq code w' p F' (nxtO val o v) ∧ Kept F w w' ∧ ∀ x ∈ F', x ∈ F ∨ w.heap.size ≤ x := by
  cases o with
  | some s =>
    obtain ⟨b, v', rfl, hs, rfl⟩ := h
    obtain ⟨gd, hl⟩ := g s rfl
    refine (radd_any hs gd.fc gd.i2 gd.i1024 (by omega) (code v)).mono fun e w' ⟨a, v2, h1, h2, h3⟩ => ⟨a, b :: v2.ownBlock.toList, ⟨b, v2, rfl, ?_, rfl⟩, h2.mono (fun x hx => Or.inl (by simp at hx; simp [hx])), fun x hx => ?_⟩
    · show Rf w' b s.inv (s.l ++ [v]).length (mapE (fC code) (s.next val v).E) v2
      rw [next_C hO gd hv, List.length_append]
      exact h1
    · rcases List.mem_cons.1 hx with q | q
      · exact Or.inl (List.mem_cons.2 (Or.inl q))
      · exact Or.inr (h3 x (by simpa using q))
  | none =>
    obtain ⟨rfl, rfl⟩ := h
    exact (radd_nil _).mono fun e w' ⟨a, b⟩ => ⟨a, [], ⟨rfl, rfl⟩, b ▸ Kept.refl _ _, fun x hx => by cases hx⟩
end Go.Proofs.Ytgiifedljebclaa.flo
