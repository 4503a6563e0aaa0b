/- Encode of a row that was made of Parts. -/
import Derived.Test.YtigmofbammofbabKVal
import Derived.Test.YtigmofbammofbabKSort
namespace Go.Proofs.Ytigmofbammofbab
open Go.RowKit

/-- Encode of a row that was made of Parts -/
theorem enc_val2 {S : Nat → Prop} {w : World} {v : Value} {r : Row} (hr : RowV S w v r) (hc : cnt r ≤ 262144) :
    Calls Try.prog 10 #[v] w fun e w' => Kept [] w w' ∧ ((faultR r 0 = 0 ∧ ∃ a n cap, e = .returned (.tuple #[.slice a n cap, .int .i64 0]) ∧ Sees w' (.slice a n cap) (codeR r)) ∨ (faultR r 0 ≠ 0 ∧ e = .returned (.tuple #[.slice none 0 0, .int .i64 (faultR r 0 : Nat)]))) := by
  have h1 := code_cnt r
  refine (encode_any hr (by omega)).mono ?_
  rintro e w' ⟨hk, hh⟩
  refine ⟨hk, ?_⟩
  rcases hh with ⟨hf, a, n, cap, rfl, hn, ho⟩ | h
  · refine Or.inl ⟨hf, a, n, cap, rfl, ?_⟩
    subst hn
    exact Sees.of_own ho (code_lt hr.ok (fine_of_fault hf))
  · exact Or.inr h
theorem enc_val {S : Nat → Prop} {w : World} {v : Value} {r : Row} (hr : RowV S w v r) (hc : cnt r ≤ 131072) :
    Calls Try.prog 10 #[v] w fun e w' => Kept [] w w' ∧ ((faultR r 0 = 0 ∧ ∃ a n cap, e = .returned (.tuple #[.slice a n cap, .int .i64 0]) ∧ Sees w' (.slice a n cap) (codeR r)) ∨ (faultR r 0 ≠ 0 ∧ e = .returned (.tuple #[.slice none 0 0, .int .i64 (faultR r 0 : Nat)]))) :=
  enc_val2 hr (by omega)
theorem RowV.any {S : Nat → Prop} {w : World} {v : Value} {r : Row} (h : RowV S w v r) : RowV Any w v r := h.mono (fun _ _ _ => trivial)
end Go.Proofs.Ytigmofbammofbab
