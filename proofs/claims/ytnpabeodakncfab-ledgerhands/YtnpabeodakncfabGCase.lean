/- Cases that came in; LedgerRises. -/
import Derived.Test.YtnpabeodakncfabGRis
import Derived.Deep.MidRow
namespace Go.Proofs.Ytnpabeodakncfab
open Go.RowKit

/-- cases that came in -/
def Cases (w : World) (v : Value) (os : List Cs) : Prop :=
  ∃ a cap, v = .slice a os.length cap ∧ os.length ≤ 9223372036854775807 ∧ ∀ k o, os[k]? = some o → ∃ b off, a = some ⟨b, off, none⟩ ∧ b < w.heap.size ∧ w.rangeAt b (off + k * 11) (cc o)
theorem range_kept {F : List Nat} {w w' : World} {b o : Nat} {l : List Value} (h : w.rangeAt b o l) (hk : Kept F w w') (hb : b < w.heap.size) (hn : b ∉ F) : w'.rangeAt b o l :=
  fun j v hv => (hk.cell (p := ⟨b, o + j, none⟩) hb hn).trans (h j v hv)
theorem Cases.kept {w w' : World} {v : Value} {os : List Cs} (h : Cases w v os) (hk : Kept [] w w') : Cases w' v os := by
  obtain ⟨a, cap, rfl, h1, h2⟩ := h
  refine ⟨a, cap, rfl, h1, fun k o ho => ?_⟩
  obtain ⟨b, off, rfl, h4, h5⟩ := h2 k o ho
  exact ⟨b, off, rfl, Nat.lt_of_lt_of_le h4 hk.size, range_kept h5 hk h4 (by simp)⟩
end Go.Proofs.Ytnpabeodakncfab
