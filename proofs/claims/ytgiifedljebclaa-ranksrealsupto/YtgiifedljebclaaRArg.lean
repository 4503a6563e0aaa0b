/- Slices of integers that came in. -/
import Derived.Test.YtgiifedljebclaaRKit
import Derived.ProofKit
import Derived.OpenShut
import Derived.SizedLaws
import Derived.Deep.Slices
import Derived.JoinedCond
import Derived.Test.YtgiifedljebclaaRows
namespace Go.Proofs.Ytgiifedljebclaa
open Go.ChangeShapes Go.WideShapes Go.ChangeAt Go.RowKit

/-- What is known of a slice of integers that came in. -/
def IsRow (k : IntKind) (w : World) (a : Option Addr) (len cap : Nat) (zs : List Int) : Prop :=
  (a = none ∧ len = 0 ∧ cap = 0 ∧ zs = []) ∨
  ∃ x, a = some x ∧ len ≤ cap ∧ cap ≤ maxLen ∧ zs.length = cap ∧ (∀ i, i < zs.length → w.cell? (x.add i) = some (.int k (zs.getD i 0))) ∧ ∀ n ∈ zs, (Lit.int k n).wf = true

theorem seesI_of_isRow {w : World} {a : Option Addr} {len cap : Nat} {zs : List Int} (h : IsRow .i64 w a len cap zs) : ∃ l, SeesI w (.slice a len cap) l ∧ l.length = len ∧ ∀ n ∈ l, (Lit.int .i64 n).wf = true := by
  rcases h with ⟨rfl, rfl, rfl, rfl⟩ | ⟨x, rfl, h1, h2, h3, h4, h5⟩
  · exact ⟨[], SeesI.nil w, rfl, by simp⟩
  · have hlen : (zs.take len).length = len := by simp [h3, h1]
    refine ⟨zs.take len, ⟨some x, cap, by rw [hlen], by rw [hlen]; exact h1, h2, ?_⟩, hlen, fun n hn => h5 n (List.mem_of_mem_take hn)⟩
    · by_cases h0 : len = 0
      · left; subst h0; simp
      · right
        have hsp : x.spot = none := by
          have h6 := h4 0 (by omega)
          have e : x.add 0 = x := by simp [Addr.add]
          rw [e] at h6
          cases hx : x.spot with
          | none => rfl
          | some s =>
            exfalso
            unfold World.cell? at h6
            split at h6
            · rw [hx] at h6; simp at h6
            · cases h6
        obtain ⟨b, off, sp⟩ := x
        simp only at hsp
        subst hsp
        have hb : b < w.heap.size := by
          have h6 := h4 0 (by omega)
          have e : (⟨b, off, none⟩ : Addr).add 0 = ⟨b, off, none⟩ := by simp [Addr.add]
          rw [e] at h6
          rcases Nat.lt_or_ge b w.heap.size with h7 | h7
          · exact h7
          · simp [World.cell?, Array.getElem?_eq_none h7] at h6
        refine ⟨b, off, rfl, hb, fun j hj => ?_⟩
        rw [hlen] at hj
        have h6 := h4 j (by omega)
        have hadd : (⟨b, off, none⟩ : Addr).add j = ⟨b, off + j, none⟩ := by unfold Addr.add; split <;> simp_all
        rw [hadd] at h6
        rw [h6]
        have hj2 : j < zs.length := by omega
        simp only [List.getD, List.getElem?_take_of_lt hj, List.getElem?_eq_getElem hj2, Option.getD_some]
theorem laidOut : laidOutB Try.prog = true := by kernel_rfl
end Go.Proofs.Ytgiifedljebclaa
