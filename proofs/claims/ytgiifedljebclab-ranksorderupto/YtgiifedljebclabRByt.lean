/- Slices of bytes that came in. -/
import Derived.Test.YtgiifedljebclabRArg
namespace Go.Proofs.Ytgiifedljebclab
open Go.RowKit

/-- The slice v reads as these numbers. -/
def SeesU (w : World) (v : Value) (l : List Int) : Prop :=
  ∃ a cap, v = .slice a l.length cap ∧ l.length ≤ cap ∧ cap ≤ maxLen ∧
    (l = [] ∨ ∃ b off, a = some ⟨b, off, none⟩ ∧ b < w.heap.size ∧ ∀ j, j < l.length → w.cell? ⟨b, off + j, none⟩ = some (.int .u8 (l.getD j 0)))

theorem SeesU.nil (w : World) : SeesU w (.slice none 0 0) [] := ⟨none, 0, rfl, by simp, by simp [maxLen], Or.inl rfl⟩
theorem SeesU.kept {F : List Nat} {w w' : World} {v : Value} {l : List Int} (h : SeesU w v l) (hk : Kept F w w') (hn : l = [] ∨ ∀ k, v.ownBlock = some k → k ∉ F) : SeesU w' v l := by
  obtain ⟨a, cap, rfl, h1, h2, h4⟩ := h
  refine ⟨a, cap, rfl, h1, h2, ?_⟩
  rcases h4 with h4 | ⟨b, off, rfl, h5, h6⟩
  · exact Or.inl h4
  · rcases hn with hn | hn
    · exact Or.inl hn
    · refine Or.inr ⟨b, off, rfl, Nat.lt_of_lt_of_le h5 hk.size, fun j hj => ?_⟩
      rw [hk.cell (p := ⟨b, off + j, none⟩) h5 (hn b rfl)]
      exact h6 j hj

theorem at_u8 {w : World} {a : Option Addr} {L : Nat} {l : List Int} (hL : l.length = L) (h : l = [] ∨ ∃ b off, a = some ⟨b, off, none⟩ ∧ b < w.heap.size ∧ ∀ j, j < l.length → w.cell? ⟨b, off + j, none⟩ = some (.int .u8 (l.getD j 0))) {k : Nat} (hk : k < L) :
    ∃ b off, a = some ⟨b, off, none⟩ ∧ w.cell? ⟨b, off + k, none⟩ = some (.int .u8 (l.getD k 0)) := by
  rcases h with h | ⟨b, off, h1, _, h3⟩
  · subst h; simp at hL; omega
  · exact ⟨b, off, h1, h3 k (by omega)⟩

theorem seesU_of_isRow {w : World} {a : Option Addr} {len cap : Nat} {zs : List Int} (h : IsRow .u8 w a len cap zs) : ∃ l, SeesU w (.slice a len cap) l ∧ l.length = len ∧ ∀ n ∈ l, (Lit.int .u8 n).wf = true := by
  rcases h with ⟨rfl, rfl, rfl, rfl⟩ | ⟨x, rfl, h1, h2, h3, h4, h5⟩
  · exact ⟨[], SeesU.nil w, rfl, by simp⟩
  · have hlen : (zs.take len).length = len := by simp [h3, h1]
    refine ⟨zs.take len, ⟨some x, cap, by rw [hlen], by rw [hlen]; exact h1, h2, ?_⟩, hlen, fun n hn => h5 n (List.mem_of_mem_take hn)⟩
    · by_cases h0 : len = 0
      · left; subst h0; simp
      · right
        have hsp : x.spot = none := by
          have h6 := h4 0 (by omega)
          have e : x.add 0 = x := by simp [Addr.add]
          rw [e] at h6
          cases hx : x.spot with
          | none => rfl
          | some s =>
            exfalso
            unfold World.cell? at h6
            split at h6
            · rw [hx] at h6; simp at h6
            · cases h6
        obtain ⟨b, off, sp⟩ := x
        simp only at hsp
        subst hsp
        have hb : b < w.heap.size := by
          have h6 := h4 0 (by omega)
          have e : (⟨b, off, none⟩ : Addr).add 0 = ⟨b, off, none⟩ := by simp [Addr.add]
          rw [e] at h6
          rcases Nat.lt_or_ge b w.heap.size with h7 | h7
          · exact h7
          · simp [World.cell?, Array.getElem?_eq_none h7] at h6
        refine ⟨b, off, rfl, hb, fun j hj => ?_⟩
        rw [hlen] at hj
        have h6 := h4 j (by omega)
        have hadd : (⟨b, off, none⟩ : Addr).add j = ⟨b, off + j, none⟩ := by unfold Addr.add; split <;> simp_all
        rw [hadd] at h6
        rw [h6]
        have hj2 : j < zs.length := by omega
        simp only [List.getD, List.getElem?_take_of_lt hj, List.getElem?_eq_getElem hj2, Option.getD_some]
end Go.Proofs.Ytgiifedljebclab
