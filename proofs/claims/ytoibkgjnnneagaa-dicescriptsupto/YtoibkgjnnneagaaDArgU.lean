/- Slices of numbers of 64 bits that came in. -/
import Derived.Test.YtoibkgjnnneagaaDArg
import Derived.Test.YtoibkgjnnneagaaDFloats
namespace Go.Proofs.Ytoibkgjnnneagaa
open Go.ChangeShapes Go.WideShapes Go.ChangeAt Go.RowKit

theorem seesU_of_isRow {w : World} {a : Option Addr} {len cap : Nat} {zs : List Int} (h : IsRow .u64 w a len cap zs) : ∃ l, SeesU w (.slice a len cap) l ∧ l.length = len ∧ ∀ j, j < l.length → l.getD j 0 < 18446744073709551616 := by
  rcases h with ⟨rfl, rfl, rfl, rfl⟩ | ⟨x, rfl, h1, h2, h3, h4, h5⟩
  · exact ⟨[], ⟨none, 0, rfl, by simp, by simp [maxLen], Or.inl rfl⟩, rfl, by simp⟩
  · have hlen : ((zs.take len).map Int.toNat).length = len := by simp [h3, h1]
    refine ⟨(zs.take len).map Int.toNat, ⟨some x, cap, by rw [hlen], by rw [hlen]; exact h1, h2, ?_⟩, hlen, fun j hj => by
      rw [hlen] at hj
      have hj2 : j < zs.length := by omega
      have := bounds_u64 (h5 zs[j] (List.getElem_mem hj2))
      simp only [List.getD, List.getElem?_map, List.getElem?_take_of_lt hj, List.getElem?_eq_getElem hj2, Option.map_some, Option.getD_some]
      omega⟩
    · by_cases h0 : len = 0
      · left; subst h0; simp
      · right
        have hsp : x.spot = none := by
          have h6 := h4 0 (by omega)
          have e : x.add 0 = x := by simp [Addr.add]
          rw [e] at h6
          cases hx : x.spot with
          | none => rfl
          | some s =>
            exfalso
            unfold World.cell? at h6
            split at h6
            · rw [hx] at h6; simp at h6
            · cases h6
        obtain ⟨b, off, sp⟩ := x
        simp only at hsp
        subst hsp
        have hb : b < w.heap.size := by
          have h6 := h4 0 (by omega)
          have e : (⟨b, off, none⟩ : Addr).add 0 = ⟨b, off, none⟩ := by simp [Addr.add]
          rw [e] at h6
          rcases Nat.lt_or_ge b w.heap.size with h7 | h7
          · exact h7
          · simp [World.cell?, Array.getElem?_eq_none h7] at h6
        refine ⟨b, off, rfl, hb, fun j hj => ?_⟩
        rw [hlen] at hj
        have h6 := h4 j (by omega)
        have hadd : (⟨b, off, none⟩ : Addr).add j = ⟨b, off + j, none⟩ := by unfold Addr.add; split <;> simp_all
        rw [hadd] at h6
        rw [h6]
        have hj2 : j < zs.length := by omega
        have hb := bounds_u64 (h5 zs[j] (List.getElem_mem hj2))
        simp only [List.getD, List.getElem?_map, List.getElem?_take_of_lt hj, List.getElem?_eq_getElem hj2, Option.map_some, Option.getD_some]
        congr 2
        omega
end Go.Proofs.Ytoibkgjnnneagaa
