/- A text of the base. -/
import Derived.Test.YtfhfkpgfnlmfhaaGreatDoorPkO
/- The reader's Leave: what its stores make. -/
namespace Go.Proofs.YtfhfkpgfnlmfhaaGreatDoor
open Go.RowKit

theorem getD_take' {α : Type} (l : List α) (n i : Nat) (d : α) (h : i < n) : (l.take n).getD i d = l.getD i d := by
  rw [List.getD_eq_getElem?_getD, List.getD_eq_getElem?_getD, List.getElem?_take_of_lt h]

/-- The frame that was entered last is left. -/
theorem leave_fin {w : World} {b : Nat} {D : Option Nat} {lv bv : Value} {hs : List Value} {behind : List (List Nat)} {gs bc : Nat} (h : Rf w b lv bv hs [] behind D) (hpos : 0 < hs.length) (hbv : bv = .slice (some ⟨gs, 0, none⟩) hs.length bc) :
    Rf ((w.setCell ⟨b, 0, none⟩ (hs.getD (hs.length - 1) nilS)).setCell ⟨b, 1, none⟩ (.slice (some ⟨gs, 0, none⟩) (hs.length - 1) bc)) b (hs.getD (hs.length - 1) nilS) (.slice (some ⟨gs, 0, none⟩) (hs.length - 1) bc) (hs.take (hs.length - 1)) (behind.getD (hs.length - 1) []) (behind.dropLast) D := by
  have kS : Kept [b] w ((w.setCell ⟨b, 0, none⟩ (hs.getD (hs.length - 1) nilS)).setCell ⟨b, 1, none⟩ (.slice (some ⟨gs, 0, none⟩) (hs.length - 1) bc)) := ((Kept.refl [b] w).setCell (Or.inl (by simp)) _).setCell (Or.inl (by simp)) _
  have hlast : hs.length - 1 < hs.length := by omega
  have hgb : (Value.slice (some ⟨gs, 0, none⟩) (hs.length - 1) bc).ownBlock = bv.ownBlock := by rw [hbv]; rfl
  have hDb : ∀ k, D = some k → k ∉ [b] := fun k hD => by simp; exact fun e => h.d1 (by rw [hD, e])
  have hlen := h.hl
  refine ⟨⟨?_, ?_, ?_, ?_⟩, ?_, ?_, ?_, ?_, ?_, ?_, h.d1, ?_, ?_, ?_, ?_⟩
  · simpa using (h.rd.blk.set 0 (hs.getD (hs.length - 1) nilS)).set 1 (.slice (some ⟨gs, 0, none⟩) (hs.length - 1) bc)
  · exact (h.see _ hlast).kept kS (fun k hk => hDb k (h.dh _ hlast k hk))
  · intro e; exact h.d1 (h.dh _ hlast b e)
  · exact h.bb _ hlast
  · have ho := h.own
    rw [hbv] at ho
    have h1 := own_take ho (k := hs.length - 1) (by omega)
    have := own_kept h1 kS (fun k hk => by rw [hgb] at hk; simp; intro e; subst e; exact h.n2 hk)
    rw [List.length_take, Nat.min_eq_left (by omega)]
    exact this
  · simp; omega
  · have := h.h16; simp; omega
  · intro i hi
    simp at hi
    have e1 : (hs.take (hs.length - 1)).getD i nilS = hs.getD i nilS := getD_take' hs (hs.length - 1) i nilS (by omega)
    have e2 : behind.dropLast.getD i [] = behind.getD i [] := by
      rw [List.dropLast_eq_take]; exact getD_take' behind (behind.length - 1) i [] (by omega)
    rw [e1, e2]
    exact (h.see i (by omega)).kept kS (fun k hk => hDb k (h.dh i (by omega) k hk))
  · intro k hk; exact h.dh _ hlast k hk
  · intro i hi k hk
    simp at hi
    have e1 : (hs.take (hs.length - 1)).getD i nilS = hs.getD i nilS := getD_take' hs (hs.length - 1) i nilS (by omega)
    rw [e1] at hk
    exact h.dh i (by omega) k hk
  · intro k hD; rw [hgb]; exact h.d2 k hD
  · intro k hD; exact Nat.lt_of_lt_of_le (h.dlt k hD) kS.size
  · rw [hgb]; exact h.n2
  · intro i hi
    simp at hi
    have e2 : behind.dropLast.getD i [] = behind.getD i [] := by
      rw [List.dropLast_eq_take]; exact getD_take' behind (behind.length - 1) i [] (by omega)
    rw [e2]; exact h.bb i (by omega)

end Go.Proofs.YtfhfkpgfnlmfhaaGreatDoor
