/- Ways of fewer and of more buckets. -/
import Derived.Test.YtiafnfjgmfnnoaaJKnown
namespace Go.Proofs.Ytiafnfjgmfnnoaa
open Go.RowKit

theorem way_bounds {N : Nat} (hN : N ≤ 1048576) : ∀ (f x b y : Nat), y ∈ way N f x b → b ≤ y ∧ y < N
  | 0, x, b, y, h => by simp [way] at h
  | f + 1, x, b, y, h => by
    by_cases hb : b < N
    · rw [way_step hb] at h
      rcases List.mem_cons.1 h with h | h
      · omega
      · have h1 := leapN_gt (b := b) (x := nx x) (by omega) (nx_lt x)
        have := way_bounds hN f _ _ y h
        omega
    · rw [way_end _ _ hb] at h; cases h
theorem way_rises {N : Nat} (hN : N ≤ 1048576) : ∀ (f x b : Nat), (way N f x b).Pairwise (· < ·)
  | 0, x, b => by simp [way]
  | f + 1, x, b => by
    by_cases hb : b < N
    · rw [way_step hb]
      refine List.pairwise_cons.2 ⟨fun y hy => ?_, way_rises hN f _ _⟩
      have h1 := leapN_gt (b := b) (x := nx x) (by omega) (nx_lt x)
      have := way_bounds hN f _ _ y hy
      omega
    · rw [way_end _ _ hb]; exact List.Pairwise.nil
/-- of fewer buckets the way is the beginning of the way of more -/
theorem way_more {n m : Nat} (hm : m ≤ 1048576) (hnm : n ≤ m) : ∀ (F f x b : Nat), m ≤ b + F → n ≤ b + f → ∃ T, way m F x b = way n f x b ++ T ∧ ∀ y ∈ T, n ≤ y ∧ y < m
  | 0, f, x, b, h1, h2 => ⟨[], by rw [way_end 0 x (by omega), way_end f x (by omega)]; rfl, by simp⟩
  | F + 1, f, x, b, h1, h2 => by
    by_cases hb : b < n
    · obtain ⟨f', rfl⟩ : ∃ j, f = j + 1 := ⟨f - 1, by omega⟩
      have h3 := leapN_gt (b := b) (x := nx x) (by omega) (nx_lt x)
      obtain ⟨T, h4, h5⟩ := way_more hm hnm F f' (nx x) (leapN b (nx x)) (by omega) (by omega)
      exact ⟨T, by rw [way_step hb, way_step (show b < m by omega), h4]; rfl, h5⟩
    · refine ⟨way m (F + 1) x b, by rw [way_end f x hb]; rfl, fun y hy => ?_⟩
      have := way_bounds hm _ _ _ y hy
      omega

theorem wayOf_more {h n m : Nat} (hm : m ≤ 1048576) (hnm : n ≤ m) : ∃ T, wayOf h m = wayOf h n ++ T ∧ ∀ y ∈ T, n ≤ y ∧ y < m := by
  unfold wayOf
  rw [if_pos hm, if_pos (by omega)]
  exact way_more hm hnm m n h 0 (by omega) (by omega)
theorem wayOf_rises {h N : Nat} (hN : N ≤ 1048576) : (wayOf h N).Pairwise (· < ·) := by
  unfold wayOf
  rw [if_pos hN]
  exact way_rises hN _ _ _
theorem wayOf_lt {h N y : Nat} (hN : N ≤ 1048576) (hy : y ∈ wayOf h N) : y < N := by
  unfold wayOf at hy
  rw [if_pos hN] at hy
  exact (way_bounds hN _ _ _ y hy).2
theorem wayOf_head {h N : Nat} (hN : N ≤ 1048576) (h1 : 1 ≤ N) : ∃ l, wayOf h N = 0 :: l := by
  unfold wayOf
  rw [if_pos hN]
  obtain ⟨j, rfl⟩ : ∃ j, N = j + 1 := ⟨N - 1, by omega⟩
  exact ⟨_, way_step (by omega)⟩
theorem buckets_of {n : Int} (h1 : n ≤ 1048576) : buckets n = n.toNat := by unfold buckets; rw [if_pos h1]
theorem buckets_not {n : Int} (h : n < 1 ∨ n > 1048576) : wayOf 0 (buckets n) = wayOf 0 0 ∧ buckets n = 0 := by
  have : buckets n = 0 := by unfold buckets; split <;> omega
  rw [this]; exact ⟨rfl, rfl⟩
theorem wayOf_none (h : Nat) : wayOf h 0 = [] := rfl
theorem lastI_append_singleton (l : List Nat) (b : Nat) : lastI (l ++ [b]) = b := lastI_snoc l b
/-- with one bucket more a hash stays where it was, or comes to the new one -/
theorem one_more {h n : Nat} (hn : n + 1 ≤ 1048576) : lastI (wayOf h (n + 1)) = lastI (wayOf h n) ∨ lastI (wayOf h (n + 1)) = n := by
  obtain ⟨T, h1, h2⟩ := wayOf_more (h := h) hn (show n ≤ n + 1 by omega)
  by_cases hT : T = []
  · left; rw [h1, hT, List.append_nil]
  · right
    obtain ⟨t, x, rfl⟩ : ∃ t x, T = t ++ [x] := ⟨T.dropLast, T.getLast hT, (List.dropLast_concat_getLast hT).symm⟩
    have := h2 x (by simp)
    rw [h1, ← List.append_assoc, lastI_snoc]
    omega
theorem last_in {h n : Nat} (hn : n ≤ 1048576) (h1 : 1 ≤ n) : 0 ≤ lastI (wayOf h n) ∧ lastI (wayOf h n) < n := by
  obtain ⟨l, hl⟩ := wayOf_head (h := h) hn h1
  have hne : wayOf h n ≠ [] := by rw [hl]; simp
  obtain ⟨t, x, ht⟩ : ∃ t x, wayOf h n = t ++ [x] := ⟨_, _, (List.dropLast_concat_getLast hne).symm⟩
  have hx := wayOf_lt (h := h) hn (y := x) (by rw [ht]; simp)
  rw [ht, lastI_snoc]
  omega
theorem zn_getD (l : List Nat) (j : Nat) : (zn l).getD j 0 = ((l.getD j 0 : Nat) : Int) := by
  by_cases hj : j < l.length
  · simp [zn, List.getElem?_eq_getElem hj]
  · simp [zn, List.getElem?_eq_none (Nat.le_of_not_lt hj)]
theorem SeesI.begin {w : World} {a : Option Addr} {n k cap : Nat} {l t : List Int} (h : SeesI w (.slice a n cap) (l ++ t)) (hk : l.length = k) : SeesI w (.slice a k cap) l := by
  subst hk
  obtain ⟨a', cap', hv, h1, h2, h4⟩ := h
  cases hv
  rw [List.length_append] at h1
  refine ⟨a, cap, rfl, by omega, h2, ?_⟩
  rcases h4 with h4 | ⟨b, off, rfl, h5, h6⟩
  · left; simp at h4; exact h4.1
  · refine Or.inr ⟨b, off, rfl, h5, fun j hj => ?_⟩
    rw [h6 j (by rw [List.length_append]; omega), List.getD, List.getD, List.getElem?_append_left hj]
theorem getD_mem {l : List Nat} {j : Nat} (hj : j < l.length) : l.getD j 0 ∈ l := by
  rw [List.getD, List.getElem?_eq_getElem hj]; exact List.getElem_mem hj
theorem getD_rises {l : List Nat} (h : l.Pairwise (· < ·)) {i j : Nat} (hij : i < j) (hj : j < l.length) : l.getD i 0 < l.getD j 0 := by
  rw [List.getD, List.getD, List.getElem?_eq_getElem hj, List.getElem?_eq_getElem (by omega)]
  exact List.pairwise_iff_getElem.1 h i j (by omega) hj hij
end Go.Proofs.Ytiafnfjgmfnnoaa
