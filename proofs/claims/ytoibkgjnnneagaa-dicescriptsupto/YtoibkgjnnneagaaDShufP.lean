/- A list shuffled, in plain numbers. -/
import Derived.Test.YtoibkgjnnneagaaDMore
namespace Go.Proofs.Ytoibkgjnnneagaa
open Go.RowKit

/-- noughts, and numbers in their place -/
def zeri (k : Nat) (l : List Int) : List Int := l.take k ++ List.replicate (l.length - k) 0
theorem zeri_length {k : Nat} {l : List Int} (hk : k ≤ l.length) : (zeri k l).length = l.length := by simp [zeri]; omega
theorem zeri_set {k : Nat} {l : List Int} (hk : k < l.length) : (zeri k l).set k (l.getD k 0) = zeri (k + 1) l := by
  unfold zeri
  have e : (l.take k).length = k := by simp; omega
  rw [List.set_append_right _ _ (by omega), e, Nat.sub_self, show l.length - k = (l.length - (k + 1)) + 1 by omega, List.replicate_succ, List.set_cons_zero, List.take_add_one, List.getElem?_eq_getElem hk, Option.toList_some, List.append_assoc, List.getD, List.getElem?_eq_getElem hk]
  rfl
theorem zeri_all (l : List Int) : zeri l.length l = l := by simp [zeri]
theorem ints_set (l : List Int) (k : Nat) (x : Int) : ints (l.set k x) = (ints l).set k (.int .i64 x) := by simp [ints, List.map_set]
theorem ints_arr_set (l : List Int) (k : Nat) (x : Int) : (ints l).toArray.setIfInBounds k (.int .i64 x) = (ints (l.set k x)).toArray := by
  rw [ints_set]; simp
theorem made_ints (l : List Int) : madeCells #[Value.int .i64 0] l.length = (ints (zeri 0 l)).toArray := by
  apply Array.ext_getElem?
  intro i
  by_cases hi : i < l.length
  · have h2 : (ints (zeri 0 l)).toArray[i]? = (ints (zeri 0 l))[i]? := by simp
    rw [h2, ints_at _ (by rw [zeri_length (by omega)]; exact hi)]
    simp [madeCells, hi, Nat.mod_one, zeri]
  · rw [Array.getElem?_eq_none (by rw [size_madeCells]; omega), Array.getElem?_eq_none (by simp [ints, zeri]; omega)]
theorem ownI_of_blk {w : World} {base b n : Nat} {l : List Int} (h : Blk w b (ints l).toArray 3) (hb : base ≤ b) (hn : l.length = n) (hm : n ≤ 9223372036854775807) : w.ownsRow base 3 1 (.slice (some ⟨b, 0, none⟩) n n) n (ints l) := by
  refine ⟨by rw [ints_length, hn]; simp, Or.inr ⟨b, n, (ints l).toArray, rfl, hb, h, Nat.le_refl _, by unfold maxLen; omega, by simp [ints, hn], ?_⟩⟩
  rw [Nat.mul_one, List.take_of_length_le (by simp [ints, hn])]
theorem blk_at {w : World} {g : Nat} {l : List Int} (h : Blk w g (ints l).toArray 3) {j : Nat} (hj : j < l.length) : w.cell? ⟨g, j, none⟩ = some (.int .i64 (l.getD j 0)) := by
  rw [h.cell, List.getElem?_toArray]; exact ints_at _ hj
theorem blk_put {w : World} {g : Nat} {l : List Int} (h : Blk w g (ints l).toArray 3) (j : Nat) (x : Int) : Blk (w.setCell ⟨g, j, none⟩ (.int .i64 x)) g (ints (l.set j x)).toArray 3 := by
  rw [← ints_arr_set]; exact h.set j _

/-- 0, 1, .. -/
def iota (n : Nat) : List Int := (List.range n).map (fun i : Nat => (i : Int))
theorem iota_length (n : Nat) : (iota n).length = n := by simp [iota]
theorem iota_at {n j : Nat} (h : j < n) : (iota n).getD j 0 = (j : Int) := by simp [iota, List.getD, h]

/-- two places changed -/
def swp (l : List Int) (i j : Nat) : List Int := (l.set i (l.getD j 0)).set j (l.getD i 0)
theorem swp_length (l : List Int) (i j : Nat) : (swp l i j).length = l.length := by simp [swp]

/-- behind t steps of a shuffle: the list, the strides gone -/
def stp (n s : Nat) : Nat → List Int × Nat
  | 0 => (iota n, 0)
  | t + 1 => (swp (stp n s t).1 (n - 1 - t) (rollK 16 (n - t) (on s (stp n s t).2)).1, (stp n s t).2 + (rollK 16 (n - t) (on s (stp n s t).2)).2)
theorem stp_succ (n s t : Nat) : stp n s (t + 1) = (swp (stp n s t).1 (n - 1 - t) (rollK 16 (n - t) (on s (stp n s t).2)).1, (stp n s t).2 + (rollK 16 (n - t) (on s (stp n s t).2)).2) := rfl
theorem stp_length (n s t : Nat) : (stp n s t).1.length = n := by
  induction t with
  | zero => exact iota_length n
  | succ t ih => rw [stp_succ]; show (swp _ _ _).length = n; rw [swp_length, ih]
theorem stp_count (n s t : Nat) : t ≤ (stp n s t).2 ∧ (stp n s t).2 ≤ 16 * t := by
  induction t with
  | zero => exact ⟨Nat.le_refl _, Nat.le_refl _⟩
  | succ t ih =>
    rw [stp_succ]
    have h1 := rollK_le 16 (n - t) (on s (stp n s t).2)
    have h2 := rollK_pos 15 (n - t) (on s (stp n s t).2)
    rw [show 15 + 1 = 16 from rfl] at h2
    show t + 1 ≤ _ + _ ∧ _ + _ ≤ 16 * (t + 1)
    omega

theorem swp_getD {l : List Int} {i j : Nat} (hi : i < l.length) (hj : j < l.length) (k : Nat) : (swp l i j).getD k 0 = if k = j then l.getD i 0 else if k = i then l.getD j 0 else l.getD k 0 := by
  unfold swp
  simp only [List.getD]
  rw [List.getElem?_set]
  by_cases h1 : k = j
  · subst h1; simp [hj]
  · rw [if_neg (by omega), List.getElem?_set, if_neg h1]
    by_cases h2 : k = i
    · subst h2; simp [hi]
    · rw [if_neg (by omega), if_neg h2]

/-- each number below n once -/
structure Once (n : Nat) (l : List Int) : Prop where
  len : l.length = n
  low : ∀ k, k < n → 0 ≤ l.getD k 0 ∧ l.getD k 0 < n
  one : ∀ i j, i < n → j < n → l.getD i 0 = l.getD j 0 → i = j
theorem Once.iota (n : Nat) : Once n (iota n) := by
  refine ⟨iota_length n, fun k hk => ?_, fun i j hi hj h => ?_⟩
  · rw [iota_at hk]; omega
  · rw [iota_at hi, iota_at hj] at h; omega
theorem Once.swp {n : Nat} {l : List Int} (h : Once n l) {i j : Nat} (hi : i < n) (hj : j < n) : Once n (swp l i j) := by
  have hl := h.len
  have e := fun k => swp_getD (l := l) (i := i) (j := j) (by omega) (by omega) k
  refine ⟨by rw [swp_length, hl], fun k hk => ?_, fun a b ha hb hab => ?_⟩
  · rw [e]; split
    · exact h.low i hi
    · split
      · exact h.low j hj
      · exact h.low k hk
  · rw [e, e] at hab
    have H := fun x y hx hy hxy => h.one x y hx hy hxy
    by_cases a1 : a = j <;> by_cases b1 : b = j
    · omega
    · rw [if_pos a1, if_neg b1] at hab
      by_cases b2 : b = i
      · rw [if_pos b2] at hab; have := H i j hi hj hab; omega
      · rw [if_neg b2] at hab; have := H i b hi hb hab; omega
    · rw [if_neg a1, if_pos b1] at hab
      by_cases a2 : a = i
      · rw [if_pos a2] at hab; have := H j i hj hi hab; omega
      · rw [if_neg a2] at hab; have := H a i ha hi hab; omega
    · rw [if_neg a1, if_neg b1] at hab
      by_cases a2 : a = i <;> by_cases b2 : b = i
      · omega
      · rw [if_pos a2, if_neg b2] at hab; have := H j b hj hb hab; omega
      · rw [if_neg a2, if_pos b2] at hab; have := H a j ha hj hab; omega
      · rw [if_neg a2, if_neg b2] at hab; exact H a b ha hb hab
theorem stp_once (n s t : Nat) (ht : t < n) : Once n (stp n s t).1 := by
  induction t with
  | zero => exact Once.iota n
  | succ t ih =>
    rw [stp_succ]
    have := rollK_lt 16 (n - t) (by omega) (on s (stp n s t).2)
    exact (ih (by omega)).swp (by omega) (by omega)
end Go.Proofs.Ytoibkgjnnneagaa
