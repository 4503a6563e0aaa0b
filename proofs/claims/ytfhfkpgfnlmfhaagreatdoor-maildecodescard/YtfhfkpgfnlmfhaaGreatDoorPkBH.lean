/- A text of the base. -/
import Derived.Test.YtfhfkpgfnlmfhaaGreatDoorPkT
/- Where a reader stands in its bytes: the document's places against what is left. -/
namespace Go.Proofs.YtfhfkpgfnlmfhaaGreatDoor

/-- What is left and what stands behind each frame, by the place at' and the ends es. -/
structure Geo (ps : List Nat) (at' : Nat) (es : List Nat) (left : List Nat) (behind : List (List Nat)) : Prop where
  len : es.length = behind.length + 1
  hl : ∃ x, es[behind.length]? = some x ∧ at' ≤ x ∧ x ≤ ps.length ∧ left = (ps.take x).drop at'
  bh : ∀ i, i < behind.length → ∃ x y, es[i]? = some x ∧ es[i + 1]? = some y ∧ y ≤ x ∧ x ≤ ps.length ∧ behind[i]? = some ((ps.take x).drop y)

theorem Geo.new (ps : List Nat) : Geo ps 0 [ps.length] ps [] := ⟨rfl, ⟨ps.length, rfl, Nat.zero_le _, Nat.le_refl _, by simp⟩, fun i hi => by simp at hi⟩
theorem Geo.le {ps : List Nat} {at' : Nat} {es : List Nat} {l : List Nat} {bh : List (List Nat)} (h : Geo ps at' es l bh) {x : Nat} (hx : es[bh.length]? = some x) : l.length = x - at' ∧ at' ≤ x ∧ x ≤ ps.length ∧ l = (ps.take x).drop at' := by
  obtain ⟨y, h1, h2, h3, h4⟩ := h.hl
  rw [h1] at hx
  cases hx
  refine ⟨?_, h2, h3, h4⟩
  rw [h4]; simp; omega
theorem Geo.at {ps : List Nat} {at' : Nat} {es : List Nat} {l : List Nat} {bh : List (List Nat)} (h : Geo ps at' es l bh) : ∃ x, es[bh.length]? = some x ∧ l.length = x - at' ∧ at' ≤ x ∧ x ≤ ps.length := by
  obtain ⟨y, h1, h2, h3, h4⟩ := h.hl
  exact ⟨y, h1, by rw [h4]; simp; omega, h2, h3⟩
theorem Geo.take {ps : List Nat} {at' : Nat} {es : List Nat} {l : List Nat} {bh : List (List Nat)} (h : Geo ps at' es l bh) (n : Nat) (hn : n ≤ l.length) : (ps.drop at').take n = l.take n := by
  obtain ⟨y, h1, h2, h3, h4⟩ := h.hl
  rw [h4] at hn ⊢
  simp at hn
  rw [List.drop_take, List.take_take]
  congr 1; omega
theorem Geo.go {ps : List Nat} {at' : Nat} {es : List Nat} {l : List Nat} {bh : List (List Nat)} (h : Geo ps at' es l bh) (n : Nat) (hn : n ≤ l.length) : Geo ps (at' + n) es (l.drop n) bh := by
  obtain ⟨y, h1, h2, h3, h4⟩ := h.hl
  refine ⟨h.len, ⟨y, h1, ?_, h3, ?_⟩, h.bh⟩
  · rw [h4] at hn; simp at hn; omega
  · rw [h4, List.drop_drop]
theorem Geo.enter {ps : List Nat} {at' : Nat} {es : List Nat} {l : List Nat} {bh : List (List Nat)} (h : Geo ps at' es l bh) (n : Nat) (hn : n ≤ l.length) : Geo ps at' (es ++ [at' + n]) (l.take n) (bh ++ [l.drop n]) := by
  obtain ⟨y, h1, h2, h3, h4⟩ := h.hl
  have hy : at' + n ≤ y := by rw [h4] at hn; simp at hn; omega
  have hlen := h.len
  refine ⟨by simp [hlen], ⟨at' + n, ?_, by omega, by omega, ?_⟩, fun i hi => ?_⟩
  · rw [List.getElem?_append_right (by simp; omega)]; simp [hlen]
  · rw [← h.take n hn, List.drop_take]; congr 1; omega
  · simp at hi
    by_cases hb : i < bh.length
    · obtain ⟨x, z, q1, q2, q3, q4, q5⟩ := h.bh i hb
      exact ⟨x, z, by rw [List.getElem?_append_left (by omega)]; exact q1, by rw [List.getElem?_append_left (by omega)]; exact q2, q3, q4, by rw [List.getElem?_append_left hb]; exact q5⟩
    · obtain rfl : i = bh.length := by omega
      refine ⟨y, at' + n, by rw [List.getElem?_append_left (by omega)]; exact h1, by rw [List.getElem?_append_right (by omega)]; simp [hlen], hy, h3, ?_⟩
      rw [List.getElem?_append_right (by omega)]
      simp
      rw [h4, List.drop_drop]
theorem Geo.leave {ps : List Nat} {at' : Nat} {es : List Nat} {bh : List (List Nat)} (h : Geo ps at' es [] bh) (hb : bh ≠ []) : Geo ps at' es.dropLast (bh.getD (bh.length - 1) []) bh.dropLast := by
  obtain ⟨y, h1, h2, h3, h4⟩ := h.hl
  have hp := List.length_pos_iff.2 hb
  have hlen := h.len
  have hay : at' = y := by
    have := congrArg List.length h4
    simp at this; omega
  obtain ⟨x, z, q1, q2, q3, q4, q5⟩ := h.bh (bh.length - 1) (by omega)
  have e1 : bh.length - 1 + 1 = bh.length := by omega
  rw [e1, h1] at q2
  cases q2
  refine ⟨by simp; omega, ⟨x, ?_, by omega, q4, ?_⟩, fun i hi => ?_⟩
  · rw [List.length_dropLast, List.getElem?_dropLast, if_pos (by omega)]; exact q1
  · rw [List.getD, q5, hay]; rfl
  · simp at hi
    obtain ⟨x', z', r1, r2, r3, r4, r5⟩ := h.bh i (by omega)
    exact ⟨x', z', by rw [List.getElem?_dropLast, if_pos (by omega)]; exact r1, by rw [List.getElem?_dropLast, if_pos (by omega)]; exact r2, r3, r4, by rw [List.getElem?_dropLast, if_pos (by omega)]; exact r5⟩

/-- The number that bytes are, from behind. -/
theorem leV_snoc (l : List Nat) (x : Nat) : leV (l ++ [x]) = leV l + 256 ^ l.length * x := by
  induction l with
  | nil => simp [leV]
  | cons y l ih => simp only [List.cons_append, leV, ih, List.length_cons, Nat.pow_succ]; rw [Nat.mul_add, Nat.add_assoc, Nat.mul_comm (256 ^ l.length) 256, Nat.mul_assoc]
theorem leV_rev (l : List Nat) : ∀ a, l.foldl (fun n b => n * 256 + b) a = a * 256 ^ l.length + leV l.reverse := by
  induction l with
  | nil => intro a; simp [leV]
  | cons x l ih =>
    intro a
    rw [List.foldl_cons, ih, List.reverse_cons, leV_snoc, List.length_cons, List.length_reverse, Nat.pow_succ, Nat.add_mul, Nat.mul_assoc, Nat.mul_comm 256, Nat.mul_comm x]
    omega
theorem leV_of8 (l : List Nat) : leV l.reverse = of8 l := by
  unfold of8; rw [leV_rev]; simp
end Go.Proofs.YtfhfkpgfnlmfhaaGreatDoor
