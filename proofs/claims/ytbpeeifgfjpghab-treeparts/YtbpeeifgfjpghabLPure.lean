/- What a tree finds behind a Put; lists the last of their keys. -/
import Derived.Test.YtbpeeifgfjpghabTSize
namespace Go.Proofs.Ytbpeeifgfjpghab
open Go
variable {V : Type}

theorem rise_one {L : List (Int × V)} (h : Rise L) : ∀ {e e' : Int × V}, e ∈ L → e' ∈ L → e.1 = e'.1 → e = e' := by
  induction L with
  | nil => intro e e' h1; cases h1
  | cons a L ih =>
    obtain ⟨_, hr, _, ha⟩ := rise_node (A := []) h
    intro e e' h1 h2 he
    rcases List.mem_cons.1 h1 with g1 | g1
    · rcases List.mem_cons.1 h2 with g2 | g2
      · rw [g1, g2]
      · have := ha e' g2; rw [← g1, he, klt_irr] at this; cases this
    · rcases List.mem_cons.1 h2 with g2 | g2
      · have := ha e g1; rw [← g2, he, klt_irr] at this; cases this
      · exact ih hr g1 g2 he
theorem find_mem {t : Tr Int V} (h : Rise t.list) (k : Int) : (∃ e, t.find k = some e ∧ e ∈ t.list ∧ e.1 = k) ∨ (t.find k = none ∧ ∀ e ∈ t.list, e.1 ≠ k) := by
  have hf := Tr.find_list t k h
  have h1 := low_rest k h
  have hlow : ∀ e ∈ lowL k t.list, e.1 ≠ k := by
    intro e he hk
    have := mem_low he
    rw [hk, klt_irr] at this; cases this
  cases hR : restL k t.list with
  | nil =>
    rw [hR] at hf h1
    right
    refine ⟨hf, fun e he => hlow e ?_⟩
    rw [← h1] at he
    simpa using he
  | cons a R =>
    rw [hR] at hf h1
    have hmem : a ∈ t.list := by rw [← h1]; simp
    have hk : klt a.1 k = false := mem_rest (L := t.list) (by rw [hR]; exact List.mem_cons_self ..)
    simp only [List.head?_cons] at hf
    cases hka : klt k a.1 with
    | true =>
      right
      rw [hka] at hf
      refine ⟨by simpa using hf, fun e he => ?_⟩
      rw [← h1] at he
      rcases List.mem_append.1 he with he | he
      · exact hlow e he
      · have hrr := h
        rw [← h1] at hrr
        obtain ⟨_, _, _, ha⟩ := rise_node hrr
        rcases List.mem_cons.1 he with rfl | he
        · intro e2; rw [e2, klt_irr] at hka; cases hka
        · intro e2
          have := klt_tr hka (ha e he)
          rw [e2, klt_irr] at this; cases this
    | false =>
      left
      rw [hka] at hf
      refine ⟨a, by simpa using hf, hmem, ?_⟩
      simp only [klt, KOrd.lt, decide_eq_false_iff_not] at hk hka
      omega
theorem find_put {t : Tr Int V} (h : Rise t.list) (k : Int) (v : V) (k' : Int) : (t.put k v).find k' = if k' = k then some (k, v) else t.find k' := by
  have hl := Tr.put_list t k v h
  have hr := Tr.rise_put t k v h
  have hin : ∀ e : Int × V, e ∈ (t.put k v).list ↔ e = (k, v) ∨ (e ∈ t.list ∧ e.1 ≠ k) := by
    intro e
    rw [hl]
    constructor
    · intro he
      rcases List.mem_append.1 he with he | he
      · right
        refine ⟨(List.mem_filter.1 he).1, fun e2 => ?_⟩
        have := mem_low he; rw [e2, klt_irr] at this; cases this
      · rcases List.mem_cons.1 he with rfl | he
        · exact Or.inl rfl
        · right
          refine ⟨(List.mem_filter.1 he).1, fun e2 => ?_⟩
          have := mem_high he; rw [e2, klt_irr] at this; cases this
    · rintro (rfl | ⟨he, hne⟩)
      · simp
      · by_cases hlt : e.1 < k
        · exact List.mem_append_left _ (List.mem_filter.2 ⟨he, by simpa [klt, KOrd.lt] using hlt⟩)
        · exact List.mem_append_right _ (List.mem_cons_of_mem _ (List.mem_filter.2 ⟨he, by simp [klt, KOrd.lt]; omega⟩))
  by_cases hk : k' = k
  · rw [if_pos hk]
    rcases find_mem hr k' with ⟨e, h1, h2, h3⟩ | ⟨h1, h2⟩
    · rw [h1]
      rw [rise_one hr h2 ((hin (k, v)).2 (Or.inl rfl)) (by rw [h3, hk])]
    · exact absurd hk.symm (h2 (k, v) ((hin _).2 (Or.inl rfl)))
  · rw [if_neg hk]
    rcases find_mem h k' with ⟨e, h1, h2, h3⟩ | ⟨h1, h2⟩
    · rw [h1]
      have he : e ∈ (t.put k v).list := (hin e).2 (Or.inr ⟨h2, by rw [h3]; exact hk⟩)
      rcases find_mem hr k' with ⟨e', g1, g2, g3⟩ | ⟨g1, g2⟩
      · rw [g1, rise_one hr g2 he (by rw [g3, h3])]
      · exact absurd h3 (g2 e he)
    · rw [h1]
      rcases find_mem hr k' with ⟨e', g1, g2, g3⟩ | ⟨g1, g2⟩
      · rcases (hin e').1 g2 with rfl | ⟨q1, q2⟩
        · exact absurd g3.symm hk
        · exact absurd g3 (h2 e' q1)
      · exact g1

/-- where a list is the last of its key, the tree finds it -/
def LastP (ks : List Int) (vs : List V) (t : Tr Int V) : Prop := ∀ (j : Nat) (k : Int) (v : V), ks[j]? = some k → vs[j]? = some v → (∀ (m : Nat) (k' : Int), j < m → ks[m]? = some k' → k' ≠ k) → t.find k = some (k, v)
theorem LastP.nil : LastP ([] : List Int) ([] : List V) .nil := by intro j k v h; simp at h
theorem LastP.put {ks : List Int} {vs : List V} {t : Tr Int V} (h : LastP ks vs t) (hr : Rise t.list) (hl : ks.length = vs.length) (k : Int) (v : V) : LastP (ks ++ [k]) (vs ++ [v]) (t.put k v) := by
  intro j k' v' hk hv hlast
  rw [find_put hr]
  have hjl : j < ks.length + 1 := by have := (List.getElem?_eq_some_iff.1 hk).1; simpa using this
  by_cases hj : j = ks.length
  · subst hj
    have e1 : k = k' := by simpa using hk
    have e2 : v = v' := by rw [hl] at hv; simpa using hv
    rw [if_pos e1.symm, e1, e2]
  · have hj2 : j < ks.length := by omega
    rw [List.getElem?_append_left hj2] at hk
    rw [List.getElem?_append_left (by omega)] at hv
    have hne : k ≠ k' := hlast ks.length k hj2 (by simp)
    rw [if_neg (fun e => hne e.symm)]
    refine h j k' v' hk hv (fun m k2 hm hk2 => hlast m k2 hm ?_)
    rw [List.getElem?_append_left (List.getElem?_eq_some_iff.1 hk2).1]
    exact hk2
end Go.Proofs.Ytbpeeifgfjpghab
