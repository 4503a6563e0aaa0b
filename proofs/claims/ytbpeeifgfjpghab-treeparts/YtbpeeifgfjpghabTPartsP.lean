/- TreeParts, the plain side: split and joined, put and taken away. -/
import Derived.Test.YtbpeeifgfjpghabLPure
import Derived.Test.YtbpeeifgfjpghabTFam
namespace Go.Proofs.Ytbpeeifgfjpghab
open Go

theorem apts_split {t : TI} (h : Rise t.list) (key : Int) : Apts (t.split key).1 (t.split key).2 := by
  obtain ⟨h1, h2⟩ := Tr.split_list t key h
  intro x y hx hy
  rw [Tr.at_list] at hx hy
  have mx : x ∈ (t.split key).1.list := by
    split at hx
    · exact List.mem_of_getElem? hx
    · cases hx
  have my : y ∈ (t.split key).2.list := by
    split at hy
    · exact List.mem_of_getElem? hy
    · cases hy
  rw [h1] at mx
  rw [h2] at my
  have a1 := mem_low mx
  have a2 := mem_rest my
  simp only [klt, KOrd.lt, decide_eq_true_eq, decide_eq_false_iff_not] at a1 a2
  omega
theorem join_split {t : TI} (h : Rise t.list) (key : Int) : (Tr.meet (t.split key).1 (t.split key).2).list = t.list := by
  obtain ⟨h1, h2⟩ := Tr.split_list t key h
  rw [Tr.meet_list, h1, h2, low_rest key h]
theorem split_rank {t : TI} (h : Rise t.list) (key : Int) : (t.split key).1.size = t.rank key := by
  rw [← Tr.list_length, (Tr.split_list t key h).1, Tr.rank_list t key h]
theorem low_split {t : TI} (h : Rise t.list) (key : Int) : ∀ e ∈ (t.split key).1.list, e.1 < key := by
  rw [(Tr.split_list t key h).1]
  intro e he
  have := mem_low he
  simpa [klt, KOrd.lt] using this
theorem high_split {t : TI} (h : Rise t.list) (key : Int) : ∀ e ∈ (t.split key).2.list, key ≤ e.1 := by
  rw [(Tr.split_list t key h).2]
  intro e he
  have := mem_rest he
  simp only [klt, KOrd.lt, decide_eq_false_iff_not] at this
  omega
/-- a row about one key -/
theorem row_about {t : TI} (h : Rise t.list) (key : Int) : t.list = lowL key t.list ++ ((t.find key).toList ++ highL key t.list) := by
  have h1 := low_rest key h
  have hf := Tr.find_list t key h
  cases hR : restL key t.list with
  | nil =>
    rw [hR] at h1 hf
    have hh : highL key t.list = [] := highL_none (fun x hx => by
      rw [← h1] at hx
      simp only [List.append_nil] at hx
      exact klt_asym (mem_low hx))
    rw [hf, hh]
    simpa using h1.symm
  | cons a R =>
    rw [hR] at h1 hf
    have hr := h
    rw [← h1] at hr
    obtain ⟨_, _, b1, b2⟩ := rise_node hr
    have ha := mem_rest (L := t.list) (k := key) (x := a) (by rw [hR]; exact List.mem_cons_self ..)
    simp only [List.head?_cons] at hf
    have hlow : highL key (lowL key t.list) = [] := highL_none (fun x hx => klt_asym (mem_low hx))
    cases hka : klt key a.1 with
    | true =>
      rw [hka] at hf
      have hh : highL key t.list = a :: R := by
        conv => lhs; rw [← h1]
        rw [highL_append, hlow, List.nil_append]
        exact highL_all (fun x hx => by
          rcases List.mem_cons.1 hx with rfl | hx
          · exact hka
          · exact klt_tr hka (b2 x hx))
      rw [hh, hf]
      simpa using h1.symm
    | false =>
      rw [hka] at hf
      have hke : a.1 = key := by
        simp only [klt, KOrd.lt, decide_eq_false_iff_not] at ha hka
        omega
      have hh : highL key t.list = R := by
        conv => lhs; rw [← h1]
        rw [highL_append, hlow, List.nil_append, show a :: R = [a] ++ R from rfl, highL_append, highL_none (A := [a]) (fun x hx => by rw [List.mem_singleton] at hx; subst hx; exact hka), List.nil_append]
        exact highL_all (fun x hx => by have := b2 x hx; rw [hke] at this; exact this)
      rw [hh, hf]
      simpa using h1.symm
theorem put_len {t : TI} (h : Rise t.list) (key val : Int) : (t.put key val).size = if (t.find key).isSome then t.size else t.size + 1 := by
  have h1 := congrArg List.length (row_about h key)
  have h2 := congrArg List.length (Tr.put_list t key val h)
  simp only [List.length_append, List.length_cons, Tr.list_length] at h1 h2
  cases hf : t.find key with
  | none => rw [hf] at h1; simp at h1 ⊢; omega
  | some e => rw [hf] at h1; simp at h1 ⊢; omega
theorem put_low {t : TI} (h : Rise t.list) (key val : Int) : lowL key (t.put key val).list = lowL key t.list ∧ highL key (t.put key val).list = highL key t.list := by
  rw [Tr.put_list t key val h]
  have e1 : lowL key (lowL key t.list) = lowL key t.list := lowL_all (fun x hx => mem_low hx)
  have e2 : highL key (lowL key t.list) = [] := highL_none (fun x hx => klt_asym (mem_low hx))
  have e3 : lowL key ((key, val) :: highL key t.list) = [] := lowL_none (fun x hx => by
    rcases List.mem_cons.1 hx with rfl | hx
    · exact klt_irr _
    · exact klt_asym (mem_high hx))
  have e4 : highL key ((key, val) :: highL key t.list) = highL key t.list := by
    rw [show (key, val) :: highL key t.list = [(key, val)] ++ highL key t.list from rfl, highL_append, highL_none (A := [(key, val)]) (fun x hx => by rw [List.mem_singleton] at hx; subst hx; exact klt_irr _), List.nil_append]
    exact highL_all (fun x hx => mem_high hx)
  rw [lowL_append, highL_append, e1, e2, e3, e4]
  simp
/-- put and taken away again -/
theorem put_without {t : TI} (h : Rise t.list) (key val : Int) : ((t.put key val).without key).2 = true ∧ ((t.put key val).without key).1.list = lowL key t.list ++ highL key t.list := by
  obtain ⟨h1, h2⟩ := Tr.without_list (t.put key val) key (Tr.rise_put t key val h)
  refine ⟨?_, ?_⟩
  · rw [h2, Tr.put_list t key val h, Tr.has_append]
    have : Tr.has ((key, val) :: highL key t.list) key = true := by simp [Tr.has, klt, KOrd.irr]
    rw [this]; simp
  · rw [h1, (put_low h key val).1, (put_low h key val).2]
/-- and what was there put back -/
theorem back_same {t : TI} (h : Rise t.list) (key val : Int) : (match t.find key with
    | some e => (((t.put key val).without key).1.put key e.2).list
    | none => ((t.put key val).without key).1.list) = t.list := by
  obtain ⟨_, h2⟩ := put_without h key val
  have ha := row_about h key
  cases hf : t.find key with
  | none => rw [hf] at ha; simp only; rw [h2]; simpa using ha.symm
  | some e =>
    rw [hf] at ha
    simp only
    have hr2 : Rise ((t.put key val).without key).1.list := Tr.rise_without _ key (Tr.rise_put t key val h)
    rw [Tr.put_list _ key e.2 hr2, h2]
    have hke : e.1 = key := by
      rcases find_mem h key with ⟨e', g1, _, g3⟩ | ⟨g1, _⟩
      · rw [hf] at g1; cases g1; exact g3
      · rw [hf] at g1; cases g1
    have e1 : lowL key (lowL key t.list ++ highL key t.list) = lowL key t.list := by
      rw [lowL_append, lowL_all (fun x hx => mem_low hx), lowL_none (A := highL key t.list) (fun x hx => klt_asym (mem_high hx))]; simp
    have e2 : highL key (lowL key t.list ++ highL key t.list) = highL key t.list := by
      rw [highL_append, highL_none (A := lowL key t.list) (fun x hx => klt_asym (mem_low hx)), highL_all (A := highL key t.list) (fun x hx => mem_high hx)]; simp
    rw [e1, e2]
    have e3 : (key, e.2) = e := by rw [← hke]
    rw [e3]
    simpa using ha.symm
end Go.Proofs.Ytbpeeifgfjpghab
