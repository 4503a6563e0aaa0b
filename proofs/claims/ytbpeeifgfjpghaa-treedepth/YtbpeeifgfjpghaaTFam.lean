/- Trees whose keys rise, level, all of whose keys are of one list. -/
import Derived.Test.YtbpeeifgfjpghaaTTree2
namespace Go.Proofs.Ytbpeeifgfjpghaa
open Go

def Fine (Ks : List Int) (t : TI) : Prop := Rise t.list ∧ t.avl ∧ ∀ x ∈ t.list, x.1 ∈ Ks
theorem nodup_le : ∀ (l Ks : List Int), l.Nodup → (∀ x ∈ l, x ∈ Ks) → l.length ≤ Ks.length
  | [], _, _, _ => Nat.zero_le _
  | a :: l, Ks, hn, hs => by
    rw [List.nodup_cons] at hn
    have ha : a ∈ Ks := hs a (List.mem_cons_self ..)
    have := nodup_le l (Ks.erase a) hn.2 (fun x hx => (List.mem_erase_of_ne (fun (e : x = a) => hn.1 (by rw [← e]; exact hx))).2 (hs x (List.mem_cons_of_mem _ hx)))
    rw [List.length_erase_of_mem ha] at this
    have hp : 0 < Ks.length := List.length_pos_of_mem ha
    simp only [List.length_cons]
    omega
theorem rise_nodup {L : List (Int × Int)} (h : Rise L) : (L.map (·.1)).Nodup := by
  unfold List.Nodup
  rw [List.pairwise_map]
  refine List.Pairwise.imp ?_ h
  intro a b hab e
  have : klt a.1 b.1 = true := hab
  rw [e, klt_irr] at this
  cases this
theorem Fine.size {Ks : List Int} {t : TI} (h : Fine Ks t) : t.size ≤ Ks.length := by
  rw [← Tr.list_length, ← List.length_map (f := (·.1))]
  exact nodup_le _ Ks (rise_nodup h.1) (by
    intro x hx
    obtain ⟨y, hy, rfl⟩ := List.mem_map.1 hx
    exact h.2.2 y hy)
theorem Fine.nil (Ks : List Int) : Fine Ks .nil := ⟨List.Pairwise.nil, trivial, by intro x hx; cases hx⟩
theorem Fine.more {Ks : List Int} {t : TI} (h : Fine Ks t) (k : Int) : Fine (k :: Ks) t := ⟨h.1, h.2.1, fun x hx => List.mem_cons_of_mem _ (h.2.2 x hx)⟩
theorem Fine.put {Ks : List Int} {t : TI} (h : Fine Ks t) (k x : Int) : Fine (k :: Ks) (t.put k x) := by
  refine ⟨Tr.rise_put t k x h.1, Tr.put_avl t k x h.2.1, ?_⟩
  rw [Tr.put_list t k x h.1]
  intro y hy
  rcases List.mem_append.1 hy with hy | hy
  · exact List.mem_cons_of_mem _ (h.2.2 y (List.mem_filter.1 hy).1)
  · rcases List.mem_cons.1 hy with rfl | hy
    · exact List.mem_cons_self ..
    · exact List.mem_cons_of_mem _ (h.2.2 y (List.mem_filter.1 hy).1)
theorem Fine.without {Ks : List Int} {t : TI} (h : Fine Ks t) (k : Int) : Fine Ks (t.without k).1 := by
  refine ⟨Tr.rise_without t k h.1, Tr.without_avl t k h.2.1, ?_⟩
  rw [(Tr.without_list t k h.1).1]
  intro y hy
  rcases List.mem_append.1 hy with hy | hy
  · exact h.2.2 y (List.mem_filter.1 hy).1
  · exact h.2.2 y (List.mem_filter.1 hy).1
theorem Fine.split {Ks : List Int} {t : TI} (h : Fine Ks t) (k : Int) : Fine Ks (t.split k).1 ∧ Fine Ks (t.split k).2 := by
  obtain ⟨r1, r2⟩ := Tr.rise_split t k h.1
  obtain ⟨a1, a2⟩ := Tr.split_avl t k h.2.1
  refine ⟨⟨r1, a1, ?_⟩, ⟨r2, a2, ?_⟩⟩
  · rw [(Tr.split_list t k h.1).1]; intro y hy; exact h.2.2 y (List.mem_filter.1 hy).1
  · rw [(Tr.split_list t k h.1).2]; intro y hy; exact h.2.2 y (List.mem_filter.1 hy).1
theorem apts_apt {a b : TI} (h : Apts a b) : Tr.Apt a.list b.list := by
  unfold Tr.Apt
  cases ha : a.list.getLast? with
  | none => trivial
  | some x =>
    cases hb : b.list.head? with
    | none => trivial
    | some y =>
      have h1 : a.at' ((a.size : Int) - 1) = some x := by
        rw [Tr.at_list]
        have hp : 0 < a.size := by
          rw [← Tr.list_length]
          cases hl : a.list with
          | nil => rw [hl] at ha; cases ha
          | cons => simp
        rw [if_pos (by omega), show ((a.size : Int) - 1).toNat = a.size - 1 by omega, ← ha, List.getLast?_eq_getElem?, Tr.list_length]
      have h2 : b.at' 0 = some y := by
        rw [Tr.at_list, if_pos (by omega), ← hb]
        simp [List.head?_eq_getElem?]
      have := h x y h1 h2
      simpa [klt, KOrd.lt] using this
theorem Fine.meet {Ks : List Int} {a b : TI} (ha : Fine Ks a) (hb : Fine Ks b) (h : Apts a b) : Fine Ks (Tr.meet a b) := by
  refine ⟨Tr.rise_meet a b ha.1 hb.1 (apts_apt h), Tr.meet_avl a b ha.2.1 hb.2.1, ?_⟩
  rw [Tr.meet_list]
  intro y hy
  rcases List.mem_append.1 hy with hy | hy
  · exact ha.2.2 y hy
  · exact hb.2.2 y hy
end Go.Proofs.Ytbpeeifgfjpghaa
