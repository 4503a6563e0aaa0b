/- The plain side of tree, second part: what calls make of the row of a tree whose keys rise. -/
import Derived.Test.YtbpeeifgfjpghaaTPure
namespace Go.Proofs.Ytbpeeifgfjpghaa
open Go

variable {K V : Type} [KOrd K]
abbrev klt (a b : K) : Bool := KOrd.lt a b
theorem klt_irr (a : K) : klt a a = false := KOrd.irr a
theorem klt_tr {a b c : K} (h : klt a b = true) (h2 : klt b c = true) : klt a c = true := KOrd.tr _ _ _ h h2
theorem klt_asym {a b : K} (h : klt a b = true) : klt b a = false := by
  cases h2 : klt b a with
  | false => rfl
  | true => have := klt_tr h h2; rw [klt_irr] at this; cases this
/-- below x, x not behind c -/
theorem klt_ntr {a b c : K} (h : klt a b = true) (h2 : klt c b = false) : klt a c = true := by
  rcases KOrd.ntr a c b h with h1 | h1
  · exact h1
  · have : klt c b = true := h1
    rw [h2] at this; cases this
theorem klt_ntr' {a b c : K} (h : klt a b = true) (h2 : klt a c = false) : klt c b = true := by
  rcases KOrd.ntr a c b h with h1 | h1
  · have : klt a c = true := h1
    rw [h2] at this; cases this
  · exact h1

def Rise (L : List (K × V)) : Prop := L.Pairwise (fun a b => klt a.1 b.1 = true)
def lowL (k : K) (L : List (K × V)) : List (K × V) := L.filter (fun x => klt x.1 k)
def restL (k : K) (L : List (K × V)) : List (K × V) := L.filter (fun x => !klt x.1 k)
def highL (k : K) (L : List (K × V)) : List (K × V) := L.filter (fun x => klt k x.1)

theorem lowL_append (k : K) (A B : List (K × V)) : lowL k (A ++ B) = lowL k A ++ lowL k B := by simp [lowL]
theorem restL_append (k : K) (A B : List (K × V)) : restL k (A ++ B) = restL k A ++ restL k B := by simp [restL]
theorem highL_append (k : K) (A B : List (K × V)) : highL k (A ++ B) = highL k A ++ highL k B := by simp [highL]
theorem lowL_all {k : K} {A : List (K × V)} (h : ∀ x ∈ A, klt x.1 k = true) : lowL k A = A := List.filter_eq_self.2 h
theorem lowL_none {k : K} {A : List (K × V)} (h : ∀ x ∈ A, klt x.1 k = false) : lowL k A = [] := by
  unfold lowL; rw [List.filter_eq_nil_iff]; intro x hx; simp [h x hx]
theorem restL_all {k : K} {A : List (K × V)} (h : ∀ x ∈ A, klt x.1 k = false) : restL k A = A := List.filter_eq_self.2 (fun x hx => by simp [h x hx])
theorem restL_none {k : K} {A : List (K × V)} (h : ∀ x ∈ A, klt x.1 k = true) : restL k A = [] := by
  unfold restL; rw [List.filter_eq_nil_iff]; intro x hx; simp [h x hx]
theorem highL_all {k : K} {A : List (K × V)} (h : ∀ x ∈ A, klt k x.1 = true) : highL k A = A := List.filter_eq_self.2 h
theorem highL_none {k : K} {A : List (K × V)} (h : ∀ x ∈ A, klt k x.1 = false) : highL k A = [] := by
  unfold highL; rw [List.filter_eq_nil_iff]; intro x hx; simp [h x hx]

theorem rise_node {A B : List (K × V)} {e : K × V} (h : Rise (A ++ e :: B)) : Rise A ∧ Rise B ∧ (∀ x ∈ A, klt x.1 e.1 = true) ∧ (∀ x ∈ B, klt e.1 x.1 = true) := by
  unfold Rise at h
  rw [List.pairwise_append, List.pairwise_cons] at h
  exact ⟨h.1, h.2.1.2, fun x hx => h.2.2 x hx e (List.mem_cons_self ..), h.2.1.1⟩
theorem rise_append {A B : List (K × V)} (hA : Rise A) (hB : Rise B) (h : ∀ x ∈ A, ∀ y ∈ B, klt x.1 y.1 = true) : Rise (A ++ B) := by
  unfold Rise at *
  rw [List.pairwise_append]
  exact ⟨hA, hB, h⟩
theorem rise_low {L : List (K × V)} (k : K) (h : Rise L) : Rise (lowL k L) := List.Pairwise.filter _ h
theorem rise_rest {L : List (K × V)} (k : K) (h : Rise L) : Rise (restL k L) := List.Pairwise.filter _ h
theorem rise_high {L : List (K × V)} (k : K) (h : Rise L) : Rise (highL k L) := List.Pairwise.filter _ h
theorem mem_low {k : K} {L : List (K × V)} {x : K × V} (h : x ∈ lowL k L) : klt x.1 k = true := (List.mem_filter.1 h).2
theorem mem_rest {k : K} {L : List (K × V)} {x : K × V} (h : x ∈ restL k L) : klt x.1 k = false := by simpa using (List.mem_filter.1 h).2
theorem mem_high {k : K} {L : List (K × V)} {x : K × V} (h : x ∈ highL k L) : klt k x.1 = true := (List.mem_filter.1 h).2

/-- the entries below a key, then the others -/
theorem low_rest {L : List (K × V)} (k : K) (h : Rise L) : lowL k L ++ restL k L = L := by
  induction L with
  | nil => rfl
  | cons e L ih =>
    have h' := rise_node (A := []) h
    cases hk : klt e.1 k with
    | true =>
      have := ih h'.2.1
      simp [lowL, restL, hk] at this ⊢
      exact this
    | false =>
      have hz : ∀ x ∈ e :: L, klt x.1 k = false := by
        intro x hx
        rcases List.mem_cons.1 hx with rfl | hx
        · exact hk
        · cases hx2 : klt x.1 k with
          | false => rfl
          | true => have := klt_tr (h'.2.2.2 x hx) hx2; rw [hk] at this; cases this
      rw [lowL_none hz, restL_all hz]; rfl

namespace Tr
theorem put_list (t : Tr K V) (k : K) (v : V) (h : Rise t.list) : (t.put k v).list = lowL k t.list ++ (k, v) :: highL k t.list := by
  induction t with
  | nil => rfl
  | node l k' v' r ihl ihr =>
    obtain ⟨hl, hr, h1, h2⟩ := rise_node (A := l.list) (B := r.list) h
    unfold put
    simp only [] at h1 h2
    split
    · rename_i hk
      replace hk : klt k k' = true := hk
      rw [join_list, ihl hl]
      simp only [list, lowL_append, highL_append]
      rw [lowL_none (A := (k', v') :: r.list) (by
          intro x hx
          rcases List.mem_cons.1 hx with rfl | hx
          · exact klt_asym hk
          · exact klt_asym (klt_tr hk (h2 x hx))),
        highL_all (A := (k', v') :: r.list) (by
          intro x hx
          rcases List.mem_cons.1 hx with rfl | hx
          · exact hk
          · exact klt_tr hk (h2 x hx))]
      simp
    · rename_i hk0
      split
      · rename_i hk
        replace hk : klt k' k = true := hk
        rw [join_list, ihr hr]
        simp only [list]
        rw [show l.list ++ (k', v') :: r.list = (l.list ++ [(k', v')]) ++ r.list by simp, lowL_append, highL_append,
          lowL_all (A := l.list ++ [(k', v')]) (by
            intro x hx
            rcases List.mem_append.1 hx with hx | hx
            · exact klt_tr (h1 x hx) hk
            · rw [List.mem_singleton] at hx; subst hx; exact hk),
          highL_none (A := l.list ++ [(k', v')]) (by
            intro x hx
            rcases List.mem_append.1 hx with hx | hx
            · exact klt_asym (klt_tr (h1 x hx) hk)
            · rw [List.mem_singleton] at hx; subst hx; exact klt_asym hk)]
        simp
      · rename_i hk1
        replace hk0 : klt k k' = false := by simpa using hk0
        replace hk1 : klt k' k = false := by simpa using hk1
        simp only [list, lowL_append, highL_append]
        rw [lowL_all (A := l.list) (fun x hx => klt_ntr (h1 x hx) hk0), highL_none (A := l.list) (fun x hx => klt_asym (klt_ntr (h1 x hx) hk0)),
          lowL_none (A := (k', v') :: r.list) (by
            intro x hx
            rcases List.mem_cons.1 hx with rfl | hx
            · exact hk1
            · exact klt_asym (klt_ntr' (h2 x hx) hk1)),
          show highL k ((k', v') :: r.list) = highL k [(k', v')] ++ highL k r.list from highL_append k [(k', v')] r.list,
          highL_none (A := [(k', v')]) (by intro x hx; rw [List.mem_singleton] at hx; subst hx; exact hk0),
          highL_all (A := r.list) (fun x hx => klt_ntr' (h2 x hx) hk1)]
        simp

theorem split_list (t : Tr K V) (k : K) (h : Rise t.list) : (t.split k).1.list = lowL k t.list ∧ (t.split k).2.list = restL k t.list := by
  induction t with
  | nil => exact ⟨rfl, rfl⟩
  | node l k' v' r ihl ihr =>
    obtain ⟨hl, hr, h1, h2⟩ := rise_node (A := l.list) (B := r.list) h
    simp only [] at h1 h2
    unfold split
    split
    · rename_i hk
      replace hk : klt k' k = true := hk
      have hz : ∀ x ∈ l.list ++ [(k', v')], klt x.1 k = true := by
        intro x hx
        rcases List.mem_append.1 hx with hx | hx
        · exact klt_tr (h1 x hx) hk
        · rw [List.mem_singleton] at hx; subst hx; exact hk
      simp only [join_list, list]
      rw [show l.list ++ (k', v') :: r.list = (l.list ++ [(k', v')]) ++ r.list by simp, lowL_append, restL_append, lowL_all hz, restL_none hz, (ihr hr).1, (ihr hr).2]
      simp
    · rename_i hk
      replace hk : klt k' k = false := by simpa using hk
      have hz : ∀ x ∈ (k', v') :: r.list, klt x.1 k = false := by
        intro x hx
        rcases List.mem_cons.1 hx with rfl | hx
        · exact hk
        · cases hx2 : klt x.1 k with
          | false => rfl
          | true => have := klt_tr (h2 x hx) hx2; rw [hk] at this; cases this
      simp only [join_list, list]
      rw [lowL_append, restL_append, lowL_none hz, restL_all hz, (ihl hl).1, (ihl hl).2]
      simp

/-- is there an entry of this key? -/
def has (L : List (K × V)) (k : K) : Bool := L.any (fun x => !klt x.1 k && !klt k x.1)
theorem has_append (A B : List (K × V)) (k : K) : has (A ++ B) k = (has A k || has B k) := by simp [has]
theorem has_low {A : List (K × V)} {k : K} (h : ∀ x ∈ A, klt x.1 k = true) : has A k = false := by
  unfold has; rw [List.any_eq_false]; intro x hx; simp [h x hx]
theorem has_high {A : List (K × V)} {k : K} (h : ∀ x ∈ A, klt k x.1 = true) : has A k = false := by
  unfold has; rw [List.any_eq_false]; intro x hx; simp [h x hx]

theorem without_list (t : Tr K V) (k : K) (h : Rise t.list) : (t.without k).1.list = lowL k t.list ++ highL k t.list ∧ (t.without k).2 = has t.list k := by
  induction t with
  | nil => exact ⟨rfl, rfl⟩
  | node l k' v' r ihl ihr =>
    obtain ⟨hl, hr, h1, h2⟩ := rise_node (A := l.list) (B := r.list) h
    simp only [] at h1 h2
    have hnone : ∀ {A : List (K × V)}, has A k = false → Rise A → lowL k A ++ highL k A = A := by
      intro A hA hR
      have h3 := low_rest k hR
      have h4 : highL k A = restL k A := by
        unfold highL restL
        apply List.filter_congr
        intro x hx
        have := (List.any_eq_false.1 hA) x hx
        simp at this
        cases hx1 : klt x.1 k with
        | true => exact klt_asym hx1
        | false => simpa using this hx1
      rw [h4, h3]
    unfold without
    split
    · rename_i hk
      replace hk : klt k k' = true := hk
      have hz : ∀ x ∈ (k', v') :: r.list, klt k x.1 = true := by
        intro x hx
        rcases List.mem_cons.1 hx with rfl | hx
        · exact hk
        · exact klt_tr hk (h2 x hx)
      obtain ⟨i1, i2⟩ := ihl hl
      split
      · rename_i hb
        simp only [join_list, list]
        rw [i1, lowL_append, highL_append, has_append, lowL_none (fun x hx => klt_asym (hz x hx)), highL_all hz, ← i2, hb]
        simp
      · rename_i hb
        have hb' : has l.list k = false := by rw [← i2]; simpa using hb
        have hb2 : has (l.list ++ (k', v') :: r.list) k = false := by rw [has_append, hb', has_high hz]; rfl
        exact ⟨(hnone hb2 h).symm, hb2.symm⟩
    · rename_i hk0
      split
      · rename_i hk
        replace hk : klt k' k = true := hk
        have hz : ∀ x ∈ l.list ++ [(k', v')], klt x.1 k = true := by
          intro x hx
          rcases List.mem_append.1 hx with hx | hx
          · exact klt_tr (h1 x hx) hk
          · rw [List.mem_singleton] at hx; subst hx; exact hk
        obtain ⟨i1, i2⟩ := ihr hr
        have hsp : l.list ++ (k', v') :: r.list = (l.list ++ [(k', v')]) ++ r.list := by simp
        split
        · rename_i hb
          simp only [join_list, list]
          rw [i1, hsp, lowL_append, highL_append, has_append, lowL_all hz, highL_none (fun x hx => klt_asym (hz x hx)), ← i2, hb]
          simp
        · rename_i hb
          have hb' : has r.list k = false := by rw [← i2]; simpa using hb
          have hb2 : has (l.list ++ (k', v') :: r.list) k = false := by rw [hsp, has_append, hb', has_low hz]; rfl
          exact ⟨(hnone hb2 h).symm, hb2.symm⟩
      · rename_i hk1
        replace hk0 : klt k k' = false := by simpa using hk0
        replace hk1 : klt k' k = false := by simpa using hk1
        simp only [meet_list, list, lowL_append, highL_append, has_append]
        rw [lowL_all (A := l.list) (fun x hx => klt_ntr (h1 x hx) hk0), highL_none (A := l.list) (fun x hx => klt_asym (klt_ntr (h1 x hx) hk0)),
          lowL_none (A := (k', v') :: r.list) (by
            intro x hx
            rcases List.mem_cons.1 hx with rfl | hx
            · exact hk1
            · exact klt_asym (klt_ntr' (h2 x hx) hk1)),
          show highL k ((k', v') :: r.list) = highL k [(k', v')] ++ highL k r.list from highL_append k [(k', v')] r.list,
          highL_none (A := [(k', v')]) (by intro x hx; rw [List.mem_singleton] at hx; subst hx; exact hk0),
          highL_all (A := r.list) (fun x hx => klt_ntr' (h2 x hx) hk1)]
        refine ⟨by simp, ?_⟩
        have : has ((k', v') :: r.list) k = true := by simp [has, hk0, hk1]
        rw [this]; simp

theorem rank_list (t : Tr K V) (k : K) (h : Rise t.list) : t.rank k = (lowL k t.list).length := by
  induction t with
  | nil => rfl
  | node l k' v' r ihl ihr =>
    obtain ⟨hl, hr, h1, h2⟩ := rise_node (A := l.list) (B := r.list) h
    simp only [] at h1 h2
    unfold rank
    split
    · rename_i hk
      replace hk : klt k' k = true := hk
      have hz : ∀ x ∈ l.list ++ [(k', v')], klt x.1 k = true := by
        intro x hx
        rcases List.mem_append.1 hx with hx | hx
        · exact klt_tr (h1 x hx) hk
        · rw [List.mem_singleton] at hx; subst hx; exact hk
      rw [ihr hr, show (node l k' v' r).list = (l.list ++ [(k', v')]) ++ r.list by simp [list], lowL_append, lowL_all hz]
      simp only [List.length_append, list_length, List.length_singleton]
    · rename_i hk
      replace hk : klt k' k = false := by simpa using hk
      have hz : ∀ x ∈ (k', v') :: r.list, klt x.1 k = false := by
        intro x hx
        rcases List.mem_cons.1 hx with rfl | hx
        · exact hk
        · cases hx2 : klt x.1 k with
          | false => rfl
          | true => have := klt_tr (h2 x hx) hx2; rw [hk] at this; cases this
      rw [ihl hl, show (node l k' v' r).list = l.list ++ (k', v') :: r.list from rfl, lowL_append, lowL_none hz]
      simp

/-- the entry at a place -/
def at' : Tr K V → Int → Option (K × V)
  | nil, _ => none
  | node l k v r, i => if i = l.size then some (k, v) else if i > l.size then at' r (i - (l.size + 1)) else at' l i
omit [KOrd K] in
theorem at_list (t : Tr K V) (i : Int) : t.at' i = if 0 ≤ i then t.list[i.toNat]? else none := by
  induction t generalizing i with
  | nil => unfold at'; split <;> simp [list]
  | node l k v r ihl ihr =>
    unfold at'
    split
    · rename_i hi
      subst hi
      simp [list, ← list_length]
    · rename_i hi
      split
      · rename_i hg
        rw [ihr, if_pos (by omega), if_pos (by omega)]
        simp only [list]
        rw [List.getElem?_append_right (by rw [list_length]; omega), list_length]
        have : i.toNat - l.size = (i - (l.size + 1)).toNat + 1 := by omega
        rw [this, List.getElem?_cons_succ]
      · rename_i hg
        rw [ihl]
        split
        · rename_i h0
          simp only [list]
          rw [List.getElem?_append_left (by rw [list_length]; omega)]
        · rfl

/-- the entry of a key -/
theorem find_list (t : Tr K V) (k : K) (h : Rise t.list) : t.find k = match (restL k t.list).head? with
    | some e => if klt k e.1 then none else some e
    | none => none := by
  induction t with
  | nil => rfl
  | node l k' v' r ihl ihr =>
    obtain ⟨hl, hr, h1, h2⟩ := rise_node (A := l.list) (B := r.list) h
    simp only [] at h1 h2
    unfold find
    split
    · rename_i hk
      replace hk : klt k k' = true := hk
      have hz : ∀ x ∈ (k', v') :: r.list, klt x.1 k = false := by
        intro x hx
        rcases List.mem_cons.1 hx with rfl | hx
        · exact klt_asym hk
        · exact klt_asym (klt_tr hk (h2 x hx))
      rw [ihl hl, show (node l k' v' r).list = l.list ++ (k', v') :: r.list from rfl, restL_append, restL_all hz]
      cases hR : restL k l.list with
      | nil => simp [hk]
      | cons a b => simp
    · rename_i hk0
      split
      · rename_i hk
        replace hk : klt k' k = true := hk
        have hz : ∀ x ∈ l.list ++ [(k', v')], klt x.1 k = true := by
          intro x hx
          rcases List.mem_append.1 hx with hx | hx
          · exact klt_tr (h1 x hx) hk
          · rw [List.mem_singleton] at hx; subst hx; exact hk
        rw [ihr hr, show (node l k' v' r).list = (l.list ++ [(k', v')]) ++ r.list by simp [list], restL_append, restL_none hz]
        simp
      · rename_i hk1
        replace hk0 : klt k k' = false := by simpa using hk0
        replace hk1 : klt k' k = false := by simpa using hk1
        rw [show (node l k' v' r).list = l.list ++ (k', v') :: r.list from rfl, restL_append, restL_none (A := l.list) (fun x hx => klt_ntr (h1 x hx) hk0)]
        have : restL k ((k', v') :: r.list) = (k', v') :: restL k r.list := by simp [restL, hk1]
        rw [this]
        simp [hk0]

theorem rise_put (t : Tr K V) (k : K) (v : V) (h : Rise t.list) : Rise (t.put k v).list := by
  rw [put_list t k v h]
  refine rise_append (rise_low k h) ?_ ?_
  · unfold Rise; rw [List.pairwise_cons]; exact ⟨fun x hx => mem_high hx, rise_high k h⟩
  · intro x hx y hy
    rcases List.mem_cons.1 hy with rfl | hy
    · exact mem_low hx
    · exact klt_tr (mem_low hx) (mem_high hy)
theorem rise_without (t : Tr K V) (k : K) (h : Rise t.list) : Rise (t.without k).1.list := by
  rw [(without_list t k h).1]
  exact rise_append (rise_low k h) (rise_high k h) (fun x hx y hy => klt_tr (mem_low hx) (mem_high hy))
theorem rise_split (t : Tr K V) (k : K) (h : Rise t.list) : Rise (t.split k).1.list ∧ Rise (t.split k).2.list := by
  rw [(split_list t k h).1, (split_list t k h).2]
  exact ⟨rise_low k h, rise_rest k h⟩
/-- the keys of a are all below those of b -/
def Apt (a b : List (K × V)) : Prop := match a.getLast?, b.head? with
  | some x, some y => klt x.1 y.1 = true
  | _, _ => True
theorem apt_all {a b : List (K × V)} (ha : Rise a) (hb : Rise b) (h : Apt a b) : ∀ x ∈ a, ∀ y ∈ b, klt x.1 y.1 = true := by
  intro x hx y hy
  cases b with
  | nil => cases hy
  | cons y0 b =>
    rcases List.eq_nil_or_concat a with rfl | ⟨a', x0, rfl⟩
    · cases hx
    · have hxy : klt x0.1 y0.1 = true := by simpa [Apt] using h
      have hxx : x = x0 ∨ klt x.1 x0.1 = true := by
        rw [List.concat_eq_append] at hx
        rcases List.mem_append.1 hx with hx | hx
        · right
          unfold Rise at ha
          rw [List.concat_eq_append, List.pairwise_append] at ha
          exact ha.2.2 x hx x0 (List.mem_singleton.2 rfl)
        · left; simpa using hx
      have hyy : y = y0 ∨ klt y0.1 y.1 = true := by
        rcases List.mem_cons.1 hy with rfl | hy
        · left; rfl
        · right; unfold Rise at hb; rw [List.pairwise_cons] at hb; exact hb.1 y hy
      have h3 : klt x.1 y0.1 = true := by
        rcases hxx with rfl | hxx
        · exact hxy
        · exact klt_tr hxx hxy
      rcases hyy with rfl | hyy
      · exact h3
      · exact klt_tr h3 hyy
theorem rise_meet (a b : Tr K V) (ha : Rise a.list) (hb : Rise b.list) (h : Apt a.list b.list) : Rise (meet a b).list := by
  rw [meet_list]
  exact rise_append ha hb (apt_all ha hb h)

omit [KOrd K] in
/-- how deep a tree of so many entries can be -/
theorem size_le (t : Tr K V) : t.size + 1 ≤ 2 ^ t.depth := by
  induction t with
  | nil => simp [size, depth]
  | node l k v r ihl ihr =>
    simp only [size, depth]
    have h1 : 2 ^ l.depth ≤ 2 ^ max l.depth r.depth := Nat.pow_le_pow_right (by omega) (by omega)
    have h2 : 2 ^ r.depth ≤ 2 ^ max l.depth r.depth := Nat.pow_le_pow_right (by omega) (by omega)
    rw [Nat.pow_succ]
    omega
omit [KOrd K] in
theorem le_size (t : Tr K V) (h : t.avl) : 2 ^ ((t.depth + 1) / 2) ≤ t.size + 1 := by
  induction t with
  | nil => simp [size, depth]
  | node l k v r ihl ihr =>
    obtain ⟨hl, hr, h1, h2⟩ := h
    have i1 := ihl hl
    have i2 := ihr hr
    simp only [size, depth]
    have h3 : 2 ^ ((max l.depth r.depth - 1 + 1) / 2) ≤ 2 ^ ((l.depth + 1) / 2) := Nat.pow_le_pow_right (by omega) (by omega)
    have h4 : 2 ^ ((max l.depth r.depth - 1 + 1) / 2) ≤ 2 ^ ((r.depth + 1) / 2) := Nat.pow_le_pow_right (by omega) (by omega)
    by_cases h0 : max l.depth r.depth = 0
    · rw [h0]; simp; omega
    · have : (max l.depth r.depth + 1 + 1) / 2 = (max l.depth r.depth - 1 + 1) / 2 + 1 := by omega
      rw [this, Nat.pow_succ]
      omega
end Tr
end Go.Proofs.Ytbpeeifgfjpghaa
