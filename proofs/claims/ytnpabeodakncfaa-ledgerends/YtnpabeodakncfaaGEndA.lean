/- What hearing a message makes, case by case; the target of an offer that stands. -/
import Derived.Test.YtnpabeodakncfaaGInv2
namespace Go.Proofs.Ytnpabeodakncfaa

/-- what a message of kind k, epoch e, from fr makes of the ledger l at t: the ledger x, the reply y -/
def Out (k e fr t : Int) (l x : Ld) (y : Int) : Prop :=
  (k = 3 ∧ ((l.ph = 4 ∧ l.ep = e ∧ l.pe = fr ∧ x = l ∧ y = 4) ∨ (¬(l.ph = 4 ∧ l.ep = e ∧ l.pe = fr) ∧ (l.ph = 0 ∨ l.ph = 4 ∨ l.ph = 5) ∧ l.ep < e ∧ e < 1073741824 ∧ x = ⟨4, e, fr⟩ ∧ y = 4) ∨ (¬(l.ph = 4 ∧ l.ep = e ∧ l.pe = fr) ∧ ¬((l.ph = 0 ∨ l.ph = 4 ∨ l.ph = 5) ∧ l.ep < e ∧ e < 1073741824) ∧ x = l ∧ y = 0))) ∨
  (k = 4 ∧ ((l.ph = 2 ∧ l.ep = e ∧ l.pe = fr ∧ x = ⟨3, e, fr⟩ ∧ y = 5) ∨ (l.ph = 3 ∧ l.ep = e ∧ l.pe = fr ∧ x = l ∧ y = 5) ∨ (¬((l.ph = 2 ∨ l.ph = 3) ∧ l.ep = e ∧ l.pe = fr) ∧ e < l.ep ∧ x = l ∧ y = 7) ∨ (¬((l.ph = 2 ∨ l.ph = 3) ∧ l.ep = e ∧ l.pe = fr) ∧ ¬ e < l.ep ∧ x = l ∧ y = 0))) ∨
  (k = 5 ∧ ((l.ph = 4 ∧ l.ep = e ∧ l.pe = fr ∧ x = ⟨1, e, t⟩ ∧ y = 6) ∨ (¬(l.ph = 4 ∧ l.ep = e ∧ l.pe = fr) ∧ l.ph = 4 ∧ l.ep = e ∧ x = l ∧ y = 0) ∨ (¬(l.ph = 4 ∧ l.ep = e) ∧ e ≤ l.ep ∧ x = l ∧ y = 6) ∨ (¬(l.ph = 4 ∧ l.ep = e) ∧ ¬ e ≤ l.ep ∧ x = l ∧ y = 0))) ∨
  (k = 6 ∧ ((l.ph = 3 ∧ l.ep = e ∧ l.pe = fr ∧ x = ⟨5, e, fr⟩ ∧ y = 0) ∨ (¬(l.ph = 3 ∧ l.ep = e ∧ l.pe = fr) ∧ x = l ∧ y = 0))) ∨
  (k = 7 ∧ ((l.ph = 4 ∧ l.ep = e ∧ l.pe = fr ∧ x = ⟨5, e, fr⟩ ∧ y = 0) ∨ (¬(l.ph = 4 ∧ l.ep = e ∧ l.pe = fr) ∧ x = l ∧ y = 0))) ∨
  (k = 8 ∧ ((l.ph = 2 ∧ l.ep = e ∧ l.pe = fr ∧ x = ⟨1, e + 1, t⟩ ∧ y = 0) ∨ (¬(l.ph = 2 ∧ l.ep = e ∧ l.pe = fr) ∧ x = l ∧ y = 0)))
theorem met_iff (l : Ld) (e f : Int) : met l e f = true ↔ l.ep = e ∧ l.pe = f := by simp [met]
theorem out_her {t : Int} {l : Ld} {k e f : Int} (hv : vld t l = true) (ho : oth t f = true) (hk : 3 ≤ k ∧ k ≤ 8) {Z Y : Int} (hh : her t l k e f = (Z, Y)) : Out k e f t l (if Z = 0 then l else stp t l Z e f) Y := by
  have hz : Z ≠ 0 → rfs t l Z e f = 0 := fun q => by
    have := her_rec (s := t) (l := l) (k := k) (e := e) (f := f) (by rw [hh]; exact q)
    rw [hh] at this
    exact this.1
  rw [her_yes k e f hv ho] at hh
  unfold Out
  have hc : k = 3 ∨ k = 4 ∨ k = 5 ∨ k = 6 ∨ k = 7 ∨ k = 8 := by omega
  have hs : ∀ q, Z = q → q ≠ 0 → stp t l Z e f = bhd t l q e f := fun q h1 h2 => by rw [stp, if_pos (hz (by rw [h1]; exact h2)), h1]
  obtain ⟨la, lb, lc'⟩ := l
  rcases hc with rfl | rfl | rfl | rfl | rfl | rfl
  · left
    simp only [if_true] at hh
    unfold off at hh
    simp only [met_iff] at hh
    refine ⟨rfl, ?_⟩
    by_cases c1 : la = 4 ∧ lb = e ∧ lc' = f
    · rw [if_pos c1] at hh
      cases hh
      exact Or.inl ⟨c1.1, c1.2.1, c1.2.2, rfl, rfl⟩
    · rw [if_neg c1] at hh
      by_cases c2 : (la = 0 ∨ la = 4 ∨ la = 5) ∧ lb < e ∧ e < 1073741824
      · rw [if_pos c2] at hh
        cases hh
        exact Or.inr (Or.inl ⟨c1, c2.1, c2.2.1, c2.2.2, by rw [if_neg (by decide), hs 4 rfl (by decide)]; rfl, rfl⟩)
      · rw [if_neg c2] at hh
        cases hh
        exact Or.inr (Or.inr ⟨c1, c2, rfl, rfl⟩)
  · right; left
    simp (decide := true) only [if_true, if_false] at hh
    unfold hav at hh
    simp only [met_iff] at hh
    refine ⟨rfl, ?_⟩
    by_cases c1 : la = 2 ∧ lb = e ∧ lc' = f
    · rw [if_pos c1] at hh
      cases hh
      obtain ⟨rfl, rfl, rfl⟩ := c1
      exact Or.inl ⟨rfl, rfl, rfl, by rw [if_neg (by decide), hs 5 rfl (by decide)]; rfl, rfl⟩
    · rw [if_neg c1] at hh
      by_cases c2 : la = 3 ∧ lb = e ∧ lc' = f
      · rw [if_pos c2] at hh
        cases hh
        exact Or.inr (Or.inl ⟨c2.1, c2.2.1, c2.2.2, rfl, rfl⟩)
      · rw [if_neg c2] at hh
        have c3 : ¬((la = 2 ∨ la = 3) ∧ lb = e ∧ lc' = f) := by rintro ⟨q | q, r⟩; exact c1 ⟨q, r⟩; exact c2 ⟨q, r⟩
        by_cases c4 : e < lb
        · rw [if_pos c4] at hh
          cases hh
          exact Or.inr (Or.inr (Or.inl ⟨c3, c4, rfl, rfl⟩))
        · rw [if_neg c4] at hh
          cases hh
          exact Or.inr (Or.inr (Or.inr ⟨c3, c4, rfl, rfl⟩))
  · right; right; left
    simp (decide := true) only [if_true, if_false] at hh
    unfold cmt at hh
    simp only [met_iff] at hh
    refine ⟨rfl, ?_⟩
    by_cases c1 : la = 4 ∧ lb = e ∧ lc' = f
    · rw [if_pos c1] at hh
      cases hh
      obtain ⟨rfl, rfl, rfl⟩ := c1
      exact Or.inl ⟨rfl, rfl, rfl, by rw [if_neg (by decide), hs 6 rfl (by decide)]; rfl, rfl⟩
    · rw [if_neg c1] at hh
      by_cases c2 : la = 4 ∧ lb = e
      · rw [if_pos c2] at hh
        cases hh
        exact Or.inr (Or.inl ⟨c1, c2.1, c2.2, rfl, rfl⟩)
      · rw [if_neg c2] at hh
        by_cases c4 : e ≤ lb
        · rw [if_pos c4] at hh
          cases hh
          exact Or.inr (Or.inr (Or.inl ⟨c2, c4, rfl, rfl⟩))
        · rw [if_neg c4] at hh
          cases hh
          exact Or.inr (Or.inr (Or.inr ⟨c2, c4, rfl, rfl⟩))
  · right; right; right; left
    simp (decide := true) only [if_true, if_false] at hh
    unfold eof at hh
    simp only [met_iff] at hh
    refine ⟨rfl, ?_⟩
    by_cases c1 : la = 3 ∧ lb = e ∧ lc' = f
    · rw [if_pos c1] at hh
      cases hh
      obtain ⟨rfl, rfl, rfl⟩ := c1
      exact Or.inl ⟨rfl, rfl, rfl, by rw [if_neg (by decide), hs 7 rfl (by decide)]; rfl, rfl⟩
    · rw [if_neg c1] at hh
      cases hh
      exact Or.inr ⟨c1, rfl, rfl⟩
  · right; right; right; right; left
    simp (decide := true) only [if_true, if_false] at hh
    unfold eof at hh
    simp only [met_iff] at hh
    refine ⟨rfl, ?_⟩
    by_cases c1 : la = 4 ∧ lb = e ∧ lc' = f
    · rw [if_pos c1] at hh
      cases hh
      obtain ⟨rfl, rfl, rfl⟩ := c1
      exact Or.inl ⟨rfl, rfl, rfl, by rw [if_neg (by decide), hs 8 rfl (by decide)]; rfl, rfl⟩
    · rw [if_neg c1] at hh
      cases hh
      exact Or.inr ⟨c1, rfl, rfl⟩
  · right; right; right; right; right
    simp (decide := true) only [if_true, if_false] at hh
    unfold eof at hh
    simp only [met_iff] at hh
    refine ⟨rfl, ?_⟩
    by_cases c1 : la = 2 ∧ lb = e ∧ lc' = f
    · rw [if_pos c1] at hh
      cases hh
      obtain ⟨rfl, rfl, rfl⟩ := c1
      exact Or.inl ⟨rfl, rfl, rfl, by rw [if_neg (by decide), hs 3 rfl (by decide)]; rfl, rfl⟩
    · rw [if_neg c1] at hh
      cases hh
      exact Or.inr ⟨c1, rfl, rfl⟩
/-- whom a standing offer is made to has not gone by it -/
def XX (n : Int) (f : Int → Ld) : Prop := ∀ i, 0 ≤ i → i < n → (f i).ph = 2 → (f (f i).pe).ep < (f i).ep ∨ (f (f i).pe).ph = 4
/-- where a message goes -/
theorem Inv.way {n : Int} {f : Int → Ld} {M : Ml → Prop} {S T : Int → Int} {h : Int} (H : Inv n f M S T h) {k e fr t : Int} (hm : M ⟨k, e, fr, t⟩) : 0 ≤ t ∧ t < n ∧ 0 ≤ fr ∧ fr < n ∧ fr ≠ t ∧ 3 ≤ k ∧ k ≤ 8 ∧ 1 ≤ e ∧ e ≤ (f h).ep ∧ ((k = 3 ∨ k = 5 ∨ k = 7) → fr = S e ∧ t = T e) ∧ ((k = 4 ∨ k = 6 ∨ k = 8) → fr = T e ∧ t = S e) := by
  have q1 := H.ms _ hm
  have q2 := H.mt _ hm
  have q3 := H.mo _ hm
  have q4 := H.me _ hm
  dsimp only at *
  refine ⟨?_, ?_, ?_, ?_, ?_, q1.2.2.1, q1.2.2.2, q1.1, q1.2.1, q3, q4⟩ <;>
  · have hk : k = 3 ∨ k = 4 ∨ k = 5 ∨ k = 6 ∨ k = 7 ∨ k = 8 := by omega
    rcases hk with hk | hk | hk | hk | hk | hk <;> simp [hk] at q3 q4 <;> omega
theorem xx_out {n : Int} {f g : Int → Ld} {M : Ml → Prop} {S T : Int → Int} {h : Int} (H : Inv n f M S T h) (X : XX n f) {k e fr t : Int} (hm : M ⟨k, e, fr, t⟩) {x : Ld} {y : Int} (hO : Out k e fr t (f t) x y) (gt : g t = x) (gn : ∀ i, i ≠ t → g i = f i) : XX n g := by
  obtain ⟨t0, t1, f0, f1, hne, k1, k2, e1, e2, w1, w2⟩ := H.way hm
  have hun := H.un
  have hp2 := H.p2
  have hmx := H.mx
  have hv1 := H.v1
  have n5 := H.n5 _ hm
  have m7 := H.m7 _ hm
  have hh0 := H.h0
  dsimp only at n5 m7
  have hid : x = f t → XX n g := fun q => by
    have : g = f := by
      funext i
      by_cases c : i = t
      · rw [c, gt, q]
      · exact gn i c
    rw [this]; exact X
  have hoff : ∀ i, 0 ≤ i → i < n → (f i).ph = 2 → i = h := fun i a b c => Classical.byContradiction fun q => (hun i a b q).2 c
  clear H hm
  -- what may have changed is the ledger at t
  have key : (x.ph = 2 → False) → (∀ i, 0 ≤ i → i < n → (f i).ph = 2 → i ≠ t → (f i).pe = t → x.ep < (f i).ep ∨ x.ph = 4) → XX n g := fun a b i i0 i1 hi => by
    by_cases c : i = t
    · rw [c, gt] at hi; exact absurd hi a
    · rw [gn i c] at hi ⊢
      by_cases d : (f i).pe = t
      · rw [d, gt]; exact b i i0 i1 hi c d
      · rw [gn _ d]; exact X i i0 i1 hi
  rcases hO with ⟨rfl, q | q | q⟩ | ⟨rfl, q | q | q | q⟩ | ⟨rfl, q | q | q | q⟩ | ⟨rfl, q | q⟩ | ⟨rfl, q | q⟩ | ⟨rfl, q | q⟩
  · exact hid q.2.2.2.1
  · obtain ⟨-, -, -, -, rfl, -⟩ := q
    exact key (by simp) (fun i _ _ _ _ _ => Or.inr rfl)
  · exact hid q.2.2.1
  · obtain ⟨q1, q2, q3, rfl, -⟩ := q
    exact key (by simp) (fun i i0 i1 hi hne _ => absurd ((hoff i i0 i1 hi).trans (hoff t t0 t1 q1).symm) hne)
  · exact hid q.2.2.2.1
  · exact hid q.2.2.1
  · exact hid q.2.2.1
  · obtain ⟨q1, q2, q3, rfl, -⟩ := q
    refine key (by simp) (fun i i0 i1 hi hne hpe => Or.inl ?_)
    have a1 := hp2 i i0 i1 (Or.inl hi)
    have a2 := hoff i i0 i1 hi
    have a3 := hmx t t0 t1
    obtain ⟨a4, a5⟩ := w1 (by omega)
    have a6 := n5 rfl (by rw [← a5]; exact q1) (by rw [← a5]; exact q2)
    show e < (f i).ep
    rw [a2] at a1 hi ⊢
    by_cases z : (f h).ep = e
    · rw [z] at a1
      rw [a1.1] at a6
      omega
    · omega
  · exact hid q.2.2.2.1
  · exact hid q.2.2.1
  · exact hid q.2.2.1
  · obtain ⟨q1, q2, q3, rfl, -⟩ := q
    refine key (by simp) (fun i i0 i1 hi hne hpe => ?_)
    have := X i i0 i1 hi
    rw [hpe] at this
    left
    show e < (f i).ep
    omega
  · exact hid q.2.1
  · obtain ⟨q1, q2, q3, rfl, -⟩ := q
    refine key (by simp) (fun i i0 i1 hi hne hpe => Or.inl ?_)
    have a1 := hp2 i i0 i1 (Or.inl hi)
    have a2 := hoff i i0 i1 hi
    have a3 := m7 rfl
    show e < (f i).ep
    rw [a2] at a1 ⊢
    by_cases z : (f h).ep = e
    · rw [z] at a1
      rw [a1.1] at a3
      omega
    · omega
  · exact hid q.2.1
  · obtain ⟨q1, q2, q3, rfl, -⟩ := q
    exact key (by simp) (fun i i0 i1 hi hne _ => absurd ((hoff i i0 i1 hi).trans (hoff t t0 t1 q1).symm) hne)
  · exact hid q.2.1
end Go.Proofs.Ytnpabeodakncfaa
