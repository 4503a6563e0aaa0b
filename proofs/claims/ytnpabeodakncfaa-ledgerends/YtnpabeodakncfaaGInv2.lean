/- What happens keeps the invariant; what it says of a row. -/
import Derived.Test.YtnpabeodakncfaaGInv
import Derived.Test.YtnpabeodakncfaaGRis
import Derived.Test.YtnpabeodakncfaaGSound
namespace Go.Proofs.Ytnpabeodakncfaa

theorem Inv.vld {n : Int} {f : Int → Ld} {M : Ml → Prop} {S T : Int → Int} {h : Int} (H : Inv n f M S T h) {i : Int} (i0 : 0 ≤ i) (i1 : i < n) : vld i (f i) = true := by
  have a := H.n1; have b := H.v1 i i0 i1; have c := H.v2 i i0 i1; have d := H.v3 i i0 i1; have e := H.v4 i i0 i1; have g := H.v5 i i0 i1; have k := H.v6 i i0 i1; have l := H.v7 i i0 i1
  simp only [Go.Proofs.Ytnpabeodakncfaa.vld, decide_eq_true_eq]
  omega
theorem Inv.sub {n : Int} {f : Int → Ld} {M M' : Ml → Prop} {S T : Int → Int} {h : Int} (H : Inv n f M S T h) (hM : ∀ m, M' m → M m) : Inv n f M' S T h := by
  obtain ⟨n1, h0, v1, v2, v3, v4, v5, v6, v7, hc, mx, un, p2, p4, c3, c4, ch, i4, i5, ms, mt, mo, me, m3, n3, m4, n4, m5, n5, m6, n6, m7⟩ := H
  exact ⟨n1, h0, v1, v2, v3, v4, v5, v6, v7, hc, mx, un, p2, p4, c3, c4, ch, i4, i5, fun m q => ms m (hM m q), fun m q => mt m (hM m q), fun m q => mo m (hM m q), fun m q => me m (hM m q), fun m q => m3 m (hM m q), fun m q => n3 m (hM m q), fun m q => m4 m (hM m q), fun m q => n4 m (hM m q), fun m q => m5 m (hM m q), fun m q => n5 m (hM m q), fun m q => m6 m (hM m q), fun m q => n6 m (hM m q), fun m q => m7 m (hM m q)⟩

/-- what hearing a message makes: record and reply -/
def ans (full : Bool) (r : Int × Int) : Int × Int := if r.1 = 4 ∧ full = true then (0, 8) else r

theorem inv_hear {n : Int} {f g : Int → Ld} {M M' : Ml → Prop} {S T : Int → Int} {h : Int} (H : Inv n f M S T h) {m : Ml} (hm : M m) (full : Bool) {r : Int × Int}
    (hr : ans full (her m.to (f m.to) m.kind m.ep m.fr) = r)
    (g1 : r.1 ≠ 0 → g m.to = stp m.to (f m.to) r.1 m.ep m.fr) (g2 : r.1 = 0 → g m.to = f m.to) (gn : ∀ i, i ≠ m.to → g i = f i)
    (hM : ∀ x, M' x → M x ∨ (r.2 ≠ 0 ∧ x = ⟨r.2, m.ep, m.to, m.fr⟩)) : ∃ h', Inv n g M' S T h' := by
  obtain ⟨k, e, fr, tt⟩ := m
  have q1 := H.ms _ hm
  have q2 := H.mt _ hm
  have q3 := H.mo _ hm
  have q4 := H.me _ hm
  dsimp only at *
  have hto : 0 ≤ tt ∧ tt < n ∧ 0 ≤ fr ∧ fr < n ∧ fr ≠ tt := by
    have hk : k = 3 ∨ k = 4 ∨ k = 5 ∨ k = 6 ∨ k = 7 ∨ k = 8 := by omega
    rcases hk with hk | hk | hk | hk | hk | hk <;> simp [hk] at q3 q4 <;> omega
  have hv := H.vld hto.1 hto.2.1
  have hn8 := H.n1
  have ho : oth tt fr = true := by simp only [oth, decide_eq_true_eq]; omega
  have gsame : r.1 = 0 → g = f := fun q => by
    funext i
    by_cases c : i = tt
    · subst c; exact g2 q
    · exact gn i c
  by_cases hrec : (her tt (f tt) k e fr).1 = 0
  · have hr0 : r = her tt (f tt) k e fr := by rw [← hr, ans, if_neg (by rw [hrec]; simp)]
    have hg : g = f := gsame (by rw [hr0]; exact hrec)
    subst hg
    refine ⟨h, ?_⟩
    rw [her_yes k e fr hv ho] at hr0 hrec
    have hk : k = 3 ∨ k = 4 ∨ k = 5 ∨ k = 6 ∨ k = 7 ∨ k = 8 := by omega
    rcases hk with rfl | rfl | rfl | rfl | rfl | rfl
    · -- an offer
      simp only [if_true] at hr0 hrec
      unfold off at hr0 hrec
      by_cases c1 : (g tt).ph = 4 ∧ met (g tt) e fr = true
      · rw [if_pos c1] at hr0
        have c2 := c1.2
        simp only [met, decide_eq_true_eq] at c2
        refine send_nag H hto.1 hto.2.1 (Or.inr (Or.inr c1.1)) (fun x hx => ?_)
        rcases hM x hx with q | ⟨_, q⟩
        · exact Or.inl q
        · right; rw [q, hr0]; simp [nag, c1.1, c2.1, c2.2]
      · rw [if_neg c1] at hr0 hrec
        by_cases c2 : ((g tt).ph = 0 ∨ (g tt).ph = 4 ∨ (g tt).ph = 5) ∧ (g tt).ep < e ∧ e < 1073741824
        · rw [if_pos c2] at hrec; exact absurd hrec (by decide)
        · rw [if_neg c2] at hr0
          refine H.sub (fun x hx => ?_)
          rcases hM x hx with q | ⟨q, _⟩
          · exact q
          · rw [hr0] at q; exact absurd rfl q
    · simp only [show (4 : Int) ≠ 3 by decide, if_false, if_true] at hr0 hrec
      unfold hav at hr0 hrec
      by_cases c1 : (g tt).ph = 2 ∧ met (g tt) e fr = true
      · rw [if_pos c1] at hrec; exact absurd hrec (by decide)
      · rw [if_neg c1] at hr0 hrec
        by_cases c2 : (g tt).ph = 3 ∧ met (g tt) e fr = true
        · rw [if_pos c2] at hr0
          have c3 := c2.2
          simp only [met, decide_eq_true_eq] at c3
          refine send_nag H hto.1 hto.2.1 (Or.inr (Or.inl c2.1)) (fun x hx => ?_)
          rcases hM x hx with q | ⟨_, q⟩
          · exact Or.inl q
          · right; rw [q, hr0]; simp [nag, c2.1, c3.1, c3.2]
        · rw [if_neg c2] at hr0 hrec
          by_cases c3 : e < (g tt).ep
          · rw [if_pos c3] at hr0
            refine send_cancel H hm c3 (fun x hx => ?_)
            rcases hM x hx with q | ⟨_, q⟩
            · exact Or.inl q
            · right; rw [q, hr0]
          · rw [if_neg c3] at hr0
            refine H.sub (fun x hx => ?_)
            rcases hM x hx with q | ⟨q, _⟩
            · exact q
            · rw [hr0] at q; exact absurd rfl q
    · simp only [show (5 : Int) ≠ 3 by decide, show (5 : Int) ≠ 4 by decide, if_false, if_true] at hr0 hrec
      unfold cmt at hr0 hrec
      by_cases c1 : (g tt).ph = 4 ∧ met (g tt) e fr = true
      · rw [if_pos c1] at hrec; exact absurd hrec (by decide)
      · rw [if_neg c1] at hr0 hrec
        by_cases c2 : (g tt).ph = 4 ∧ (g tt).ep = e
        · rw [if_pos c2] at hr0
          refine H.sub (fun x hx => ?_)
          rcases hM x hx with q | ⟨q, _⟩
          · exact q
          · rw [hr0] at q; exact absurd rfl q
        · rw [if_neg c2] at hr0 hrec
          by_cases c3 : e ≤ (g tt).ep
          · rw [if_pos c3] at hr0
            refine send_mine H hm c3 (fun a b => c2 ⟨a, b⟩) (fun x hx => ?_)
            rcases hM x hx with q | ⟨_, q⟩
            · exact Or.inl q
            · right; rw [q, hr0]
          · rw [if_neg c3] at hr0
            refine H.sub (fun x hx => ?_)
            rcases hM x hx with q | ⟨q, _⟩
            · exact q
            · rw [hr0] at q; exact absurd rfl q
    all_goals
      refine H.sub (fun x hx => ?_)
      rcases hM x hx with q | ⟨q, _⟩
      · exact q
      · rw [hr0] at q
        exact absurd (by simp) q
  · obtain ⟨-, -, hs⟩ := her_spec hrec
    obtain ⟨hrfs, -⟩ := her_rec hrec
    by_cases hfull : (her tt (f tt) k e fr).1 = 4 ∧ full = true
    · have hr0 : r = (0, 8) := by rw [← hr, ans, if_pos hfull]
      have hg : g = f := gsame (by rw [hr0])
      subst hg
      have hk3 : k = 3 := by
        rcases hs with ⟨a, b, _⟩ | ⟨a, b, _⟩ | ⟨a, b, _⟩ | ⟨a, b, _⟩ | ⟨a, b, _⟩ | ⟨a, b, _⟩ <;> first | exact a | (rw [b] at hfull; exact absurd hfull.1 (by decide))
      subst hk3
      refine ⟨h, send_full H hm (fun x hx => ?_)⟩
      rcases hM x hx with q | ⟨_, q⟩
      · exact Or.inl q
      · right; rw [q, hr0]
    · have hr0 : r = her tt (f tt) k e fr := by rw [← hr, ans, if_neg hfull]
      have hgt : g tt = bhd tt (f tt) r.1 e fr := by
        rw [g1 (by rw [hr0]; exact hrec), stp, if_pos (by rw [hr0]; exact hrfs)]
      rcases hs with ⟨rfl, b, c, d, d'⟩ | ⟨rfl, b, c, d, d'⟩ | ⟨rfl, b, c, d, d'⟩ | ⟨rfl, b, c, d, d'⟩ | ⟨rfl, b, c, d, d'⟩ | ⟨rfl, b, c, d, d'⟩
      · rw [hr0, b] at hgt
        have hg4 : g tt = ⟨4, e, fr⟩ := hgt
        have H2 := inv_install H hm c d d' hg4 gn
        refine ⟨h, send_nag H2 hto.1 hto.2.1 (Or.inr (Or.inr (by rw [hg4]))) (fun x hx => ?_)⟩
        rcases hM x hx with q | ⟨_, q⟩
        · exact Or.inl q
        · right; rw [q, hr0, b, hg4]; rfl
      · rw [hr0, b] at hgt
        have hg4 : g tt = ⟨3, e, fr⟩ := by rw [hgt, ← d, ← d']; rfl
        have H2 := inv_commit H hm c d d' hg4 gn
        refine ⟨h, send_nag H2 hto.1 hto.2.1 (Or.inr (Or.inl (by rw [hg4]))) (fun x hx => ?_)⟩
        rcases hM x hx with q | ⟨_, q⟩
        · exact Or.inl q
        · right; rw [q, hr0, b, hg4]; rfl
      · rw [hr0, b] at hgt
        have hg4 : g tt = ⟨1, e, tt⟩ := by rw [hgt, ← d]; rfl
        have H2 := inv_own H hm c d d' hg4 gn
        refine ⟨tt, send_mine H2 hm (by rw [hg4]; exact Int.le_refl _) (by rw [hg4]; intro q; dsimp only at q; omega) (fun x hx => ?_)⟩
        rcases hM x hx with q | ⟨_, q⟩
        · exact Or.inl q
        · right; rw [q, hr0, b]
      · rw [hr0, b] at hgt
        have hg4 : g tt = ⟨5, e, fr⟩ := by rw [hgt, ← d, ← d']; rfl
        refine ⟨h, (inv_release H hm c d d' hg4 gn).sub (fun x hx => ?_)⟩
        rcases hM x hx with q | ⟨q, _⟩
        · exact q
        · rw [hr0, b] at q; exact absurd rfl q
      · rw [hr0, b] at hgt
        have hg4 : g tt = ⟨5, e, fr⟩ := by rw [hgt, ← d, ← d']; rfl
        refine ⟨h, (inv_forget H hm c d d' hg4 gn).sub (fun x hx => ?_)⟩
        rcases hM x hx with q | ⟨q, _⟩
        · exact q
        · rw [hr0, b] at q; exact absurd rfl q
      · rw [hr0, b] at hgt
        have hth : tt = h := Classical.byContradiction fun q => (H.un tt hto.1 hto.2.1 q).2 c
        subst hth
        have hg4 : g tt = ⟨1, (f tt).ep + 1, tt⟩ := hgt
        refine ⟨tt, (inv_cancel H c hg4 gn).sub (fun x hx => ?_)⟩
        rcases hM x hx with q | ⟨q, _⟩
        · exact q
        · rw [hr0, b] at q; exact absurd rfl q

/-- a row as a function of the server -/
def fr (row : List Ld) : Int → Ld := fun i => row.getD i.toNat ⟨0, 0, 0⟩
theorem fr_nat (row : List Ld) (k : Nat) : fr row (k : Int) = row.getD k ⟨0, 0, 0⟩ := by simp [fr]
theorem beats {n : Int} {f : Int → Ld} {M : Ml → Prop} {S T : Int → Int} {h : Int} (H : Inv n f M S T h) {j : Int} (j0 : 0 ≤ j) (j1 : j < n) (hj : j ≠ h) (hc : (f j).ph = 1 ∨ (f j).ph = 2 ∨ (f j).ph = 3) :
    (f j).ph = 3 ∧ ((f j).ep < (f h).ep ∨ (f j).ep = (f h).ep ∧ (f h).ph = 1) := by
  have a := H.un j j0 j1 hj
  have h3 : (f j).ph = 3 := by omega
  refine ⟨h3, ?_⟩
  have b := H.mx j j0 j1
  have c := H.hc
  have d := H.p2 j j0 j1 (Or.inr h3)
  have e := H.p2 h H.h0.1 H.h0.2
  by_cases q : (f j).ep = (f h).ep
  · right
    refine ⟨q, ?_⟩
    rcases c with c | c
    · exact c
    · have := (e c).1
      rw [← q, d.1] at this
      exact absurd this hj
  · left; omega
theorem clm_iff (l : Ld) : clm l = true ↔ (l.ph = 1 ∨ l.ph = 2 ∨ l.ph = 3) := by simp [clm]
theorem otr_iff (a b : Ld) : otr a b = true ↔ (b.ep < a.ep ∨ a.ep = b.ep ∧ a.ph = 1 ∧ b.ph ≠ 1) := by simp [otr]
theorem hst_inv {row : List Ld} {M : Ml → Prop} {S T : Int → Int} {h : Nat} (H : Inv (row.length : Int) (fr row) M S T (h : Int)) :
    ∀ k, k ≤ row.length → (k ≤ h → ((hst row k).1 < 0 ∨ ∃ j : Nat, j < k ∧ (hst row k).1 = (j : Int) ∧ clm (row.getD j ⟨0, 0, 0⟩) = true)) ∧ (h < k → hst row k = ((h : Int), false))
  | 0, _ => ⟨fun _ => Or.inl (by simp [hst]), fun q => by omega⟩
  | k + 1, hk => by
    have ih := hst_inv H k (by omega)
    have hh := H.h0
    have hhc := H.hc
    rw [fr_nat] at hhc
    have hb : ∀ j : Nat, j < row.length → j ≠ h → clm (row.getD j ⟨0, 0, 0⟩) = true → otr (row.getD h ⟨0, 0, 0⟩) (row.getD j ⟨0, 0, 0⟩) = true ∧ otr (row.getD j ⟨0, 0, 0⟩) (row.getD h ⟨0, 0, 0⟩) = false := by
      intro j jl jh jc
      have := beats H (j := (j : Int)) (by omega) (by omega) (by omega) (by rw [fr_nat]; exact (clm_iff _).1 jc)
      rw [fr_nat, fr_nat] at this
      refine ⟨(otr_iff _ _).2 (by omega), ?_⟩
      have hno : ¬ otr (row.getD j ⟨0, 0, 0⟩) (row.getD h ⟨0, 0, 0⟩) = true := fun q => by
        have := (otr_iff _ _).1 q
        omega
      simpa using hno
    constructor
    · intro hkh
      have ih1 := ih.1 (by omega)
      simp only [hst, hstep]
      by_cases c : clm (row.getD k ⟨0, 0, 0⟩) = false
      · rw [if_pos c]
        rcases ih1 with q | ⟨j, q1, q2, q3⟩
        · exact Or.inl q
        · exact Or.inr ⟨j, by omega, q2, q3⟩
      · rw [if_neg c]
        have c' : clm (row.getD k ⟨0, 0, 0⟩) = true := by simpa using c
        split
        · exact Or.inr ⟨k, by omega, rfl, c'⟩
        · split
          · rcases ih1 with q | ⟨j, q1, q2, q3⟩
            · exact Or.inl q
            · exact Or.inr ⟨j, by omega, q2, q3⟩
          · rcases ih1 with q | ⟨j, q1, q2, q3⟩
            · exact Or.inl q
            · exact Or.inr ⟨j, by omega, q2, q3⟩
    · intro hhk
      simp only [hst, hstep]
      by_cases q : k = h
      · subst q
        have ih1 := ih.1 (by omega)
        have c' : clm (row.getD k ⟨0, 0, 0⟩) = true := (clm_iff _).2 hhc
        rw [if_neg (by rw [c']; simp)]
        rw [if_pos]
        rcases ih1 with q | ⟨j, q1, q2, q3⟩
        · exact Or.inl q
        · right; rw [q2, Int.toNat_natCast]; exact (hb j (by omega) (by omega) q3).1
      · rw [ih.2 (by omega)]
        dsimp only
        rw [Int.toNat_natCast]
        by_cases c : clm (row.getD k ⟨0, 0, 0⟩) = false
        · rw [if_pos c]
        · have c' : clm (row.getD k ⟨0, 0, 0⟩) = true := by simpa using c
          have b := hb k (by omega) q c'
          rw [if_neg c, if_neg (by rw [b.2]; simp), if_neg (by rw [b.1]; simp)]
theorem hldr_inv {row : List Ld} {M : Ml → Prop} {S T : Int → Int} {h : Nat} (H : Inv (row.length : Int) (fr row) M S T (h : Int)) : hldr row = (h : Int) := by
  have := (hst_inv H row.length (Nat.le_refl _)).2 (by have := H.h0; omega)
  unfold hldr
  rw [this]
  simp
theorem snd_inv {row : List Ld} {M : Ml → Prop} {S T : Int → Int} {h : Nat} (H : Inv (row.length : Int) (fr row) M S T (h : Int)) : sndP row := by
  refine ⟨fun i hi => ?_, ?_, fun i hi => ?_⟩
  · have a := H.vld (i := (i : Int)) (by omega) (by omega)
    have b := H.v1 (i : Int) (by omega) (by omega)
    rw [fr_nat] at a b
    exact ⟨a, b.2⟩
  · rw [hldr_inv H]; omega
  · rw [hldr_inv H, Int.toNat_natCast]
    have a := H.mx (i : Int) (by omega) (by omega)
    rw [fr_nat, fr_nat] at a
    refine ⟨a, ?_⟩
    have u := H.un (i : Int) (by omega) (by omega)
    have p2 := H.p2 (i : Int) (by omega) (by omega)
    have ph2 := H.p2 (h : Int) H.h0.1 H.h0.2
    have p4 := H.p4 (i : Int) (by omega) (by omega)
    have c3 := H.c3 (i : Int) (by omega) (by omega)
    have c4 := H.c4 (i : Int) (by omega) (by omega)
    have i4 := H.i4 (i : Int) (by omega) (by omega)
    have i5 := H.i5 (i : Int) (by omega) (by omega)
    have hd : fr row (row.getD i ⟨0, 0, 0⟩).pe = row.getD (row.getD i ⟨0, 0, 0⟩).pe.toNat ⟨0, 0, 0⟩ := rfl
    rw [fr_nat] at u p2 p4 c3 c4 i4 i5
    rw [hd] at c3 c4 i4 i5
    rw [fr_nat] at ph2 i5
    unfold agr
    dsimp only
    by_cases q1 : (row.getD i ⟨0, 0, 0⟩).ph = 1 ∨ (row.getD i ⟨0, 0, 0⟩).ph = 2
    · rw [if_pos q1, decide_eq_true_eq]
      omega
    rw [if_neg q1]
    by_cases q3 : (row.getD i ⟨0, 0, 0⟩).ph = 3
    · rw [if_pos q3]
      have c3 := c3 q3
      have c4 := c4 q3
      split
      · rename_i q
        rw [decide_eq_true_eq]
        by_cases r : (i : Int) = (h : Int)
        · exact Or.inl r
        · exact Or.inr (fun z => c4 r z q)
      · rw [decide_eq_true_eq]; omega
    rw [if_neg q3]
    by_cases q4 : (row.getD i ⟨0, 0, 0⟩).ph = 4
    · rw [if_pos q4]
      have i4 := i4 q4
      split
      · rename_i q
        have i5 := i5 q4 q
        rw [decide_eq_true_eq]
        refine ⟨i5.1, ?_⟩
        have ph2 := ph2 i5.2
        have p4 := p4 q4
        rw [i5.1, Int.toNat_natCast] at q ⊢
        rw [← ph2.2, q]
        exact p4.1
      · rw [decide_eq_true_eq]; omega
    · rw [if_neg q4]
end Go.Proofs.Ytnpabeodakncfaa
