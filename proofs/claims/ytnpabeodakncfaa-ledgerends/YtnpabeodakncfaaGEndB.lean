/- A round in which nothing is lost: what is under way is on its way. -/
import Derived.Test.YtnpabeodakncfaaGEndA
namespace Go.Proofs.Ytnpabeodakncfaa

/-- f0: the ledgers when the round began; Pd: the messages that are still to be heard -/
structure Prg (n : Int) (f0 f : Int → Ld) (Pd : Ml → Prop) : Prop where
  P2 : ∀ i, 0 ≤ i → i < n → (f i).ph = 2 → Pd ⟨3, (f i).ep, i, (f i).pe⟩ ∨ Pd ⟨4, (f i).ep, (f i).pe, i⟩ ∨ (f0 (f i).pe).ph = 3
  P3 : ∀ i, 0 ≤ i → i < n → (f i).ph = 3 → Pd ⟨5, (f i).ep, i, (f i).pe⟩ ∨ Pd ⟨6, (f i).ep, (f i).pe, i⟩
  P4 : ∀ i, 0 ≤ i → i < n → (f i).ph = 4 → Pd ⟨4, (f i).ep, i, (f i).pe⟩ ∨ Pd ⟨5, (f i).ep, (f i).pe, i⟩ ∨ Pd ⟨7, (f i).ep, (f i).pe, i⟩
  K1 : ∀ i, 0 ≤ i → i < n → (f i).ph = 2 → f0 i = f i
  K2 : ∀ i, 0 ≤ i → i < n → (f i).ph = 3 → (f0 i).ph = 3 ∨ (f0 i).ph = 2
/-- only the ledger at t has changed: what is to be shown of it -/
theorem prg_step {n : Int} {f0 f g : Int → Ld} {Pd Pd' : Ml → Prop} (P : Prg n f0 f Pd) {m : Ml} {t : Int} {x : Ld} (gt : g t = x) (gn : ∀ i, i ≠ t → g i = f i) (hq : ∀ m', Pd m' → m' = m ∨ Pd' m')
    (a2 : x.ph = 2 → x = f t) (a3 : x.ph = 3 → x = f t ∨ (Pd' ⟨5, x.ep, t, x.pe⟩ ∧ (f t).ph = 2)) (a4 : x.ph = 4 → x = f t ∨ Pd' ⟨4, x.ep, t, x.pe⟩)
    (b2 : ∀ i, 0 ≤ i → i < n → (f i).ph = 2 → (i = t → x.ph = 2) → m = ⟨3, (f i).ep, i, (f i).pe⟩ → Pd' ⟨4, (f i).ep, (f i).pe, i⟩ ∨ (f0 (f i).pe).ph = 3)
    (c2 : ∀ i, 0 ≤ i → i < n → (f i).ph = 2 → (i = t → x.ph = 2) → m = ⟨4, (f i).ep, (f i).pe, i⟩ → False)
    (b3 : ∀ i, 0 ≤ i → i < n → (f i).ph = 3 → (i = t → x.ph = 3) → m = ⟨5, (f i).ep, i, (f i).pe⟩ → Pd' ⟨6, (f i).ep, (f i).pe, i⟩)
    (c3 : ∀ i, 0 ≤ i → i < n → (f i).ph = 3 → (i = t → x.ph = 3) → m = ⟨6, (f i).ep, (f i).pe, i⟩ → False)
    (b4 : ∀ i, 0 ≤ i → i < n → (f i).ph = 4 → (i = t → x.ph = 4) → m = ⟨4, (f i).ep, i, (f i).pe⟩ → Pd' ⟨5, (f i).ep, (f i).pe, i⟩ ∨ Pd' ⟨7, (f i).ep, (f i).pe, i⟩)
    (c4 : ∀ i, 0 ≤ i → i < n → (f i).ph = 4 → (i = t → x.ph = 4) → m = ⟨5, (f i).ep, (f i).pe, i⟩ → False)
    (d4 : ∀ i, 0 ≤ i → i < n → (f i).ph = 4 → (i = t → x.ph = 4) → m = ⟨7, (f i).ep, (f i).pe, i⟩ → False) : Prg n f0 g Pd' := by
  have z2 : ∀ i, 0 ≤ i → i < n → (f i).ph = 2 → (i = t → x.ph = 2) → Pd' ⟨3, (f i).ep, i, (f i).pe⟩ ∨ Pd' ⟨4, (f i).ep, (f i).pe, i⟩ ∨ (f0 (f i).pe).ph = 3 := by
    intro i i0 i1 hi hx
    rcases P.P2 i i0 i1 hi with q | q | q
    · rcases hq _ q with r | r
      · rcases b2 i i0 i1 hi hx r.symm with u | u
        · exact Or.inr (Or.inl u)
        · exact Or.inr (Or.inr u)
      · exact Or.inl r
    · rcases hq _ q with r | r
      · exact (c2 i i0 i1 hi hx r.symm).elim
      · exact Or.inr (Or.inl r)
    · exact Or.inr (Or.inr q)
  have z3 : ∀ i, 0 ≤ i → i < n → (f i).ph = 3 → (i = t → x.ph = 3) → Pd' ⟨5, (f i).ep, i, (f i).pe⟩ ∨ Pd' ⟨6, (f i).ep, (f i).pe, i⟩ := by
    intro i i0 i1 hi hx
    rcases P.P3 i i0 i1 hi with q | q
    · rcases hq _ q with r | r
      · exact Or.inr (b3 i i0 i1 hi hx r.symm)
      · exact Or.inl r
    · rcases hq _ q with r | r
      · exact (c3 i i0 i1 hi hx r.symm).elim
      · exact Or.inr r
  have z4 : ∀ i, 0 ≤ i → i < n → (f i).ph = 4 → (i = t → x.ph = 4) → Pd' ⟨4, (f i).ep, i, (f i).pe⟩ ∨ Pd' ⟨5, (f i).ep, (f i).pe, i⟩ ∨ Pd' ⟨7, (f i).ep, (f i).pe, i⟩ := by
    intro i i0 i1 hi hx
    rcases P.P4 i i0 i1 hi with q | q | q
    · rcases hq _ q with r | r
      · exact Or.inr (b4 i i0 i1 hi hx r.symm)
      · exact Or.inl r
    · rcases hq _ q with r | r
      · exact (c4 i i0 i1 hi hx r.symm).elim
      · exact Or.inr (Or.inl r)
    · rcases hq _ q with r | r
      · exact (d4 i i0 i1 hi hx r.symm).elim
      · exact Or.inr (Or.inr r)
  refine ⟨fun i i0 i1 hi => ?_, fun i i0 i1 hi => ?_, fun i i0 i1 hi => ?_, fun i i0 i1 hi => ?_, fun i i0 i1 hi => ?_⟩
  · by_cases c : i = t
    · have hx : x.ph = 2 := by rw [← gt, ← c]; exact hi
      have e := a2 hx
      have hg : g i = f i := by rw [c, gt]; exact e
      rw [hg] at hi ⊢
      exact z2 i i0 i1 hi (fun _ => hx)
    · rw [gn i c] at hi ⊢
      exact z2 i i0 i1 hi (fun q => absurd q c)
  · by_cases c : i = t
    · have hx : x.ph = 3 := by rw [← gt, ← c]; exact hi
      rcases a3 hx with e | e
      · have hg : g i = f i := by rw [c, gt]; exact e
        rw [hg] at hi ⊢
        exact z3 i i0 i1 hi (fun _ => hx)
      · left; rw [c, gt]; exact e.1
    · rw [gn i c] at hi ⊢
      exact z3 i i0 i1 hi (fun q => absurd q c)
  · by_cases c : i = t
    · have hx : x.ph = 4 := by rw [← gt, ← c]; exact hi
      rcases a4 hx with e | e
      · have hg : g i = f i := by rw [c, gt]; exact e
        rw [hg] at hi ⊢
        exact z4 i i0 i1 hi (fun _ => hx)
      · left; rw [c, gt]; exact e
    · rw [gn i c] at hi ⊢
      exact z4 i i0 i1 hi (fun q => absurd q c)
  · by_cases c : i = t
    · have hx : x.ph = 2 := by rw [← gt, ← c]; exact hi
      have e := a2 hx
      have hg : g i = f i := by rw [c, gt]; exact e
      rw [hg] at hi ⊢
      exact P.K1 i i0 i1 hi
    · rw [gn i c] at hi ⊢
      exact P.K1 i i0 i1 hi
  · by_cases c : i = t
    · have hx : x.ph = 3 := by rw [← gt, ← c]; exact hi
      rcases a3 hx with e | e
      · have hg : g i = f i := by rw [c, gt]; exact e
        rw [hg] at hi
        exact P.K2 i i0 i1 hi
      · right
        have := P.K1 t (by rw [← c]; exact i0) (by rw [← c]; exact i1) e.2
        rw [c, this]; exact e.2
    · rw [gn i c] at hi
      exact P.K2 i i0 i1 hi
theorem prg_out {n : Int} {f0 f g : Int → Ld} {M : Ml → Prop} {S T : Int → Int} {h : Int} (H : Inv n f M S T h) (X : XX n f) (U : ∀ i j, 0 ≤ i → i < n → 0 ≤ j → j < n → (f0 i).ph = 2 → (f0 j).ph = 2 → i = j) {Pd Pd' : Ml → Prop} (P : Prg n f0 f Pd) {k e fr t : Int} (hm : M ⟨k, e, fr, t⟩) {x : Ld} {y : Int} (hO : Out k e fr t (f t) x y) (gt : g t = x) (gn : ∀ i, i ≠ t → g i = f i)
    (hq : ∀ m', Pd m' → m' = ⟨k, e, fr, t⟩ ∨ Pd' m') (hy : y ≠ 0 → Pd' ⟨y, e, t, fr⟩) : Prg n f0 g Pd' := by
  obtain ⟨t0, t1, f0', f1, hne, k1, k2, e1, e2, w1, w2⟩ := H.way hm
  have hoff : ∀ i, 0 ≤ i → i < n → (f i).ph = 2 → i = h := fun i a b c => Classical.byContradiction fun q => (H.un i a b q).2 c
  rcases hO with ⟨rfl, q | q | q⟩ | ⟨rfl, q | q | q | q⟩ | ⟨rfl, q | q | q | q⟩ | ⟨rfl, q | q⟩ | ⟨rfl, q | q⟩ | ⟨rfl, q | q⟩
  -- an offer that is met already
  · obtain ⟨q1, q2, q3, rfl, rfl⟩ := q
    refine prg_step P (m := ⟨3, e, fr, t⟩) gt gn hq (fun _ => rfl) (fun _ => Or.inl rfl) (fun _ => Or.inl rfl) ?_ ?_ ?_ ?_ ?_ ?_ ?_
    · intro i _ _ _ _ hmm
      simp only [Ml.mk.injEq, true_and] at hmm
      obtain ⟨z1, z2, z3⟩ := hmm
      left; rw [← z1, ← z3, ← z2]; exact hy (by decide)
    all_goals (intro i _ _ _ _ hmm; simp at hmm)
  -- that is taken
  · obtain ⟨-, q1, q2, q3, rfl, rfl⟩ := q
    refine prg_step P (m := ⟨3, e, fr, t⟩) gt gn hq (fun z => by simp at z) (fun z => by simp at z) (fun _ => Or.inr (hy (by decide))) ?_ ?_ ?_ ?_ ?_ ?_ ?_
    · intro i _ _ _ _ hmm
      simp only [Ml.mk.injEq, true_and] at hmm
      obtain ⟨z1, z2, z3⟩ := hmm
      left; rw [← z1, ← z3, ← z2]; exact hy (by decide)
    all_goals (intro i _ _ _ _ hmm; simp at hmm)
  -- that is not heard
  · obtain ⟨q1, q2, rfl, rfl⟩ := q
    refine prg_step P (m := ⟨3, e, fr, t⟩) gt gn hq (fun _ => rfl) (fun _ => Or.inl rfl) (fun _ => Or.inl rfl) ?_ ?_ ?_ ?_ ?_ ?_ ?_
    · intro i i0 i1 hi _ hmm
      simp only [Ml.mk.injEq, true_and] at hmm
      obtain ⟨z1, z2, z3⟩ := hmm
      right
      have a1 := hoff i i0 i1 hi
      have a2 := H.p2 i i0 i1 (Or.inl hi)
      have a3 := H.mx t t0 t1
      have a4 := H.v7 i i0 i1 hi
      have a5 := X i i0 i1 hi
      have a6 := H.un t t0 t1 (by rw [← a1, ← z2]; exact fun z => hne z.symm)
      have a7 := H.v4 t t0 t1
      have a8 := H.v5 t t0 t1
      have a9 := H.p4 t t0 t1
      rw [← z3]
      rw [← z3] at a5 a2
      rw [← z1] at a2 a4 a5
      have hph : (f t).ph = 3 := by
        by_cases c : (f t).ph = 3
        · exact c
        · exfalso
          have c5 : (f t).ph = 0 ∨ (f t).ph = 4 ∨ (f t).ph = 5 := by omega
          have c6 : ¬ (f t).ep < e := fun z => q2 ⟨c5, z, a4⟩
          have c7 : (f t).ph = 4 := by omega
          rw [← a1, ← z1] at a3
          have c8 : (f t).ep = e := by omega
          have c9 := a9 c7
          rw [c8, a2.1] at c9
          exact q1 ⟨c7, c8, by rw [z2]; exact c9.2.symm⟩
      rcases P.K2 t t0 t1 hph with u | u
      · exact u
      · exfalso
        have := U i t i0 i1 t0 t1 (by rw [P.K1 i i0 i1 hi]; exact hi) u
        omega
    all_goals (intro i _ _ _ _ hmm; simp at hmm)
  -- HAVE at the one that offered
  · obtain ⟨q1, q2, q3, rfl, rfl⟩ := q
    refine prg_step P (m := ⟨4, e, fr, t⟩) gt gn hq (fun z => by simp at z) (fun _ => Or.inr ⟨hy (by decide), q1⟩) (fun z => by simp at z) ?_ ?_ ?_ ?_ ?_ ?_ ?_
    · intro i _ _ _ _ hmm; simp at hmm
    · intro i _ _ _ hx hmm
      simp only [Ml.mk.injEq, true_and] at hmm
      have := hx hmm.2.2.symm
      simp at this
    · intro i _ _ _ _ hmm; simp at hmm
    · intro i _ _ _ _ hmm; simp at hmm
    · intro i _ _ _ _ hmm
      simp only [Ml.mk.injEq, true_and] at hmm
      obtain ⟨z1, z2, z3⟩ := hmm
      left; rw [← z1, ← z3, ← z2]; exact hy (by decide)
    · intro i _ _ _ _ hmm; simp at hmm
    · intro i _ _ _ _ hmm; simp at hmm
  -- at one that is committed
  · obtain ⟨q1, q2, q3, rfl, rfl⟩ := q
    refine prg_step P (m := ⟨4, e, fr, t⟩) gt gn hq (fun _ => rfl) (fun _ => Or.inl rfl) (fun _ => Or.inl rfl) ?_ ?_ ?_ ?_ ?_ ?_ ?_
    · intro i _ _ _ _ hmm; simp at hmm
    · intro i _ _ hi _ hmm
      simp only [Ml.mk.injEq, true_and] at hmm
      rw [← hmm.2.2] at hi
      omega
    · intro i _ _ _ _ hmm; simp at hmm
    · intro i _ _ _ _ hmm; simp at hmm
    · intro i _ _ _ _ hmm
      simp only [Ml.mk.injEq, true_and] at hmm
      obtain ⟨z1, z2, z3⟩ := hmm
      left; rw [← z1, ← z3, ← z2]; exact hy (by decide)
    · intro i _ _ _ _ hmm; simp at hmm
    · intro i _ _ _ _ hmm; simp at hmm
  -- at one that has gone on
  · obtain ⟨q1, q2, rfl, rfl⟩ := q
    refine prg_step P (m := ⟨4, e, fr, t⟩) gt gn hq (fun _ => rfl) (fun _ => Or.inl rfl) (fun _ => Or.inl rfl) ?_ ?_ ?_ ?_ ?_ ?_ ?_
    · intro i _ _ _ _ hmm; simp at hmm
    · intro i _ _ hi _ hmm
      simp only [Ml.mk.injEq, true_and] at hmm
      obtain ⟨z1, z2, z3⟩ := hmm
      rw [← z3] at hi z1 z2
      exact q1 ⟨Or.inl hi, z1.symm, z2.symm⟩
    · intro i _ _ _ _ hmm; simp at hmm
    · intro i _ _ _ _ hmm; simp at hmm
    · intro i _ _ _ _ hmm
      simp only [Ml.mk.injEq, true_and] at hmm
      obtain ⟨z1, z2, z3⟩ := hmm
      right; rw [← z1, ← z3, ← z2]; exact hy (by decide)
    · intro i _ _ _ _ hmm; simp at hmm
    · intro i _ _ _ _ hmm; simp at hmm
  -- at one that knows nothing of it
  · obtain ⟨q1, q2, rfl, rfl⟩ := q
    refine prg_step P (m := ⟨4, e, fr, t⟩) gt gn hq (fun _ => rfl) (fun _ => Or.inl rfl) (fun _ => Or.inl rfl) ?_ ?_ ?_ ?_ ?_ ?_ ?_
    · intro i _ _ _ _ hmm; simp at hmm
    · intro i _ _ hi _ hmm
      simp only [Ml.mk.injEq, true_and] at hmm
      obtain ⟨z1, z2, z3⟩ := hmm
      rw [← z3] at hi z1 z2
      exact q1 ⟨Or.inl hi, z1.symm, z2.symm⟩
    · intro i _ _ _ _ hmm; simp at hmm
    · intro i _ _ _ _ hmm; simp at hmm
    · intro i i0 i1 hi _ hmm
      exfalso
      simp only [Ml.mk.injEq, true_and] at hmm
      obtain ⟨z1, z2, z3⟩ := hmm
      have a1 := H.i4 i i0 i1 hi
      have a2 := H.i5 i i0 i1 hi
      have a3 := H.p4 i i0 i1 hi
      rw [← z3, ← z1] at a1
      rw [← z3, ← z1] at a2
      have a4 : (f t).ep = e := by omega
      obtain ⟨a5, a6⟩ := a2 a4
      rw [← a5] at a6
      have a7 := H.p2 t t0 t1 a6
      rw [a4] at a7
      rw [← z1] at a3
      exact q1 ⟨a6, a4, by rw [← a7.2, a3.1]; exact z2.symm⟩
    · intro i _ _ _ _ hmm; simp at hmm
    · intro i _ _ _ _ hmm; simp at hmm
  -- COMMIT at the one that has it
  · obtain ⟨q1, q2, q3, rfl, rfl⟩ := q
    refine prg_step P (m := ⟨5, e, fr, t⟩) gt gn hq (fun z => by simp at z) (fun z => by simp at z) (fun z => by simp at z) ?_ ?_ ?_ ?_ ?_ ?_ ?_
    · intro i _ _ _ _ hmm; simp at hmm
    · intro i _ _ _ _ hmm; simp at hmm
    · intro i _ _ _ _ hmm
      simp only [Ml.mk.injEq, true_and] at hmm
      obtain ⟨z1, z2, z3⟩ := hmm
      rw [← z1, ← z3, ← z2]; exact hy (by decide)
    · intro i _ _ _ _ hmm; simp at hmm
    · intro i _ _ _ _ hmm; simp at hmm
    · intro i _ _ _ hx hmm
      simp only [Ml.mk.injEq, true_and] at hmm
      have := hx hmm.2.2.symm
      simp at this
    · intro i _ _ _ _ hmm; simp at hmm
  -- at one that has another's copy
  · obtain ⟨q1, q2, q3, rfl, rfl⟩ := q
    refine prg_step P (m := ⟨5, e, fr, t⟩) gt gn hq (fun _ => rfl) (fun _ => Or.inl rfl) (fun _ => Or.inl rfl) ?_ ?_ ?_ ?_ ?_ ?_ ?_
    · intro i _ _ _ _ hmm; simp at hmm
    · intro i _ _ _ _ hmm; simp at hmm
    · intro i i0 i1 hi _ hmm
      exfalso
      simp only [Ml.mk.injEq, true_and] at hmm
      obtain ⟨z1, z2, z3⟩ := hmm
      have a1 := H.p4 t t0 t1 q2
      have a2 := H.p2 i i0 i1 (Or.inr hi)
      rw [q3] at a1
      rw [← z1] at a2
      exact q1 ⟨q2, q3, by rw [← a1.2, a2.1]; exact z2.symm⟩
    · intro i _ _ _ _ hmm; simp at hmm
    · intro i _ _ _ _ hmm; simp at hmm
    · intro i _ _ hi _ hmm
      simp only [Ml.mk.injEq, true_and] at hmm
      obtain ⟨z1, z2, z3⟩ := hmm
      rw [← z3] at hi z1 z2
      exact q1 ⟨hi, z1.symm, z2.symm⟩
    · intro i _ _ _ _ hmm; simp at hmm
  -- at one that has had it
  · obtain ⟨q1, q2, rfl, rfl⟩ := q
    refine prg_step P (m := ⟨5, e, fr, t⟩) gt gn hq (fun _ => rfl) (fun _ => Or.inl rfl) (fun _ => Or.inl rfl) ?_ ?_ ?_ ?_ ?_ ?_ ?_
    · intro i _ _ _ _ hmm; simp at hmm
    · intro i _ _ _ _ hmm; simp at hmm
    · intro i _ _ _ _ hmm
      simp only [Ml.mk.injEq, true_and] at hmm
      obtain ⟨z1, z2, z3⟩ := hmm
      rw [← z1, ← z3, ← z2]; exact hy (by decide)
    · intro i _ _ _ _ hmm; simp at hmm
    · intro i _ _ _ _ hmm; simp at hmm
    · intro i _ _ hi _ hmm
      simp only [Ml.mk.injEq, true_and] at hmm
      obtain ⟨z1, z2, z3⟩ := hmm
      rw [← z3] at hi z1 z2
      exact q1 ⟨hi, z1.symm⟩
    · intro i _ _ _ _ hmm; simp at hmm
  -- at one that has not had it
  · obtain ⟨q1, q2, rfl, rfl⟩ := q
    refine prg_step P (m := ⟨5, e, fr, t⟩) gt gn hq (fun _ => rfl) (fun _ => Or.inl rfl) (fun _ => Or.inl rfl) ?_ ?_ ?_ ?_ ?_ ?_ ?_
    · intro i _ _ _ _ hmm; simp at hmm
    · intro i _ _ _ _ hmm; simp at hmm
    · intro i i0 i1 hi _ hmm
      exfalso
      simp only [Ml.mk.injEq, true_and] at hmm
      obtain ⟨z1, z2, z3⟩ := hmm
      have a1 := H.c3 i i0 i1 hi
      rw [← z3, ← z1] at a1
      exact q2 a1
    · intro i _ _ _ _ hmm; simp at hmm
    · intro i _ _ _ _ hmm; simp at hmm
    · intro i _ _ hi _ hmm
      simp only [Ml.mk.injEq, true_and] at hmm
      obtain ⟨z1, z2, z3⟩ := hmm
      rw [← z3] at hi z1 z2
      exact q1 ⟨hi, z1.symm⟩
    · intro i _ _ _ _ hmm; simp at hmm
  -- MINE
  · obtain ⟨q1, q2, q3, rfl, rfl⟩ := q
    refine prg_step P (m := ⟨6, e, fr, t⟩) gt gn hq (fun z => by simp at z) (fun z => by simp at z) (fun z => by simp at z) ?_ ?_ ?_ ?_ ?_ ?_ ?_
    · intro i _ _ _ _ hmm; simp at hmm
    · intro i _ _ _ _ hmm; simp at hmm
    · intro i _ _ _ _ hmm; simp at hmm
    · intro i _ _ _ hx hmm
      simp only [Ml.mk.injEq, true_and] at hmm
      have := hx hmm.2.2.symm
      simp at this
    · intro i _ _ _ _ hmm; simp at hmm
    · intro i _ _ _ _ hmm; simp at hmm
    · intro i _ _ _ _ hmm; simp at hmm
  · obtain ⟨q1, rfl, rfl⟩ := q
    refine prg_step P (m := ⟨6, e, fr, t⟩) gt gn hq (fun _ => rfl) (fun _ => Or.inl rfl) (fun _ => Or.inl rfl) ?_ ?_ ?_ ?_ ?_ ?_ ?_
    · intro i _ _ _ _ hmm; simp at hmm
    · intro i _ _ _ _ hmm; simp at hmm
    · intro i _ _ _ _ hmm; simp at hmm
    · intro i _ _ hi _ hmm
      simp only [Ml.mk.injEq, true_and] at hmm
      obtain ⟨z1, z2, z3⟩ := hmm
      rw [← z3] at hi z1 z2
      exact q1 ⟨hi, z1.symm, z2.symm⟩
    · intro i _ _ _ _ hmm; simp at hmm
    · intro i _ _ _ _ hmm; simp at hmm
    · intro i _ _ _ _ hmm; simp at hmm
  -- CANCEL
  · obtain ⟨q1, q2, q3, rfl, rfl⟩ := q
    refine prg_step P (m := ⟨7, e, fr, t⟩) gt gn hq (fun z => by simp at z) (fun z => by simp at z) (fun z => by simp at z) ?_ ?_ ?_ ?_ ?_ ?_ ?_
    · intro i _ _ _ _ hmm; simp at hmm
    · intro i _ _ _ _ hmm; simp at hmm
    · intro i _ _ _ _ hmm; simp at hmm
    · intro i _ _ _ _ hmm; simp at hmm
    · intro i _ _ _ _ hmm; simp at hmm
    · intro i _ _ _ _ hmm; simp at hmm
    · intro i _ _ _ hx hmm
      simp only [Ml.mk.injEq, true_and] at hmm
      have := hx hmm.2.2.symm
      simp at this
  · obtain ⟨q1, rfl, rfl⟩ := q
    refine prg_step P (m := ⟨7, e, fr, t⟩) gt gn hq (fun _ => rfl) (fun _ => Or.inl rfl) (fun _ => Or.inl rfl) ?_ ?_ ?_ ?_ ?_ ?_ ?_
    · intro i _ _ _ _ hmm; simp at hmm
    · intro i _ _ _ _ hmm; simp at hmm
    · intro i _ _ _ _ hmm; simp at hmm
    · intro i _ _ _ _ hmm; simp at hmm
    · intro i _ _ _ _ hmm; simp at hmm
    · intro i _ _ _ _ hmm; simp at hmm
    · intro i _ _ hi _ hmm
      simp only [Ml.mk.injEq, true_and] at hmm
      obtain ⟨z1, z2, z3⟩ := hmm
      rw [← z3] at hi z1 z2
      exact q1 ⟨hi, z1.symm, z2.symm⟩
  -- FULL
  · obtain ⟨q1, q2, q3, rfl, rfl⟩ := q
    refine prg_step P (m := ⟨8, e, fr, t⟩) gt gn hq (fun z => by simp at z) (fun z => by simp at z) (fun z => by simp at z) ?_ ?_ ?_ ?_ ?_ ?_ ?_
    all_goals (intro i _ _ _ _ hmm; simp at hmm)
  · obtain ⟨q1, rfl, rfl⟩ := q
    refine prg_step P (m := ⟨8, e, fr, t⟩) gt gn hq (fun _ => rfl) (fun _ => Or.inl rfl) (fun _ => Or.inl rfl) ?_ ?_ ?_ ?_ ?_ ?_ ?_
    all_goals (intro i _ _ _ _ hmm; simp at hmm)
end Go.Proofs.Ytnpabeodakncfaa
