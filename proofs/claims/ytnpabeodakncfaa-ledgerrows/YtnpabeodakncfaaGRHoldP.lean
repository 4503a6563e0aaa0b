/- The document's Holder, in plain words: its answer is hldr. -/
import Derived.Test.YtnpabeodakncfaaGHold
namespace Go.Proofs.Ytnpabeodakncfaa
open Go.RowKit

abbrev rg (row : List Ld) (i : Nat) : Ld := row.getD i ⟨0, 0, 0⟩
/-- may it hold the shard, with the greatest epoch g, and o: is one Owned with it? -/
def cand (row : List Ld) (g : Int) (o : Bool) (i : Nat) : Prop := clm (rg row i) = true ∧ (rg row i).ep = g ∧ (o = true → (rg row i).ph = 1)
def gOk (row : List Ld) (g : Int) (k : Nat) : Prop := (∀ i, i < k → clm (rg row i) = true → (rg row i).ep ≤ g) ∧ (g = -9223372036854775808 ∨ ∃ i, i < k ∧ clm (rg row i) = true ∧ (rg row i).ep = g)
def oOk (row : List Ld) (g : Int) (o : Bool) (k : Nat) : Prop := o = true ↔ ∃ i, i < k ∧ (rg row i).ph = 1 ∧ (rg row i).ep = g
def RH (row : List Ld) (g : Int) (o : Bool) (r : Int) : Prop :=
  (r = -1 ∧ ∀ i, i < row.length → cand row g o i → ∃ j, j < row.length ∧ j ≠ i ∧ cand row g o j) ∨ (∃ i : Nat, i < row.length ∧ r = (i : Int) ∧ cand row g o i ∧ ∀ j, j < row.length → cand row g o j → j = i)
/-- the rank of a claim -/
def rk (l : Ld) : Int := 2 * l.ep + if l.ph = 1 then 1 else 0
theorem otr_rk (a b : Ld) : otr a b = decide (rk b < rk a) := by
  unfold otr rk
  rw [decide_eq_decide]
  by_cases h1 : a.ph = 1 <;> by_cases h2 : b.ph = 1 <;> simp only [h1, h2, if_true, if_false] <;> simp <;> omega
theorem clm_one {l : Ld} (h : l.ph = 1) : clm l = true := by unfold clm; simp [h]
def HJ (row : List Ld) (k : Nat) : Prop :=
  (hst row k = (-1, false) ∧ ∀ i, i < k → clm (rg row i) = false) ∨ ∃ m sv, m < k ∧ hst row k = ((m : Int), sv) ∧ clm (rg row m) = true ∧ (∀ i, i < k → clm (rg row i) = true → rk (rg row i) ≤ rk (rg row m)) ∧ (sv = true ↔ ∃ j, j < k ∧ j ≠ m ∧ clm (rg row j) = true ∧ rk (rg row j) = rk (rg row m))
theorem hj_all (row : List Ld) : ∀ k, HJ row k
  | 0 => Or.inl ⟨rfl, fun i h => absurd h (Nat.not_lt_zero _)⟩
  | k + 1 => by
    have ih := hj_all row k
    by_cases c : clm (rg row k) = true
    · right
      rcases ih with ⟨h1, h2⟩ | ⟨m, sv, h1, h2, h3, h4, h5⟩
      · refine ⟨k, false, by omega, ?_, c, fun i hi ci => ?_, ?_⟩
        · simp only [hst, hstep, h1]
          rw [if_neg (by rw [c]; simp), if_pos (Or.inl (by omega))]
        · by_cases q : i = k
          · subst q; omega
          · rw [h2 i (by omega)] at ci; cases ci
        · constructor
          · intro h; cases h
          · rintro ⟨j, j1, j2, j3, -⟩
            rw [h2 j (by omega)] at j3; cases j3
      · have hs : hst row (k + 1) = hstep row ((m : Int), sv) k (rg row k) := by rw [← h2]; rfl
        simp only [hstep, Int.toNat_natCast, otr_rk] at hs
        rw [if_neg (by rw [c]; simp)] at hs
        rcases Int.lt_trichotomy (rk (rg row m)) (rk (rg row k)) with q | q | q
        · rw [if_pos (Or.inr (by simpa using q))] at hs
          refine ⟨k, false, by omega, hs, c, fun i hi ci => ?_, ?_⟩
          · by_cases e : i = k
            · subst e; omega
            · have := h4 i (by omega) ci; omega
          · constructor
            · intro h; cases h
            · rintro ⟨j, j1, j2, j3, j4⟩
              have := h4 j (by omega) j3; omega
        · have n1 : ¬((m : Int) < 0 ∨ decide (rk (row.getD m ⟨0, 0, 0⟩) < rk (rg row k)) = true) := by
            rintro (h | h)
            · omega
            · have := of_decide_eq_true h
              have q' : rk (row.getD m ⟨0, 0, 0⟩) = rk (rg row k) := q
              omega
          rw [if_neg n1, if_pos (by
            have q' : rk (row.getD m ⟨0, 0, 0⟩) = rk (rg row k) := q
            rw [q']; simp)] at hs
          refine ⟨m, true, by omega, hs, h3, fun i hi ci => ?_, ?_⟩
          · by_cases e : i = k
            · subst e; omega
            · exact h4 i (by omega) ci
          · constructor
            · intro _
              exact ⟨k, by omega, by omega, c, q.symm⟩
            · intro _; rfl
        · have q' : rk (rg row k) < rk (row.getD m ⟨0, 0, 0⟩) := q
          have n1 : ¬((m : Int) < 0 ∨ decide (rk (row.getD m ⟨0, 0, 0⟩) < rk (rg row k)) = true) := by
            rintro (h | h)
            · omega
            · have := of_decide_eq_true h
              omega
          rw [if_neg n1, if_neg (by rw [decide_eq_true q']; simp)] at hs
          refine ⟨m, sv, by omega, hs, h3, fun i hi ci => ?_, ?_⟩
          · by_cases e : i = k
            · subst e; omega
            · exact h4 i (by omega) ci
          · rw [h5]
            constructor
            · rintro ⟨j, j1, j2⟩
              exact ⟨j, by omega, j2⟩
            · rintro ⟨j, j1, j2, j3, j4⟩
              have : j ≠ k := by intro e; subst e; omega
              exact ⟨j, by omega, j2, j3, j4⟩
    · have c' : clm (rg row k) = false := by simpa using c
      have hs : hst row (k + 1) = hst row k := by
        show hstep row (hst row k) k (rg row k) = _
        unfold hstep
        rw [if_pos c']
      rcases ih with ⟨h1, h2⟩ | ⟨m, sv, h1, h2, h3, h4, h5⟩
      · refine Or.inl ⟨hs.trans h1, fun i hi => ?_⟩
        by_cases e : i = k
        · subst e; exact c'
        · exact h2 i (by omega)
      · refine Or.inr ⟨m, sv, by omega, hs.trans h2, h3, fun i hi ci => ?_, ?_⟩
        · by_cases e : i = k
          · subst e; exact absurd ci c
          · exact h4 i (by omega) ci
        · rw [h5]
          constructor
          · rintro ⟨j, j1, j2⟩
            exact ⟨j, by omega, j2⟩
          · rintro ⟨j, j1, j2, j3, j4⟩
            have : j ≠ k := by intro e; subst e; exact c j3
            exact ⟨j, by omega, j2, j3, j4⟩
theorem rh_hldr {row : List Ld} (hb : ∀ i, i < row.length → -9223372036854775808 ≤ (rg row i).ep) {g : Int} {o : Bool} {r : Int} (hg : gOk row g row.length) (ho : oOk row g o row.length) (hr : RH row g o r) : r = hldr row := by
  rcases hj_all row row.length with ⟨h1, h2⟩ | ⟨m, sv, h1, h2, h3, h4, h5⟩
  · have e : hldr row = -1 := by unfold hldr; rw [h1]; rfl
    rw [e]
    rcases hr with ⟨q, -⟩ | ⟨i, i1, -, i2, -⟩
    · exact q
    · rw [cand, h2 i i1] at i2; cases i2.1
  · obtain ⟨g1, g2⟩ := hg
    unfold oOk at ho
    have top : ∀ i, i < row.length → clm (rg row i) = true → (rg row i).ep ≤ (rg row m).ep := fun i hi ci => by
      have := h4 i hi ci
      unfold rk at this
      split at this <;> split at this <;> omega
    have eg : g = (rg row m).ep := by
      have a := g1 m h1 h3
      rcases g2 with q | ⟨i, i1, i2, i3⟩
      · have := hb m h1; omega
      · have := top i i1 i2; omega
    have om : o = true ↔ (rg row m).ph = 1 := by
      rw [ho]
      constructor
      · rintro ⟨j, j1, j2, j3⟩
        have := h4 j j1 (clm_one j2)
        unfold rk at this
        rw [if_pos j2] at this
        split at this
        · assumption
        · omega
      · intro h
        exact ⟨m, h1, h, eg.symm⟩
    have ci : ∀ i, i < row.length → (cand row g o i ↔ clm (rg row i) = true ∧ rk (rg row i) = rk (rg row m)) := fun i hi => by
      unfold cand rk
      constructor
      · rintro ⟨a, b, c⟩
        refine ⟨a, ?_⟩
        by_cases q : (rg row m).ph = 1
        · rw [if_pos q, if_pos (c (om.2 q))]; omega
        · rw [if_neg q, if_neg (fun z => q (om.1 (ho.2 ⟨i, hi, z, b⟩)))]; omega
      · rintro ⟨a, b⟩
        refine ⟨a, ?_, fun z => ?_⟩
        · split at b <;> split at b <;> omega
        · rw [if_pos (om.1 z)] at b
          split at b
          · assumption
          · omega
    have cm := (ci m h1).2 ⟨h3, rfl⟩
    have e : hldr row = if sv = true then -1 else (m : Int) := by unfold hldr; rw [h2]
    rw [e]
    rcases hr with ⟨q, q2⟩ | ⟨i, i1, i2, i3, i4⟩
    · obtain ⟨j, j1, j2, j3⟩ := q2 m h1 cm
      have j4 := (ci j j1).1 j3
      rw [if_pos (h5.2 ⟨j, j1, j2, j4⟩)]
      exact q
    · have := i4 m h1 cm
      subst this
      rw [if_neg]
      · exact i2
      · intro z
        obtain ⟨j, j1, j2, j3⟩ := h5.1 z
        exact j2 (i4 j j1 ((ci j j1).2 j3))
end Go.Proofs.Ytnpabeodakncfaa
