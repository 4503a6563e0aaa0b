/- A round in lists: it ends, and nothing is left that was under way. -/
import Derived.Test.YtnpabeodakncfaaGEndB
import Derived.Test.YtnpabeodakncfaaGInv3
import Derived.Test.YtnpabeodakncfaaGRound
namespace Go.Proofs.Ytnpabeodakncfaa

def PdL (sent : List Ml) (q : Nat) (m : Ml) : Prop := ∃ j, q ≤ j ∧ sent[j]? = some m
def wt (m : Ml) : Nat := if m.kind = 3 then 4 else if m.kind = 4 then 3 else if m.kind = 5 then 2 else 1
def wsum : List Ml → Nat
  | [] => 0
  | m :: l => wt m + wsum l
theorem wsum_app (a b : List Ml) : wsum (a ++ b) = wsum a + wsum b := by
  induction a with
  | nil => simp [wsum]
  | cons x r ih => rw [List.cons_append, wsum, wsum, ih]; omega
theorem wt_le (m : Ml) : wt m ≤ 4 := by unfold wt; split; omega; split; omega; split <;> omega
theorem wt_pos (m : Ml) : 1 ≤ wt m := by unfold wt; split; omega; split; omega; split <;> omega
def XL (row : List Ld) : Prop := XX (row.length : Int) (fr row)
theorem Prg.congr {n : Int} {f0 f g : Int → Ld} {Pd : Ml → Prop} (P : Prg n f0 f Pd) (hg : ∀ i, 0 ≤ i → i < n → g i = f i) : Prg n f0 g Pd :=
  ⟨fun i a b h => by rw [hg i a b] at h ⊢; exact P.P2 i a b h, fun i a b h => by rw [hg i a b] at h ⊢; exact P.P3 i a b h, fun i a b h => by rw [hg i a b] at h ⊢; exact P.P4 i a b h, fun i a b h => by rw [hg i a b] at h ⊢; exact P.K1 i a b h, fun i a b h => by rw [hg i a b] at h; exact P.K2 i a b h⟩
theorem XX.congr {n : Int} {f g : Int → Ld} (X : XX n f) (hv : ∀ i, 0 ≤ i → i < n → 0 ≤ (g i).pe ∧ (g i).pe < n) (hg : ∀ i, 0 ≤ i → i < n → g i = f i) : XX n g := fun i a b h => by
  have hp := hv i a b
  rw [hg _ hp.1 hp.2, hg i a b] at *
  exact X i a b h
theorem ans_false (r : Int × Int) : ans false r = r := by unfold ans; rw [if_neg (by simp)]
theorem xL_hear {row : List Ld} {sent : List Ml} (HL : InvL row sent) (X : XL row) {m : Ml} (hm : m ∈ sent) {t : Nat} (ht : m.to = (t : Int)) (htl : t < row.length) (full : Bool) {R Y : Int} (hans : ans full (her (t : Int) (row.getD t ⟨0, 0, 0⟩) m.kind m.ep m.fr) = (R, Y)) :
    XL (rowH row t R m.ep m.fr) := by
  have HL2 := invL_hear HL hm ht htl full hans
  by_cases hR : R = 0
  · unfold rowH; rw [if_pos hR]; exact X
  · obtain ⟨S, T, h, H⟩ := HL
    obtain ⟨k, e, f, tt⟩ := m
    dsimp only at *
    subst ht
    have hh : her (t : Int) (row.getD t ⟨0, 0, 0⟩) k e f = (R, Y) := by
      unfold ans at hans
      by_cases c : (her (t : Int) (row.getD t ⟨0, 0, 0⟩) k e f).1 = 4 ∧ full = true
      · rw [if_pos c] at hans; cases hans; exact absurd rfl hR
      · rw [if_neg c] at hans; exact hans
    obtain ⟨t0, t1, f0, f1, hne, k1, k2, -⟩ := H.way hm
    have hn8 := H.n1
    have hv := H.vld (i := (t : Int)) t0 t1
    rw [fr_nat] at hv
    have hO := out_her (k := k) (e := e) (f := f) hv (by simp only [oth, decide_eq_true_eq]; omega) ⟨k1, k2⟩ hh
    rw [if_neg hR] at hO
    rw [← fr_nat] at hO
    have hX := xx_out (g := fun i => if i = (t : Int) then stp (t : Int) (fr row (t : Int)) R e f else fr row i) H X hm hO (by rw [if_pos rfl]) (fun i hi => by rw [if_neg hi])
    unfold rowH at HL2 ⊢
    rw [if_neg hR] at HL2 ⊢
    obtain ⟨S2, T2, h2, H2⟩ := HL2
    unfold XL
    have hv1 := H2.v1
    rw [List.length_set] at hv1 ⊢
    rw [fr_nat] at hX
    exact hX.congr hv1 (fr_set row htl _)
theorem step_list {f0 : Int → Ld} {row : List Ld} {sent : List Ml} {q : Nat} (HL : InvL row sent) (X : XL row) (U : ∀ i j, 0 ≤ i → i < (row.length : Int) → 0 ≤ j → j < (row.length : Int) → (f0 i).ph = 2 → (f0 j).ph = 2 → i = j) (P : Prg (row.length : Int) f0 (fr row) (PdL sent q)) (hq : q < sent.length) :
    ∃ R' T', HearS row R' sent T' q ∧ InvL R' T' ∧ XL R' ∧ R'.length = row.length ∧ Prg (row.length : Int) f0 (fr R') (PdL T' (q + 1)) ∧ wsum (T'.drop (q + 1)) + 1 ≤ wsum (sent.drop q) ∧ T'.length ≤ sent.length + 1 ∧ sent.length ≤ T'.length := by
  obtain ⟨m, hmq⟩ : ∃ m, sent[q]? = some m := ⟨_, List.getElem?_eq_getElem hq⟩
  have hm := List.mem_of_getElem? hmq
  obtain ⟨t, ht, htl⟩ := HL.mail hm
  obtain ⟨k, e, f, tt⟩ := m
  dsimp only at ht
  subst ht
  obtain ⟨Z, Y, hh⟩ : ∃ Z Y, her (t : Int) (row.getD t ⟨0, 0, 0⟩) k e f = (Z, Y) := ⟨_, _, rfl⟩
  have hans : ans false (her (t : Int) (row.getD t ⟨0, 0, 0⟩) k e f) = (Z, Y) := by rw [ans_false]; exact hh
  have HL2 := invL_hear HL (m := ⟨k, e, f, (t : Int)⟩) hm rfl htl false hans
  have X2 := xL_hear HL X (m := ⟨k, e, f, (t : Int)⟩) hm rfl htl false hans
  dsimp only at HL2 X2
  refine ⟨_, _, ⟨k, e, f, t, Z, Y, hmq, htl, hans, rfl, rfl⟩, HL2, X2, rowH_len _ _ _ _ _, ?_, ?_, sentH_len _ _ _ _ _, ?_⟩
  · obtain ⟨S, T, h, H⟩ := HL
    obtain ⟨t0, t1, f0', f1, hne, k1, k2, -⟩ := H.way hm
    have hn8 := H.n1
    have hv := H.vld (i := (t : Int)) t0 t1
    rw [fr_nat] at hv
    have hO := out_her (k := k) (e := e) (f := f) hv (by simp only [oth, decide_eq_true_eq]; omega) ⟨k1, k2⟩ hh
    have hP := prg_out (g := fun i => if i = (t : Int) then (if Z = 0 then row.getD t ⟨0, 0, 0⟩ else stp (t : Int) (row.getD t ⟨0, 0, 0⟩) Z e f) else fr row i) (Pd' := PdL (sentH sent t Y e f) (q + 1)) H X U P hm (by rw [fr_nat]; exact hO) (by rw [if_pos rfl]) (fun i hi => by rw [if_neg hi]) ?_ ?_
    · refine hP.congr (fun i i0 i1 => ?_)
      unfold rowH
      by_cases z : Z = 0
      · simp only [if_pos z]
        by_cases c : i = (t : Int)
        · rw [if_pos c, c, fr_nat]
        · rw [if_neg c]
      · simp only [if_neg z]
        exact fr_set row htl _ i i0 i1
    · rintro m' ⟨j, j1, j2⟩
      by_cases c : j = q
      · left; rw [c, hmq] at j2; cases j2; rfl
      · right
        refine ⟨j, by omega, ?_⟩
        unfold sentH
        split
        · exact j2
        · rw [List.getElem?_append_left (List.getElem?_eq_some_iff.1 j2).1]; exact j2
    · intro hy
      refine ⟨sent.length, by omega, ?_⟩
      unfold sentH
      rw [if_neg hy, List.getElem?_append_right (Nat.le_refl _), Nat.sub_self]
      rfl
  · have hd : sent.drop q = ⟨k, e, f, (t : Int)⟩ :: sent.drop (q + 1) := by
      rw [List.getElem?_eq_getElem hq, Option.some.injEq] at hmq
      rw [List.drop_eq_getElem_cons hq, hmq]
    rw [hd, wsum]
    unfold sentH
    by_cases hy : Y = 0
    · rw [if_pos hy]
      have := wt_pos ⟨k, e, f, (t : Int)⟩
      omega
    · rw [if_neg hy, List.drop_append_of_le_length (by omega), wsum_app]
      obtain ⟨S, T, h, H⟩ := HL
      obtain ⟨t0, t1, f0', f1, hne, k1, k2, -⟩ := H.way hm
      have hn8 := H.n1
      have hv := H.vld (i := (t : Int)) t0 t1
      rw [fr_nat] at hv
      have hO := out_her (k := k) (e := e) (f := f) hv (by simp only [oth, decide_eq_true_eq]; omega) ⟨k1, k2⟩ hh
      have hw : wt ⟨Y, e, (t : Int), f⟩ + 1 ≤ wt ⟨k, e, f, (t : Int)⟩ := by
        rcases hO with ⟨rfl, u | u | u⟩ | ⟨rfl, u | u | u | u⟩ | ⟨rfl, u | u | u | u⟩ | ⟨rfl, u | u⟩ | ⟨rfl, u | u⟩ | ⟨rfl, u | u⟩
        · rw [u.2.2.2.2]; simp [wt]
        · rw [u.2.2.2.2.2]; simp [wt]
        · exact absurd u.2.2.2 hy
        · rw [u.2.2.2.2]; simp [wt]
        · rw [u.2.2.2.2]; simp [wt]
        · rw [u.2.2.2]; simp [wt]
        · exact absurd u.2.2.2 hy
        · rw [u.2.2.2.2]; simp [wt]
        · exact absurd u.2.2.2.2 hy
        · rw [u.2.2.2]; simp [wt]
        · exact absurd u.2.2.2 hy
        · exact absurd u.2.2.2.2 hy
        · exact absurd u.2.2 hy
        · exact absurd u.2.2.2.2 hy
        · exact absurd u.2.2 hy
        · exact absurd u.2.2.2.2 hy
        · exact absurd u.2.2 hy
      simp only [wsum]
      omega
  · unfold sentH
    split
    · exact Nat.le_refl _
    · simp
/-- All that is said is heard in the end. -/
theorem run_list {f0 : Int → Ld} : ∀ (F : Nat) {row : List Ld} {sent : List Ml} {q : Nat} (_ : InvL row sent) (_ : XL row) (_ : ∀ i j, 0 ≤ i → i < (row.length : Int) → 0 ≤ j → j < (row.length : Int) → (f0 i).ph = 2 → (f0 j).ph = 2 → i = j) (_ : Prg (row.length : Int) f0 (fr row) (PdL sent q)) (_ : q ≤ sent.length) (_ : wsum (sent.drop q) ≤ F),
    ∃ (N : Nat) (R : Nat → List Ld) (T : Nat → List Ml), N ≤ F ∧ R 0 = row ∧ T 0 = sent ∧ (∀ s, s < N → q + s < (T s).length) ∧ (T N).length = q + N ∧ (∀ s, s < N → HearS (R s) (R (s + 1)) (T s) (T (s + 1)) (q + s)) ∧ (∀ s, s ≤ N → (T s).length ≤ sent.length + s) ∧ InvL (R N) (T N) ∧ XL (R N) ∧ (R N).length = row.length ∧ Prg (row.length : Int) f0 (fr (R N)) (PdL (T N) (q + N)) := by
  intro F
  induction F with
  | zero =>
    intro row sent q HL X U P hq hw
    have h0 : q = sent.length := by
      rcases Nat.lt_or_ge q sent.length with c | c
      · rw [List.drop_eq_getElem_cons c, wsum] at hw
        have := wt_pos sent[q]
        omega
      · omega
    exact ⟨0, fun _ => row, fun _ => sent, Nat.le_refl _, rfl, rfl, fun s hs => by omega, by simp [h0], fun s hs => by omega, fun s hs => by simp, HL, X, rfl, P⟩
  | succ F ih =>
    intro row sent q HL X U P hq hw
    rcases Nat.lt_or_ge q sent.length with c | c
    · obtain ⟨R', T', h1, h2, h3, h4, h5, h6, h7, h8⟩ := step_list HL X U P c
      rw [← h4] at U h5
      obtain ⟨N, R, T, g1, g2, g3, g4, g5, g6, g7, g8, g9, g10, g11⟩ := ih h2 h3 U h5 (by omega) (by omega)
      refine ⟨N + 1, fun s => match s with | 0 => row | s + 1 => R s, fun s => match s with | 0 => sent | s + 1 => T s, by omega, rfl, rfl, ?_, ?_, ?_, ?_, g8, g9, by rw [← h4]; exact g10, ?_⟩
      · intro s hs
        cases s with
        | zero => simpa using c
        | succ s => have := g4 s (by omega); show q + (s + 1) < (T s).length; omega
      · show (T N).length = q + (N + 1); omega
      · intro s hs
        cases s with
        | zero =>
          show HearS row (R 0) sent (T 0) (q + 0)
          rw [g2, g3]; exact h1
        | succ s =>
          have := g6 s (by omega)
          show HearS (R s) (R (s + 1)) (T s) (T (s + 1)) (q + (s + 1))
          rw [show q + (s + 1) = q + 1 + s by omega]; exact this
      · intro s hs
        cases s with
        | zero => show sent.length ≤ _; omega
        | succ s => have := g7 s (by omega); show (T s).length ≤ _; omega
      · rw [← h4]
        show Prg _ f0 (fr (R N)) (PdL (T N) (q + (N + 1)))
        rw [show q + (N + 1) = q + 1 + N by omega]; exact g11
    · have h0 : q = sent.length := by omega
      exact ⟨0, fun _ => row, fun _ => sent, by omega, rfl, rfl, fun s hs => by omega, by simp [h0], fun s hs => by omega, fun s hs => by simp, HL, X, rfl, P⟩
theorem nagL_inv {row : List Ld} {sent : List Ml} (HL : InvL row sent) : ∀ k, k ≤ row.length → InvL row (nagL row sent k)
  | 0, _ => HL
  | k + 1, hk => by unfold nagL; exact invL_nag (nagL_inv HL k (by omega)) (by omega)
theorem nagL_app (row : List Ld) (sent : List Ml) : ∀ k, ∃ l, nagL row sent k = sent ++ l ∧ wsum l ≤ 4 * k
  | 0 => ⟨[], by simp [nagL], by simp [wsum]⟩
  | k + 1 => by
    obtain ⟨l, h1, h2⟩ := nagL_app row sent k
    unfold nagL
    rw [h1]
    split
    · exact ⟨l, rfl, by omega⟩
    · refine ⟨l ++ [_], by rw [List.append_assoc], ?_⟩
      rw [wsum_app]
      have := wt_le ⟨nag (row.getD k ⟨0, 0, 0⟩), (row.getD k ⟨0, 0, 0⟩).ep, (k : Int), (row.getD k ⟨0, 0, 0⟩).pe⟩
      simp only [wsum]
      omega
theorem nagL_mem (row : List Ld) (sent : List Ml) : ∀ k i, i < k → nag (row.getD i ⟨0, 0, 0⟩) ≠ 0 → PdL (nagL row sent k) sent.length ⟨nag (row.getD i ⟨0, 0, 0⟩), (row.getD i ⟨0, 0, 0⟩).ep, (i : Int), (row.getD i ⟨0, 0, 0⟩).pe⟩
  | 0, i, hi, _ => by omega
  | k + 1, i, hi, hn => by
    unfold nagL
    by_cases c : i = k
    · subst c
      rw [if_neg hn]
      refine ⟨(nagL row sent i).length, ?_, by rw [List.getElem?_append_right (Nat.le_refl _), Nat.sub_self]; rfl⟩
      obtain ⟨l, h1, -⟩ := nagL_app row sent i
      rw [h1]; simp
    · obtain ⟨j, j1, j2⟩ := nagL_mem row sent k i (by omega) hn
      split
      · exact ⟨j, j1, j2⟩
      · exact ⟨j, j1, by rw [List.getElem?_append_left (List.getElem?_eq_some_iff.1 j2).1]; exact j2⟩
/-- A round: what it makes, and that nothing that is half done stays but offers to those who had not ended. -/
theorem round_list {row : List Ld} {sent : List Ml} (HL : InvL row sent) (X : XL row) :
    ∃ (N : Nat) (R : Nat → List Ld) (T : Nat → List Ml), N ≤ 32 ∧ R 0 = row ∧ T 0 = nagL row sent row.length ∧ (∀ s, s < N → sent.length + s < (T s).length) ∧ (T N).length = sent.length + N ∧ (∀ s, s < N → HearS (R s) (R (s + 1)) (T s) (T (s + 1)) (sent.length + s)) ∧ (∀ s, s ≤ N → (T s).length ≤ sent.length + 40) ∧ InvL (R N) (T N) ∧ XL (R N) ∧ (R N).length = row.length ∧
      (∀ i, i < row.length → ((R N).getD i ⟨0, 0, 0⟩).ph ≠ 3 ∧ ((R N).getD i ⟨0, 0, 0⟩).ph ≠ 4) ∧ ((∀ i, i < row.length → (row.getD i ⟨0, 0, 0⟩).ph ≠ 3) → ∀ i, i < row.length → ((R N).getD i ⟨0, 0, 0⟩).ph ≠ 2) := by
  have h8 : 1 ≤ (row.length : Int) ∧ (row.length : Int) ≤ 8 := by obtain ⟨S, T, h, H⟩ := HL; exact H.n1
  have HL0 := nagL_inv HL row.length (Nat.le_refl _)
  obtain ⟨l, hl1, hl2⟩ := nagL_app row sent row.length
  have U : ∀ i j, 0 ≤ i → i < (row.length : Int) → 0 ≤ j → j < (row.length : Int) → (fr row i).ph = 2 → (fr row j).ph = 2 → i = j := by
    obtain ⟨S, T, h, H⟩ := HL
    intro i j i0 i1 j0 j1 a b
    have c1 : i = h := Classical.byContradiction fun q => (H.un i i0 i1 q).2 a
    have c2 : j = h := Classical.byContradiction fun q => (H.un j j0 j1 q).2 b
    rw [c1, c2]
  have hmem : ∀ (i : Int) (v : Int), 0 ≤ i → i < (row.length : Int) → nag (fr row i) = v → v ≠ 0 → PdL (nagL row sent row.length) sent.length ⟨v, (fr row i).ep, i, (fr row i).pe⟩ := by
    intro i v i0 i1 hv hn
    obtain ⟨j, rfl⟩ : ∃ j : Nat, i = (j : Int) := ⟨i.toNat, by omega⟩
    rw [fr_nat] at hv ⊢
    have := nagL_mem row sent row.length j (by omega) (by rw [hv]; exact hn)
    rw [hv] at this
    exact this
  have P : Prg (row.length : Int) (fr row) (fr row) (PdL (nagL row sent row.length) sent.length) := by
    refine ⟨fun i a b h => Or.inl (hmem i 3 a b (by simp [nag, h]) (by decide)), fun i a b h => Or.inl (hmem i 5 a b (by simp [nag, h]) (by decide)), fun i a b h => Or.inl (hmem i 4 a b (by simp [nag, h]) (by decide)), fun i _ _ _ => rfl, fun i _ _ h => Or.inl h⟩
  have hdrop : (nagL row sent row.length).drop sent.length = l := by rw [hl1, List.drop_left]
  obtain ⟨N, R, T, g1, g2, g3, g4, g5, g6, g7, g8, g9, g10, g11⟩ := run_list 32 HL0 X U P (by rw [hl1]; simp) (by rw [hdrop]; omega)
  have hno : ∀ m, ¬ PdL (T N) (sent.length + N) m := by
    rintro m ⟨j, j1, j2⟩
    have := (List.getElem?_eq_some_iff.1 j2).1
    omega
  have hll := nagL_len row sent row.length
  refine ⟨N, R, T, g1, g2, g3, g4, g5, g6, fun s hs => by have := g7 s hs; omega, g8, g9, g10, fun i hi => ⟨fun q => ?_, fun q => ?_⟩, fun hz i hi q => ?_⟩
  · rcases g11.P3 (i : Int) (by omega) (by omega) (by rw [fr_nat]; exact q) with u | u
    · exact hno _ u
    · exact hno _ u
  · rcases g11.P4 (i : Int) (by omega) (by omega) (by rw [fr_nat]; exact q) with u | u | u
    · exact hno _ u
    · exact hno _ u
    · exact hno _ u
  · rcases g11.P2 (i : Int) (by omega) (by omega) (by rw [fr_nat]; exact q) with u | u | u
    · exact hno _ u
    · exact hno _ u
    · obtain ⟨S, T', h, H⟩ := g8
      have hv := H.v1 (i : Int) (by omega) (by omega)
      rw [g10] at hv
      obtain ⟨j, hj⟩ : ∃ j : Nat, (fr (R N) (i : Int)).pe = (j : Int) := ⟨(fr (R N) (i : Int)).pe.toNat, by omega⟩
      rw [hj, fr_nat] at u
      exact hz j (by omega) u
end Go.Proofs.Ytnpabeodakncfaa
