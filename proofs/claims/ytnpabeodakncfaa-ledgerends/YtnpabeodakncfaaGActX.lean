/- act, and the target of a standing offer. -/
import Derived.Test.YtnpabeodakncfaaGActA
import Derived.Test.YtnpabeodakncfaaGEndC
import Derived.Test.YtnpabeodakncfaaGBegan
namespace Go.Proofs.Ytnpabeodakncfaa
open Go.RowKit

theorem xL_offer {row : List Ld} {sent : List Ml} (HL : InvL row sent) (X : XL row) {who peer : Nat} (hw : who < row.length) (hp : peer < row.length) :
    XL (if rfs (who : Int) (row.getD who ⟨0, 0, 0⟩) 2 0 (peer : Int) = 0 then row.set who (stp (who : Int) (row.getD who ⟨0, 0, 0⟩) 2 0 (peer : Int)) else row) := by
  by_cases hr : rfs (who : Int) (row.getD who ⟨0, 0, 0⟩) 2 0 (peer : Int) = 0
  · rw [if_pos hr]
    obtain ⟨S, T, h, H⟩ := HL
    have hn8 := H.n1
    have hv := H.vld (i := (who : Int)) (by omega) (by omega)
    rw [fr_nat] at hv
    obtain ⟨c1, c2, c3⟩ := (can_offer hv (by omega)).1 hr
    have hwh : who = h := Classical.byContradiction fun q => (H.un (who : Int) (by omega) (by omega) (by omega)).1 (by rw [fr_nat]; exact c1)
    rw [stp, if_pos hr]
    intro i i0 i1 hi
    rw [List.length_set] at i1
    rw [fr_set row hw _ i i0 i1] at hi ⊢
    by_cases c : i = (who : Int)
    · rw [if_pos c]
      left
      show (fr (row.set who _) (peer : Int)).ep < (row.getD who ⟨0, 0, 0⟩).ep + 1
      rw [fr_set row hw _ (peer : Int) (by omega) (by omega), if_neg c2]
      have := H.mx (peer : Int) (by omega) (by omega)
      rw [← hwh, fr_nat row who] at this
      omega
    · rw [if_neg c] at hi
      exact absurd hi (H.un i i0 i1 (by rw [← hwh]; exact c)).2
  · rw [if_neg hr]; exact X
theorem xL_cancel {row : List Ld} {sent : List Ml} (HL : InvL row sent) (X : XL row) {who : Nat} (hw : who < row.length) :
    XL (if rfs (who : Int) (row.getD who ⟨0, 0, 0⟩) 3 0 0 = 0 then row.set who (stp (who : Int) (row.getD who ⟨0, 0, 0⟩) 3 0 0) else row) := by
  by_cases hr : rfs (who : Int) (row.getD who ⟨0, 0, 0⟩) 3 0 0 = 0
  · rw [if_pos hr]
    obtain ⟨S, T, h, H⟩ := HL
    have hn8 := H.n1
    have hv := H.vld (i := (who : Int)) (by omega) (by omega)
    rw [fr_nat] at hv
    have c1 := (can_cancel hv).1 hr
    have hwh : who = h := Classical.byContradiction fun q => (H.un (who : Int) (by omega) (by omega) (by omega)).2 (by rw [fr_nat]; exact c1)
    rw [stp, if_pos hr]
    intro i i0 i1 hi
    rw [List.length_set] at i1
    rw [fr_set row hw _ i i0 i1] at hi
    by_cases c : i = (who : Int)
    · rw [if_pos c] at hi
      exact absurd hi (by simp [bhd])
    · rw [if_neg c] at hi
      exact absurd hi (H.un i i0 i1 (by rw [← hwh]; exact c)).2
  · rw [if_neg hr]; exact X
theorem act_anyX {w : World} {b : Nat} {rv sv : Value} {row : List Ld} {sent : List Ml} (hw : Wd w b rv sv row sent) (HL : InvL row sent) (X : XL row) (hs : sent.length < 4398046511103) (a : Ac) :
    Calls Try.prog 22 #[.pointer (some ⟨b, 0, none⟩), .agg #[.int .i64 a.kind, .int .i64 a.who, .int .i64 a.peer, .int .i64 a.n]] w
      fun e w' => e = .returned (.bool true) ∧ ∃ row' sent', ActP w b rv sv row' sent' w' ∧ InvL row' sent' ∧ XL row' ∧ row'.length = row.length ∧ sent'.length ≤ sent.length + 1 := by
  have hn : 1 ≤ (row.length : Int) ∧ (row.length : Int) ≤ 8 := by obtain ⟨S, T, h, H⟩ := HL; exact H.n1
  have h1 : 0 < row.length := by omega
  have h8 : row.length ≤ 8 := by omega
  have hwl := plN_lt a.who h1
  have hpl := plN_lt a.peer h1
  have hv : vld (plN a.who row.length : Int) (row.getD (plN a.who row.length) ⟨0, 0, 0⟩) = true := by
    obtain ⟨S, T, h, H⟩ := HL
    have := H.vld (i := (plN a.who row.length : Int)) (by omega) (by omega)
    rw [fr_nat] at this
    exact this
  obtain ⟨kd, aw, ap, an⟩ := a
  dsimp only at *
  by_cases k1 : kd = 1
  · subst k1
    exact (act1_any hw h1 h8 aw ap an hv).mono fun e w' ⟨q1, q2⟩ => ⟨q1, _, _, q2, invL_offer HL hwl hpl, xL_offer HL X hwl hpl, (mono_if hwl _ _ _).1, by omega⟩
  by_cases k2 : kd = 2
  · subst k2
    exact (act2_any hw h1 h8 aw ap an hv).mono fun e w' ⟨q1, q2⟩ => ⟨q1, _, _, q2, invL_cancel HL hwl, xL_cancel HL X hwl, (mono_if hwl _ _ _).1, by omega⟩
  by_cases k3 : kd = 3
  · subst k3
    exact (act3_any hw h1 h8 hs aw ap an).mono fun e w' ⟨q1, q2⟩ => ⟨q1, _, _, q2, invL_nag HL hwl, X, rfl, by split <;> simp⟩
  by_cases k4 : kd = 4
  · subst k4
    cases hse : sent with
    | nil =>
      rw [hse] at hw HL
      exact (act4e_any hw h1 h8 aw ap an).mono fun e w' ⟨q1, q2⟩ => ⟨q1, _, _, q2, HL, X, rfl, by simp⟩
    | cons m0 ms =>
      rw [← hse]
      have hsl : 0 < sent.length := by rw [hse]; simp
      obtain ⟨m, hm⟩ : ∃ m, sent[plN an sent.length]? = some m := ⟨_, List.getElem?_eq_getElem (plN_lt an hsl)⟩
      have hmm := List.mem_of_getElem? hm
      obtain ⟨t, ht, htl⟩ := HL.mail hmm
      exact (act4_any hw h1 h8 hs aw ap an hm ht htl rfl).mono fun e w' ⟨q1, q2⟩ => ⟨q1, _, _, q2, invL_hear HL hmm ht htl false rfl, xL_hear HL X hmm ht htl false rfl, rowH_len _ _ _ _ _, sentH_len _ _ _ _ _⟩
  by_cases k5 : kd = 5
  · subst k5
    cases hse : sent with
    | nil =>
      rw [hse] at hw HL
      exact (act5e_any hw h1 h8 aw ap an).mono fun e w' ⟨q1, q2⟩ => ⟨q1, _, _, q2, HL, X, rfl, by simp⟩
    | cons m0 ms =>
      rw [← hse]
      have hsl : 0 < sent.length := by rw [hse]; simp
      obtain ⟨m, hm⟩ : ∃ m, sent[plN an sent.length]? = some m := ⟨_, List.getElem?_eq_getElem (plN_lt an hsl)⟩
      have hmm := List.mem_of_getElem? hm
      obtain ⟨t, ht, htl⟩ := HL.mail hmm
      exact (act5_any hw h1 h8 hs aw ap an hm ht htl rfl).mono fun e w' ⟨q1, q2⟩ => ⟨q1, _, _, q2, invL_hear HL hmm ht htl true rfl, xL_hear HL X hmm ht htl true rfl, rowH_len _ _ _ _ _, sentH_len _ _ _ _ _⟩
  exact (act0_any hw h1 h8 kd ⟨k1, k2, k3, k4, k5⟩ aw ap an).mono fun e w' ⟨q1, q2⟩ => ⟨q1, _, _, q2, HL, X, rfl, by omega⟩
theorem xL_begin {n h : Nat} : XL (row0 h n) := by
  intro i i0 i1 hi
  rw [row0_len] at i1
  obtain ⟨j, rfl⟩ : ∃ j : Nat, i = (j : Int) := ⟨i.toNat, by omega⟩
  have hj : j < n := by omega
  rw [fr_nat] at hi
  have : (row0 h n).getD j ⟨0, 0, 0⟩ = bgn (j : Int) (h : Int) := by simp [row0, List.getD, List.getElem?_map, List.getElem?_range hj]
  rw [this, bgn] at hi
  split at hi <;> simp at hi
end Go.Proofs.Ytnpabeodakncfaa
