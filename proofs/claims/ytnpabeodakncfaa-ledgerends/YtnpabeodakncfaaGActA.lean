/- act. -/
import Derived.Test.YtnpabeodakncfaaGAct2
import Derived.Test.YtnpabeodakncfaaGAct3
import Derived.Test.YtnpabeodakncfaaGAct4
import Derived.Test.YtnpabeodakncfaaGAct5
import Derived.Test.YtnpabeodakncfaaGAct6
import Derived.Test.YtnpabeodakncfaaGInv3
namespace Go.Proofs.Ytnpabeodakncfaa
open Go.RowKit

theorem act_any {w : World} {b : Nat} {rv sv : Value} {row : List Ld} {sent : List Ml} (hw : Wd w b rv sv row sent) (HL : InvL row sent) (hs : sent.length < 4398046511103) (a : Ac) :
    Calls Try.prog 22 #[.pointer (some ⟨b, 0, none⟩), .agg #[.int .i64 a.kind, .int .i64 a.who, .int .i64 a.peer, .int .i64 a.n]] w
      fun e w' => e = .returned (.bool true) ∧ ∃ row' sent', ActP w b rv sv row' sent' w' ∧ InvL row' sent' ∧ Mono row row' ∧ sent'.length ≤ sent.length + 1 := by
  have hn : 1 ≤ (row.length : Int) ∧ (row.length : Int) ≤ 8 := by obtain ⟨S, T, h, H⟩ := HL; exact H.n1
  have h1 : 0 < row.length := by omega
  have h8 : row.length ≤ 8 := by omega
  have hwl := plN_lt a.who h1
  have hpl := plN_lt a.peer h1
  have hv : vld (plN a.who row.length : Int) (row.getD (plN a.who row.length) ⟨0, 0, 0⟩) = true := by
    obtain ⟨S, T, h, H⟩ := HL
    have := H.vld (i := (plN a.who row.length : Int)) (by omega) (by omega)
    rw [fr_nat] at this
    exact this
  obtain ⟨kd, aw, ap, an⟩ := a
  dsimp only at *
  by_cases k1 : kd = 1
  · subst k1
    exact (act1_any hw h1 h8 aw ap an hv).mono fun e w' ⟨q1, q2⟩ => ⟨q1, _, _, q2, invL_offer HL hwl hpl, mono_if hwl _ _ _, by omega⟩
  by_cases k2 : kd = 2
  · subst k2
    exact (act2_any hw h1 h8 aw ap an hv).mono fun e w' ⟨q1, q2⟩ => ⟨q1, _, _, q2, invL_cancel HL hwl, mono_if hwl _ _ _, by omega⟩
  by_cases k3 : kd = 3
  · subst k3
    exact (act3_any hw h1 h8 hs aw ap an).mono fun e w' ⟨q1, q2⟩ => ⟨q1, _, _, q2, invL_nag HL hwl, Mono.refl _, by split <;> simp⟩
  by_cases k4 : kd = 4
  · subst k4
    cases hse : sent with
    | nil =>
      rw [hse] at hw HL
      exact (act4e_any hw h1 h8 aw ap an).mono fun e w' ⟨q1, q2⟩ => ⟨q1, _, _, q2, HL, Mono.refl _, by simp⟩
    | cons m0 ms =>
      rw [← hse]
      have hsl : 0 < sent.length := by rw [hse]; simp
      obtain ⟨m, hm⟩ : ∃ m, sent[plN an sent.length]? = some m := ⟨_, List.getElem?_eq_getElem (plN_lt an hsl)⟩
      have hmm := List.mem_of_getElem? hm
      obtain ⟨t, ht, htl⟩ := HL.mail hmm
      exact (act4_any hw h1 h8 hs aw ap an hm ht htl rfl).mono fun e w' ⟨q1, q2⟩ => ⟨q1, _, _, q2, invL_hear HL hmm ht htl false rfl, mono_hear htl rfl, sentH_len _ _ _ _ _⟩
  by_cases k5 : kd = 5
  · subst k5
    cases hse : sent with
    | nil =>
      rw [hse] at hw HL
      exact (act5e_any hw h1 h8 aw ap an).mono fun e w' ⟨q1, q2⟩ => ⟨q1, _, _, q2, HL, Mono.refl _, by simp⟩
    | cons m0 ms =>
      rw [← hse]
      have hsl : 0 < sent.length := by rw [hse]; simp
      obtain ⟨m, hm⟩ : ∃ m, sent[plN an sent.length]? = some m := ⟨_, List.getElem?_eq_getElem (plN_lt an hsl)⟩
      have hmm := List.mem_of_getElem? hm
      obtain ⟨t, ht, htl⟩ := HL.mail hmm
      exact (act5_any hw h1 h8 hs aw ap an hm ht htl rfl).mono fun e w' ⟨q1, q2⟩ => ⟨q1, _, _, q2, invL_hear HL hmm ht htl true rfl, mono_hear htl rfl, sentH_len _ _ _ _ _⟩
  exact (act0_any hw h1 h8 kd ⟨k1, k2, k3, k4, k5⟩ aw ap an).mono fun e w' ⟨q1, q2⟩ => ⟨q1, _, _, q2, HL, Mono.refl _, by omega⟩
end Go.Proofs.Ytnpabeodakncfaa
