/- KeysForm: any bytes that are read are the one code of the row that they are read as. -/
import Derived.Test.YtigmofbammofbabKAwake
namespace Go.Proofs.Ytigmofbammofbab
open Go.RowKit

set_option maxRecDepth 100000 in
set_option maxHeartbeats 1000000 in
theorem form_walk {w : World} {v : Value} {bs : List Nat} (hs : Sees w v bs) (hl : bs.length ≤ 1099511627776) :
    Calls Try.prog 4 #[v] w fun e w' => e = .returned (.bool true) ∧ Kept [] w w' := by
  have HA := hide (awake_any w)
  have HS := hide hs
  have hb : ∀ x ∈ bs, x < 256 := by obtain ⟨_, _, _, _, _, h, _⟩ := hs; exact h
  obtain ⟨a, cap, rfl, -⟩ := hs
  cases hd : decR bs with
  | error n =>
    have hn := decR_err hd
    have HD := hide (fun (w1 : World) (hk : Kept [] w w1) => decode_any ((unhide HS).kept hk (Or.inr (by simp))) hl)
    rw [hd] at HD
    generalize bs.length = L at *
    clear hd hb
    rcases hn with rfl | rfl
    · go_enter Try.func4, Try.ntmps4
      go_wp2_with (first
        | (go_at_call 9; refine (unhide HA).mono ?_; rintro e w1 ⟨rfl, hk1⟩; have HK1 := hide hk1; clear hk1)
        | (go_at_call 12; refine (unhide HD _ (unhide HK1)).mono ?_; rintro e w2 ⟨rfl, hk2⟩; have HK2 := hide ((unhide HK1).trans hk2 (by simp)); clear hk2))
      go_ret
      exact ⟨rfl, unhide HK2⟩
    · go_enter Try.func4, Try.ntmps4
      go_wp2_with (first
        | (go_at_call 9; refine (unhide HA).mono ?_; rintro e w1 ⟨rfl, hk1⟩; have HK1 := hide hk1; clear hk1)
        | (go_at_call 12; refine (unhide HD _ (unhide HK1)).mono ?_; rintro e w2 ⟨rfl, hk2⟩; have HK2 := hide ((unhide HK1).trans hk2 (by simp)); clear hk2))
      go_ret
      exact ⟨rfl, unhide HK2⟩
  | ok r =>
    obtain ⟨hc, hf⟩ := decR_sound hd hb
    have HD := hide (fun (w1 : World) (hk : Kept [] w w1) => decode_any ((unhide HS).kept hk (Or.inr (by simp))) hl)
    rw [hd] at HD
    have HL : Hid (2 * (codeR r).length ≤ 140737488355328) := by unfold Hid; rw [hc]; omega
    have HF := hide hf
    have HC := hide hc
    have HB := hide hb
    clear hd hf hc hb
    generalize bs.length = L at *
    go_enter Try.func4, Try.ntmps4
    go_wp2_with (first
      | (go_at_call 9; refine (unhide HA).mono ?_; rintro e w1 ⟨rfl, hk1⟩; have HK1 := hide hk1; clear hk1)
      | (go_at_call 12; refine (unhide HD _ (unhide HK1)).mono ?_; rintro e w2 ⟨⟨va, vn, vc, rfl, hvn, hrv⟩, hk2⟩; have HK2 := hide ((unhide HK1).trans hk2 (by simp)); have HE := hide (encode_any hrv (unhide HL)); clear hk2 hvn hrv)
      | (go_at_call 10; refine (unhide HE).mono ?_; rintro e w3 ⟨hk3, hh⟩; have hh2 : ∃ a n cap, e = .returned (.tuple #[.slice a n cap, .int .i64 0]) ∧ Sees w3 (.slice a n cap) bs := (by rcases hh with ⟨_, a, n, cap, rfl, hn, ho⟩ | ⟨hf, _⟩; (refine ⟨a, n, cap, rfl, ?_⟩; rw [unhide HC] at hn ho; subst hn; exact Sees.of_own ho (unhide HB)); exact absurd (unhide HF) hf); obtain ⟨qa, qn, qc, rfl, hq⟩ := hh2; have HK3 := hide ((unhide HK2).trans hk3 (by simp)); have HSM := hide (same_yes ((unhide HS).kept (unhide HK3) (Or.inr (by simp))) hq); clear hh hk3 hq)
      | (go_at_call 15; refine (unhide HSM).mono ?_; rintro e w4 ⟨rfl, hk4⟩; have HK4 := hide ((unhide HK3).trans hk4 (by simp)); clear hk4))
    go_ret
    exact ⟨rfl, unhide HK4⟩
end Go.Proofs.Ytigmofbammofbab
