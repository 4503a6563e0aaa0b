/- Roll. -/
import Derived.Test.YtoibkgjnnneagaaDDice
namespace Go.Proofs.Ytoibkgjnnneagaa
open Go.RowKit

theorem neg_wrap {n : Nat} (h1 : 1 ≤ n) (h2 : n ≤ 9223372036854775807) : IntKind.u64.wrap (-(n : Int)) = ((18446744073709551616 - n : Nat) : Int) := by
  rw [IntKind.wrap_u64]; omega
theorem rest_mod {n : Nat} (h1 : 1 ≤ n) (h2 : n ≤ 9223372036854775807) : ((18446744073709551616 - n : Nat) : Int) % (n : Int) = ((restN n : Nat) : Int) := by
  unfold restN
  rw [← Int.natCast_emod]
  congr 1
  have : 18446744073709551616 % n = (18446744073709551616 - n + n) % n := by congr 1; omega
  rw [this, Nat.add_mod_right]

set_option maxRecDepth 100000 in
theorem roll_low {w : World} {b : Nat} (n : Int) (h : n < 1) :
    Calls Try.prog 25 #[.pointer (some ⟨b, 0, none⟩), .int .i64 n] w fun e w' => e = .returned (.int .i64 0) ∧ w' = w := by
  go_enter Try.func25, Try.ntmps25
  go_wp2
  go_ret
  exact ⟨rfl, rfl⟩

/-- a roll under way: k values are drawn, and hi is the last one's high part -/
def Und (n s k hi : Nat) : Prop :=
  (k < 16 ∧ rollK 16 n s = ((rollK (16 - k) n (on s k)).1, (rollK (16 - k) n (on s k)).2 + k)) ∨ (k = 16 ∧ rollK 16 n s = (hi, 16))

theorem on_zero {s : Nat} (h : s < 18446744073709551616) : on s 0 = s := by unfold on; omega
theorem und_start (n : Nat) {s : Nat} (h : s < 18446744073709551616) (hi : Nat) : Und n s 0 hi := Or.inl ⟨by omega, by rw [on_zero h]; rfl⟩
theorem rollK_succ (k n s : Nat) : rollK (k + 1) n s = if restN n ≤ mixN (on s 1) * n % 18446744073709551616 ∨ k = 0 then (mixN (on s 1) * n / 18446744073709551616, 1)
    else ((rollK k n (on s 1)).1, (rollK k n (on s 1)).2 + 1) := rfl
theorem und_step {n s k hi : Nat} (h : Und n s k hi) (hk : k < 16) :
    (restN n ≤ mixN (on s (k + 1)) * n % 18446744073709551616 → rollK 16 n s = (mixN (on s (k + 1)) * n / 18446744073709551616, k + 1)) ∧
    (¬ restN n ≤ mixN (on s (k + 1)) * n % 18446744073709551616 → Und n s (k + 1) (mixN (on s (k + 1)) * n / 18446744073709551616)) := by
  unfold Und at *
  rcases h with ⟨_, h⟩ | ⟨h, _⟩
  · obtain ⟨f, hf⟩ : ∃ f, 16 - k = f + 1 := ⟨15 - k, by omega⟩
    generalize hG : rollK 16 n s = G at *
    clear hG
    rw [hf, rollK_succ, on_on] at h
    generalize mixN (on s (k + 1)) * n / 18446744073709551616 = A at *
    generalize mixN (on s (k + 1)) * n % 18446744073709551616 = B at *
    constructor
    · intro hr
      rw [if_pos (Or.inl hr)] at h
      rw [show k + 1 = 1 + k by omega]
      exact h
    · intro hr
      by_cases hf0 : f = 0
      · rw [if_pos (Or.inr hf0)] at h
        refine Or.inr ⟨by omega, ?_⟩
        rw [show (16 : Nat) = 1 + k by omega]
        exact h
      · rw [if_neg (by rintro (h1 | h1); exact hr h1; exact hf0 h1)] at h
        refine Or.inl ⟨by omega, ?_⟩
        rw [show 16 - (k + 1) = f by omega, h]
        show (_, _ + 1 + k) = (_, _ + (k + 1))
        congr 1
        omega
  · omega

theorem on_one (s k : Nat) : on (on s k) 1 = on s (k + 1) := on_on s k 1
theorem hi_lt {x n : Nat} (hx : x < 18446744073709551616) (hn : 1 ≤ n) : x * n / 18446744073709551616 < n := by
  rw [Nat.div_lt_iff_lt_mul (by omega), Nat.mul_comm]
  exact Nat.mul_lt_mul_of_pos_left hx hn

set_option maxRecDepth 100000 in
set_option maxHeartbeats 1000000 in
theorem roll_any {w : World} {b s : Nat} (h : Dc w b s) (n : Nat) (h1 : 1 ≤ n) (h2 : n ≤ 9223372036854775807) :
    Calls Try.prog 25 #[.pointer (some ⟨b, 0, none⟩), .int .i64 n] w fun e w' => e = .returned (.int .i64 (((rollK 16 n s).1 : Nat) : Int)) ∧ Dc w' b (on s (rollK 16 n s).2) ∧ Kept [b] w w' := by
  have hw1 := neg_wrap h1 h2
  have hw2 := rest_mod h1 h2
  generalize 18446744073709551616 - n = m at *
  have t1 : ¬ (n : Int) < 1 := by omega
  have hh := hide h
  clear h
  have HS := fun k hi => hide (@und_step n s k hi)
  generalize hR : restN n = R at *
  clear hR
  go_enter Try.func25, Try.ntmps25
  go_wp2_with fail
  go_loopw [7, 8, 21] (fun s7 s8 s21 wr => ∃ k hi lo : Nat, k ≤ 16 ∧ hi < n ∧ s7 = .int .u64 (hi : Int) ∧ s8 = .int .u64 (lo : Int) ∧ s21 = .int .i64 (k : Int) ∧ Und n s k hi ∧ Dc wr b (on s k) ∧ Kept [b] w wr) (fun _ _ s21 _ => 16 - (intOf s21).toNat)
  case atStart => exact ⟨0, 0, 0, by omega, by omega, rfl, rfl, rfl, und_start n (unhide hh).lt 0, by rw [on_zero (unhide hh).lt]; exact unhide hh, Kept.refl _ _⟩
  case round =>
    obtain ⟨k, hi, lo, hk, hhi, rfl, rfl, rfl, hu, hd, hkp⟩ := hrel
    replace hu := hide hu
    replace hkp := hide hkp
    by_cases hlt : k < 16
    · have HN := hide (next_any hd)
      rw [on_one] at HN
      have st := (unhide (HS k hi)) (unhide hu) hlt
      have HM := fun w => hide (mul_any w (mixN (on s (k + 1))) n (mixN_lt _) (by omega))
      have hb := hi_lt (mixN_lt (on s (k + 1))) h1
      clear HS hu hd
      generalize hA : mixN (on s (k + 1)) * n / 18446744073709551616 = A at *
      generalize hB : mixN (on s (k + 1)) * n % 18446744073709551616 = B at *
      clear hA hB
      generalize mixN (on s (k + 1)) = x at *
      by_cases hge : R ≤ B
      · have st1 := hide (st.1 hge)
        clear st
        have tge : ((R : Int) ≤ (B : Int)) = True := by simp; omega
        go_wp2_with (first
          | (go_at_call 21; refine (unhide HN).mono ?_; rintro e w2 ⟨rfl, hd2, hk2⟩; replace hd2 := hide hd2; replace hk2 := hide hk2; clear HN)
          | (go_at_call 45; refine (unhide (HM _)).mono ?_; rintro e w3 ⟨rfl, hq⟩; subst hq; clear HM))
        go_ret
        have e1 := unhide st1
        rw [e1]
        exact ⟨rfl, unhide hd2, (unhide hkp).trans (unhide hk2) (fun x hx => Or.inl hx)⟩
      · have st1 := hide (st.2 hge)
        clear st
        have tge : ((R : Int) ≤ (B : Int)) = False := by simp; omega
        go_wp2_with (first
          | (go_at_call 21; refine (unhide HN).mono ?_; rintro e w2 ⟨rfl, hd2, hk2⟩; replace hd2 := hide hd2; replace hk2 := hide hk2; clear HN)
          | (go_at_call 45; refine (unhide (HM _)).mono ?_; rintro e w3 ⟨rfl, hq⟩; subst hq; clear HM))
        exact ⟨⟨k + 1, A, B, by omega, hb, rfl, rfl, by simp, unhide st1, unhide hd2, (unhide hkp).trans (unhide hk2) (fun x hx => Or.inl hx)⟩, by simp [intOf]; omega⟩
    · obtain rfl : k = 16 := by omega
      go_wp2
      go_ret
      rcases unhide hu with ⟨h0, _⟩ | ⟨_, h0⟩
      · omega
      · rw [h0]
        exact ⟨rfl, hd, unhide hkp⟩
end Go.Proofs.Ytoibkgjnnneagaa
