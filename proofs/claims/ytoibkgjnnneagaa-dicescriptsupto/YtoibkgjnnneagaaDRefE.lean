/- The document's Roll and Real. -/
import Derived.Test.YtoibkgjnnneagaaDRefD
import Derived.Test.YtoibkgjnnneagaaDQuo
namespace Go.Proofs.Ytoibkgjnnneagaa
open Go.RowKit

set_option maxRecDepth 100000 in
theorem rroll_low {w : World} {b : Nat} (n : Int) (h : n < 1) :
    Calls Try.prog 32 #[.pointer (some ⟨b, 0, none⟩), .int .i64 n] w fun e w' => e = .returned (.int .i64 0) ∧ w' = w := by
  go_enter Try.func32, Try.ntmps32
  go_wp2
  go_ret
  exact ⟨rfl, rfl⟩

set_option maxRecDepth 100000 in
set_option maxHeartbeats 1000000 in
theorem rroll_any {w : World} {b s : Nat} (h : Rc w b s) (n : Nat) (h1 : 1 ≤ n) (h2 : n ≤ 9223372036854775807) :
    Calls Try.prog 32 #[.pointer (some ⟨b, 0, none⟩), .int .i64 n] w fun e w' => e = .returned (.int .i64 (((rollK 16 n s).1 : Nat) : Int)) ∧ Rc w' b (on s (rollK 16 n s).2) ∧ Kept [b] w w' := by
  have t1 : ¬ (n : Int) < 1 := by omega
  have hh := hide h
  clear h
  have HS := fun k hi => hide (@und_step n s k hi)
  have HRE := hide (rest_any w n h1 h2)
  generalize hR : restN n = R at *
  clear hR
  go_enter Try.func32, Try.ntmps32
  go_wp2_with (first
    | (go_at_call 46; refine (unhide HRE).mono ?_; rintro e w1 ⟨rfl, hq⟩; have hq' := hq.symm; subst hq'; clear HRE))
  go_loopw [6] (fun s6 wr => ∃ k : Nat, k < 16 ∧ s6 = .int .i64 ((k : Int) + 1) ∧ Und n s k 0 ∧ Rc wr b (on s k) ∧ Kept [b] w wr) (fun s6 _ => 17 - (intOf s6).toNat)
  case atStart => exact ⟨0, by omega, rfl, und_start n (unhide hh).lt 0, by rw [on_zero (unhide hh).lt]; exact unhide hh, Kept.refl _ _⟩
  case round =>
    obtain ⟨k, hk, rfl, hu, hd, hkp⟩ := hrel
    replace hkp := hide hkp
    have HN := hide (rnext_any hd)
    rw [on_one] at HN
    have st := (unhide (HS k 0)) hu hk
    have HM := fun w => hide (product_any w (mixN (on s (k + 1))) n (mixN_lt _) (by omega))
    have hb := hi_lt (mixN_lt (on s (k + 1))) h1
    clear HS hu hd
    generalize hA : mixN (on s (k + 1)) * n / 18446744073709551616 = A at *
    generalize hB : mixN (on s (k + 1)) * n % 18446744073709551616 = B at *
    clear hA hB
    generalize mixN (on s (k + 1)) = x at *
    by_cases hge : R ≤ B
    · have st1 := hide (st.1 hge)
      clear st
      have tge : ((R : Int) ≤ (B : Int)) = True := by simp; omega
      go_wp2_with (first
          | (go_at_call 30; refine (unhide HN).mono ?_; rintro e w2 ⟨rfl, hd2, hk2⟩; replace hd2 := hide hd2; replace hk2 := hide hk2; clear HN)
          | (go_at_call 47; refine (unhide (HM _)).mono ?_; rintro e w3 ⟨rfl, hq⟩; subst hq; clear HM))
      go_ret
      have e1 := unhide st1
      rw [e1]
      exact ⟨rfl, unhide hd2, (unhide hkp).trans (unhide hk2) (fun x hx => Or.inl hx)⟩
    · have st1 := st.2 hge
      clear st
      have tge : ((R : Int) ≤ (B : Int)) = False := by simp; omega
      by_cases h15 : k = 15
      · subst h15
        have st2 : Hid (rollK 16 n s = (A, 16)) := by
          rcases st1 with ⟨h0, _⟩ | ⟨_, h0⟩
          · omega
          · exact h0
        clear st1
        go_wp2_with (first
          | (go_at_call 30; refine (unhide HN).mono ?_; rintro e w2 ⟨rfl, hd2, hk2⟩; replace hd2 := hide hd2; replace hk2 := hide hk2; clear HN)
          | (go_at_call 47; refine (unhide (HM _)).mono ?_; rintro e w3 ⟨rfl, hq⟩; subst hq; clear HM))
        go_ret
        have e1 := unhide st2
        rw [e1]
        exact ⟨rfl, unhide hd2, (unhide hkp).trans (unhide hk2) (fun x hx => Or.inl hx)⟩
      · have st2 : Hid (Und n s (k + 1) 0) := by
          rcases st1 with h0 | ⟨h0, _⟩
          · exact Or.inl h0
          · omega
        clear st1
        have t16 : ((k : Int) + 1 == 16) = false := by simp; omega
        go_wp2_with (first
          | (go_at_call 30; refine (unhide HN).mono ?_; rintro e w2 ⟨rfl, hd2, hk2⟩; replace hd2 := hide hd2; replace hk2 := hide hk2; clear HN)
          | (go_at_call 47; refine (unhide (HM _)).mono ?_; rintro e w3 ⟨rfl, hq⟩; subst hq; clear HM))
        exact ⟨⟨k + 1, by omega, by simp, unhide st2, unhide hd2, (unhide hkp).trans (unhide hk2) (fun x hx => Or.inl hx)⟩, by simp [intOf]; omega⟩

set_option maxRecDepth 100000 in
set_option maxHeartbeats 1000000 in
theorem rreal_any {w : World} {b s : Nat} (h : Rc w b s) : Calls Try.prog 33 #[.pointer (some ⟨b, 0, none⟩)] w fun e w' => e = .returned (.float .f64 (realW (mixN (on s 1) / 2048))) ∧ Rc w' b (on s 1) ∧ Kept [b] w w' := by
  have H1 := hide (rnext_any h)
  have hl := mixN_lt (on s 1)
  clear h
  generalize on s 1 = t at *
  generalize mixN t = x at *
  have hq : x / 2048 < 2 ^ 53 := by omega
  have e0 : (x : Int) / 2048 = ((x / 2048 : Nat) : Int) := by omega
  have e1 := real_quo hq
  generalize x / 2048 = k at *
  have h1 : ∀ t w, (binOp .quo t (.float .f64 (floatOfInt .f64 (k : Int))) (.float .f64 4845873199050653696)).run Try.prog w = .ok (.float .f64 (realW k)) w := fun t w => run_float_arith w .quo t .f64 _ _ _ e1
  have e2 : IntKind.u64.wrap (k : Int) = (k : Int) := wrap_nat (by rw [show 2 ^ 53 = 9007199254740992 from rfl] at hq; omega)
  clear e1
  go_enter Try.func33, Try.ntmps33
  go_wp2_with (first
    | (go_at_call 30; refine (unhide H1).mono ?_; rintro e w1 ⟨rfl, hd, hk⟩; clear H1; replace hd := hide hd))
  go_ret
  exact ⟨rfl, unhide hd, hk⟩
end Go.Proofs.Ytoibkgjnnneagaa
