/- The document's Wave. -/
import Derived.Test.YthhgeobfolhpoaaVRf7
namespace Go.Proofs.Ythhgeobfolhpoaa
open Go.RowKit

theorem im_re (n : Nat) (hn : n < 8) : imW n = reW ((n + 6) % 8) := by
  rcases (show n = 0 ∨ n = 1 ∨ n = 2 ∨ n = 3 ∨ n = 4 ∨ n = 5 ∨ n = 6 ∨ n = 7 by omega) with rfl | rfl | rfl | rfl | rfl | rfl | rfl | rfl <;> rfl
set_option maxRecDepth 100000 in
set_option maxHeartbeats 400000 in
theorem rwave_any {w : World} {b pc : Nat} {pa : Option Addr} {r : Rt} (h : Rp w b pa pc r) {m : Mt} (hm : Rel m r) {k : Nat} (hk : k < 8) (hlen : r.all.length ≤ 9223372036854775807) :
    Calls Try.prog 38 #[.pointer (some ⟨b, 0, none⟩), .int .i64 (k : Int)] w fun e w' => e = .returned (.tuple #[.float .f64 (wv reW m.wins k 8), .float .f64 (wv imW m.wins k 8)]) ∧ Kept [] w w' := by
  have HW : Hid (∀ W, Kept [] w W → ∀ t : Nat, t < 8 → Calls Try.prog 50 #[.pointer (some ⟨b, 0, none⟩), .int .i64 (t : Int)] W fun e w' => e = .returned (.float .f64 (m.wins.getD t 0)) ∧ Kept [] W w') := fun W hW t ht => (rwin_any (h.kept hW (by simp) (by simp)) hm ht hlen).mono fun e w' ⟨he, j, hj⟩ => ⟨he, by rw [hj]; exact (Kept.refl _ _).drewN _⟩
  have hm1 := fun t => (mul_part (hm.ok.wi t) (re_part (k * t % 8))).1
  have hm2 := fun t => (mul_part (hm.ok.wi t) (im_part (k * t % 8))).1
  have ha1 := fun t => wv_add re_part hm.ok.wi k t
  have ha2 := fun t => wv_add im_part hm.ok.wi k t
  have HSD : Hid (∀ (W : World) (n : Nat), n < 8 → Calls Try.prog 51 #[.int .i64 (n : Int)] W fun e w' => e = .returned (.float .f64 (reW n)) ∧ w' = W) := fun W n hn => rside_any W hn
  clear h hm
  generalize m.wins = l at *
  go_enter Try.func38, Try.ntmps38
  go_wp2_with fail
  go_loopw [6, 7, 8] (fun x y t wr => ∃ j : Nat, j ≤ 8 ∧ t = .int .i64 (j : Int) ∧ x = .float .f64 (wv reW l k j) ∧ y = .float .f64 (wv imW l k j) ∧ Kept [] w wr) (fun _ _ t _ => 8 - (intOf t).toNat)
  case atStart => exact ⟨0, by omega, rfl, rfl, rfl, Kept.refl _ _⟩
  case round =>
    obtain ⟨j, hj, rfl, rfl, rfl, hkp⟩ := hrel
    have HKP := hide hkp
    by_cases hlt : j < 8
    · have HC := hide (unhide HW _ hkp j hlt)
      have h1 := hm1 j
      have h2 := hm2 j
      have h3 := ha1 j
      have h4 := ha2 j
      have t1 : (j : Int) < 8 := by omega
      obtain ⟨n, hn⟩ : ∃ n, k * j % 8 = n := ⟨_, rfl⟩
      have hn8 : n < 8 := by omega
      rw [hn] at h1 h2 h3 h4
      have en : ((k : Int) * (j : Int) % 8) = ((n : Nat) : Int) := by rw [← hn, ← Int.natCast_mul]; omega
      have hkj : k * j ≤ 49 := Nat.mul_le_mul (show k ≤ 7 by omega) (show j ≤ 7 by omega)
      have HS1 : Hid (∀ W, Calls Try.prog 51 #[.int .i64 ((k : Int) * (j : Int) % 8)] W fun e w' => e = .returned (.float .f64 (reW n)) ∧ w' = W) := by
        intro W
        rw [en]
        exact unhide HSD W n hn8
      have HS2 : Hid (∀ W, Calls Try.prog 51 #[.int .i64 (((k : Int) * (j : Int) + 6) % 8)] W fun e w' => e = .returned (.float .f64 (imW n)) ∧ w' = W) := by
        intro W
        rw [← Int.emod_add_emod, en, im_re n hn8, show ((n : Nat) : Int) + 6 = ((n + 6 : Nat) : Int) by omega, show ((n + 6 : Nat) : Int) % 8 = (((n + 6) % 8 : Nat) : Int) by omega]
        exact unhide HSD W _ (by omega)
      have tkj : (k : Int) * (j : Int) ≤ 49 := by rw [← Int.natCast_mul]; omega
      have tkj0 : (0 : Int) ≤ (k : Int) * (j : Int) := by rw [← Int.natCast_mul]; omega
      clear hm1 hm2 ha1 ha2 HW HSD hkp hn en
      generalize hx : l.getD j 0 = x at *
      generalize reW n = f1 at *
      generalize imW n = f2 at *
      generalize mulF x f1 = p1 at *
      generalize mulF x f2 = p2 at *
      obtain ⟨A1, e1⟩ : ∃ A, wv reW l k j = A := ⟨_, rfl⟩
      obtain ⟨A2, e2⟩ : ∃ A, wv imW l k j = A := ⟨_, rfl⟩
      obtain ⟨B1, e3⟩ : ∃ A, wv reW l k (j + 1) = A := ⟨_, rfl⟩
      obtain ⟨B2, e4⟩ : ∃ A, wv imW l k (j + 1) = A := ⟨_, rfl⟩
      rw [e1, e3] at h3
      rw [e2, e4] at h4
      rw [e1, e2]
      have HE3 := hide e3
      have HE4 := hide e4
      have r1 : ∀ t w, (binOp .mul t (.float .f64 x) (.float .f64 f1)).run Try.prog w = .ok (.float .f64 p1) w := fun t w => run_float_arith w .mul t .f64 _ _ _ h1
      have r2 : ∀ t w, (binOp .mul t (.float .f64 x) (.float .f64 f2)).run Try.prog w = .ok (.float .f64 p2) w := fun t w => run_float_arith w .mul t .f64 _ _ _ h2
      have r3 : ∀ t w, (binOp .add t (.float .f64 A1) (.float .f64 p1)).run Try.prog w = .ok (.float .f64 B1) w := fun t w => run_float_arith w .add t .f64 _ _ _ h3
      have r4 : ∀ t w, (binOp .add t (.float .f64 A2) (.float .f64 p2)).run Try.prog w = .ok (.float .f64 B2) w := fun t w => run_float_arith w .add t .f64 _ _ _ h4
      clear h1 h2 h3 h4 e1 e2 e3 e4 hx
      go_wp2_with (first
        | (go_at_call 50; refine (unhide HC).mono ?_; rintro e w1 ⟨rfl, hk1⟩; have HK1 := hide ((unhide HKP).trans hk1 (by simp)); clear HC hk1)
        | (go_at_call 51; refine (unhide HS1 _).mono ?_; rintro e wq ⟨rfl, hq⟩; have hq' := hq.symm; subst hq'; clear hq HS1)
        | (go_at_call 51; refine (unhide HS2 _).mono ?_; rintro e wq ⟨rfl, hq⟩; have hq' := hq.symm; subst hq'; clear hq HS2))
      exact ⟨⟨j + 1, by omega, by simp, by rw [unhide HE3], by rw [unhide HE4], unhide HK1⟩, by simp [intOf]; omega⟩
    · obtain rfl : j = 8 := by omega
      clear hm1 hm2 ha1 ha2 HW HSD hkp
      go_wp2_with fail
      go_ret2
      exact ⟨rfl, unhide HKP⟩
end Go.Proofs.Ythhgeobfolhpoaa
