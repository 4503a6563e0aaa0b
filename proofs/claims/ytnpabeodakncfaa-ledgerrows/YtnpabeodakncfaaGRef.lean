/- The document's ledger: has, rule, Valid, Serves, Keeps, Nag, Begin. -/
import Derived.Test.YtnpabeodakncfaaGLaw
namespace Go.Proofs.Ytnpabeodakncfaa
open Go.RowKit

set_option maxRecDepth 100000 in
theorem rserver_any (w : World) (n : Int) : Calls Try.prog 44 #[.int .i64 n] w fun e w' => e = .returned (.bool (srv n)) ∧ w' = w := by
  go_enter Try.func44, Try.ntmps44
  go_wp2_with fail
  all_goals
    go_ret
    refine ⟨ret_bool ?_, rfl⟩
    rw [Bool.eq_iff_iff]
    simp [srv]
    omega
set_option maxRecDepth 100000 in
theorem rserves_any (w : World) (l : Ld) : Calls Try.prog 34 #[lv l] w fun e w' => e = .returned (.bool (decide (l.ph = 1))) ∧ Kept [] w w' := by
  unfold lv
  go_enter Try.func34, Try.ntmps34
  go_wp2_with fail
  go_ret
  refine ⟨ret_bool ?_, (Kept.refl _ _).alloc _⟩
  rw [Bool.eq_iff_iff]
  simp
set_option maxRecDepth 100000 in
theorem rkeeps_any (w : World) (l : Ld) : Calls Try.prog 35 #[lv l] w fun e w' => e = .returned (.bool (kps l)) ∧ Kept [] w w' := by
  unfold lv at *
  go_enter Try.func35, Try.ntmps35
  go_wp2_with fail
  all_goals
    go_ret
    refine ⟨ret_bool ?_, ((Kept.refl _ _).alloc _)⟩
    rw [Bool.eq_iff_iff]
    simp_all [kps]
set_option maxRecDepth 100000 in
theorem rnag_any (w : World) (l : Ld) : Calls Try.prog 36 #[lv l] w fun e w' => e = .returned (.int .i64 (nag l)) ∧ Kept [] w w' := by
  unfold lv
  go_enter Try.func36, Try.ntmps36
  go_wp2_with fail
  all_goals
    go_ret
    refine ⟨ret_int ?_, (Kept.refl _ _).alloc _⟩
    simp_all [nag]
set_option maxRecDepth 100000 in
theorem rbegin_any (w : World) (s h : Int) : Calls Try.prog 31 #[.int .i64 s, .int .i64 h] w fun e w' => e = .returned (lv (bgn s h)) ∧ Kept [] w w' := by
  go_enter Try.func31, Try.ntmps31
  go_wp2_with fail
  all_goals
    refine ret_struct (b := w.heap.size) rfl rfl ((Blk.new _ _ _).alloc _) Try.underlying25 infoLed rfl ⟨?_, ?_⟩
    · refine ret_ld ?_ ?_ ?_ <;> simp_all [bgn]
    · exact Kept.alloc (Kept.alloc (Kept.refl _ _) _) _
set_option maxRecDepth 100000 in
theorem rvalid_any (w : World) (s : Int) (l : Ld) : Calls Try.prog 33 #[.int .i64 s, lv l] w fun e w' => e = .returned (.bool (vld s l)) ∧ Kept [] w w' := by
  have HS := fun W x0 => rserver_any W x0
  unfold lv at *
  go_enter Try.func33, Try.ntmps33
  go_wp2_with (first
    | (go_at_call 44; refine (HS _ _).mono ?_; rintro e w3 ⟨rfl, hq⟩; have hq2 := hq.symm; subst hq2))
  all_goals
    go_ret
    refine ⟨ret_bool ?_, (Kept.refl _ _).alloc _⟩
    rw [Bool.eq_iff_iff]
    clear HS
    by_cases ha : l.ph = 1 <;> by_cases hb : l.pe = s <;> first | (simp [ha, hb, srv, vld] at *; done) | (simp [ha, hb, srv, vld] at *; omega) | (simp_all [srv, vld]; done) | (simp_all [srv, vld]; omega) | (have q1 : (l.ph == 1) = false := (by simpa using ha); have q2 : (l.pe == s) = false := (by simpa using hb); simp [q1, q2] at *)
end Go.Proofs.Ytnpabeodakncfaa
