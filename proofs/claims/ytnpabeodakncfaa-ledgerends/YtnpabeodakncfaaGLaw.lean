/- Begin; the law's num and known. -/
import Derived.Test.YtnpabeodakncfaaGStep
import Derived.Test.YtnpabeodakncfaaGHear
namespace Go.Proofs.Ytnpabeodakncfaa
open Go.RowKit

def bgn (s h : Int) : Ld := if s = h then ⟨1, 0, s⟩ else ⟨0, 0, h⟩
set_option maxRecDepth 100000 in
theorem begin_any (w : World) (s h : Int) : Calls Try.prog 30 #[.int .i64 s, .int .i64 h] w fun e w' => e = .returned (lv (bgn s h)) ∧ Kept [] w w' := by
  go_enter Try.func30, Try.ntmps30
  go_wp2_with fail
  all_goals
    refine ret_struct (b := w.heap.size) rfl rfl (Blk.new _ _ _) Try.underlying25 infoLed rfl ⟨?_, ?_⟩
    · refine ret_ld ?_ ?_ ?_ <;> simp_all [bgn]
    · exact Kept.alloc (Kept.refl _ _) _
set_option maxRecDepth 100000 in
theorem num_any (w : World) (n : Int) : Calls Try.prog 11 #[.int .i64 n] w fun e w' => e = .returned (.int .i64 n) ∧ w' = w := by
  go_enter Try.func11, Try.ntmps11
  go_wp2_with fail
  go_ret
  exact ⟨rfl, rfl⟩
set_option maxRecDepth 100000 in
theorem known_any (w : World) : Calls Try.prog 18 #[] w fun e w' => e = .returned (.bool true) ∧ Kept [] w w' := by
  have HS := fun W s a b c k x p => step_any W s ⟨a, b, c⟩ ⟨k, 0, x, p, 0, 0, 0, .slice none 0 0, .slice none 0 0, 0, .slice none 0 0⟩
  have HH := fun W s a b c k x p => hear_any W s ⟨a, b, c⟩ k x p
  have HN := fun W n => num_any W n
  have HB := fun W s h => begin_any W s h
  have HG := fun W a b c => nag_any W ⟨a, b, c⟩
  unfold lv rv at *
  dsimp only at HS HH HG
  have b1 : bgn 2 2 = ⟨1, 0, 2⟩ := by decide
  have b2 : bgn 1 2 = ⟨0, 0, 2⟩ := by decide
  have s1 : stp 2 ⟨1, 0, 2⟩ 2 0 1 = ⟨2, 1, 1⟩ := by decide
  have s2 : stp 1 ⟨0, 0, 2⟩ 4 1 2 = ⟨4, 1, 2⟩ := by decide
  have r1 : rfs 2 ⟨1, 0, 2⟩ 2 0 1 = 0 := by decide
  have r2 : rfs 1 ⟨0, 0, 2⟩ 4 1 2 = 0 := by decide
  have h1 : her 2 ⟨2, 1, 1⟩ 4 1 1 = (5, 5) := by decide
  have h2 : her 1 ⟨4, 1, 2⟩ 5 1 2 = (6, 6) := by decide
  have g1 : nag ⟨2, 1, 1⟩ = 3 := by decide
  go_enter Try.func18, Try.ntmps18
  go_wp2_with (first
    | (go_at_call_of 30 (Value.int IntKind.i64 1); refine (HB _ _ _).mono ?_; rintro e w3 ⟨rfl, hk⟩; have hL3 := (Blk.new w2 _ _).kept hk (by simp); have hk3 := (hk2.alloc _).step hk; clear hk)
    | (go_at_call 30; refine (HB _ _ _).mono ?_; rintro e w1 ⟨rfl, hk1⟩)
    | (go_at_call_of 10 (Value.int IntKind.i64 1); refine (HS _ _ _ _ _ _ _ _).mono ?_; rintro e w4 ⟨rfl, hk⟩; have hL4 := hL3.kept hk (by simp); have hk4 := hk3.step hk; obtain ⟨l0, l1, l2⟩ := box3 hL4; have hlt := hL4.lt; clear hk)
    | (go_at_call 10; refine (HS _ _ _ _ _ _ _ _).mono ?_; rintro e w2 ⟨rfl, hk⟩; have hk2 := hk1.step hk; clear hk)
    | (go_at_call_of 12 (Value.int IntKind.i64 2); go_at_call_of 12 (Value.int IntKind.i64 4); refine (HH _ _ _ _ _ _ _ _).mono ?_; rintro e w5 ⟨rfl, hk⟩; have hM5 := (Blk.new w4 _ _).kept hk (by simp); have hL5 := (hL4.alloc _).kept hk (by simp); have hk5 := (hk4.alloc _).step hk; obtain ⟨m0, m1, m2⟩ := box3 hM5; clear hk)
    | (go_at_call 12; refine (HH _ _ _ _ _ _ _ _).mono ?_; rintro e w6 ⟨rfl, hk⟩; have hM6 := hM5.kept hk (by simp); have hL6 := hL5.kept hk (by simp); have hk6 := hk5.step hk; obtain ⟨n0, n1, n2⟩ := box3 hM6; obtain ⟨q0, q1, q2⟩ := box3 hL6; clear hk)
    | (go_at_call 24; refine (HG _ _ _ _).mono ?_; rintro e w7 ⟨rfl, hk⟩; have hk7 := hk6.step hk)
    | (go_at_call 11; refine (HN _ _).mono ?_; rintro e w1 ⟨rfl, hq⟩; have hq2 := hq.symm; subst hq2))
  go_ret
  exact ⟨rfl, hk7⟩
end Go.Proofs.Ytnpabeodakncfaa
