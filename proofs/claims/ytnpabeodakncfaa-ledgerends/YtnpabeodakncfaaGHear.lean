/- Hear and what it asks. -/
import Derived.Test.YtnpabeodakncfaaGValid
namespace Go.Proofs.Ytnpabeodakncfaa
open Go.RowKit

set_option maxRecDepth 100000 in
theorem endOf_any (w : World) (p r : Int) (l : Ld) (x y : Int) : Calls Try.prog 43 #[.int .i64 p, .int .i64 r, lv l, .int .i64 x, .int .i64 y] w fun e w' => e = .returned (.int .i64 (eof p r l x y)) ∧ Kept [] w w' := by
  have H := fun W a b c => meets_any W ⟨a, b, c⟩ x y
  unfold lv at *
  dsimp only at H
  go_enter Try.func43, Try.ntmps43
  go_wp2_with (go_at_call 60; refine (H _ _ _ _).mono ?_; rintro e w3 ⟨rfl, hk⟩; obtain ⟨c0, c1, c2⟩ := box3 ((Blk.new w _ _).kept hk (by simp)))
  all_goals
    go_ret
    refine ⟨ret_int ?_, ?_⟩
    · simp_all [eof, met]
    first | exact ((Kept.refl _ _).alloc _).step hk | exact ((Kept.refl _ _).alloc _)
set_option maxRecDepth 100000 in
theorem onOffer_any (w : World) (l : Ld) (x y : Int) : Calls Try.prog 40 #[lv l, .int .i64 x, .int .i64 y] w fun e w' => e = .returned (.tuple #[.int .i64 (off l x y).1, .int .i64 (off l x y).2]) ∧ Kept [] w w' := by
  have H := fun W a b c => meets_any W ⟨a, b, c⟩ x y
  unfold lv at *
  dsimp only at H
  go_enter Try.func40, Try.ntmps40
  go_wp2_with (go_at_call 60; refine (H _ _ _ _).mono ?_; rintro e w3 ⟨rfl, hk⟩; obtain ⟨c0, c1, c2⟩ := box3 ((Blk.new w _ _).kept hk (by simp)))
  all_goals
    go_ret2
    refine ⟨ret_two ?_ ?_, ?_⟩
    · simp_all [off, met]; try (first | omega | ((repeat' split) <;> first | rfl | omega))
    · simp_all [off, met]; try (first | omega | ((repeat' split) <;> first | rfl | omega))
    first | exact ((Kept.refl _ _).alloc _).step hk | exact ((Kept.refl _ _).alloc _)
set_option maxRecDepth 100000 in
theorem onHave_any (w : World) (l : Ld) (x y : Int) : Calls Try.prog 41 #[lv l, .int .i64 x, .int .i64 y] w fun e w' => e = .returned (.tuple #[.int .i64 (hav l x y).1, .int .i64 (hav l x y).2]) ∧ Kept [] w w' := by
  have H := fun W a b c => meets_any W ⟨a, b, c⟩ x y
  unfold lv at *
  dsimp only at H
  go_enter Try.func41, Try.ntmps41
  go_wp2_with (go_at_call 60; refine (H _ _ _ _).mono ?_; rintro e w3 ⟨rfl, hk⟩; obtain ⟨c0, c1, c2⟩ := box3 ((Blk.new w _ _).kept hk (by simp)))
  all_goals
    go_ret2
    refine ⟨ret_two ?_ ?_, ?_⟩
    · simp_all [hav, met]; try (first | omega | ((repeat' split) <;> first | rfl | omega))
    · simp_all [hav, met]; try (first | omega | ((repeat' split) <;> first | rfl | omega))
    first | exact ((Kept.refl _ _).alloc _).step hk | exact ((Kept.refl _ _).alloc _)
set_option maxRecDepth 100000 in
theorem onCommit_any (w : World) (l : Ld) (x y : Int) : Calls Try.prog 42 #[lv l, .int .i64 x, .int .i64 y] w fun e w' => e = .returned (.tuple #[.int .i64 (cmt l x y).1, .int .i64 (cmt l x y).2]) ∧ Kept [] w w' := by
  have H := fun W a b c => meets_any W ⟨a, b, c⟩ x y
  unfold lv at *
  dsimp only at H
  go_enter Try.func42, Try.ntmps42
  go_wp2_with (go_at_call 60; refine (H _ _ _ _).mono ?_; rintro e w3 ⟨rfl, hk⟩; obtain ⟨c0, c1, c2⟩ := box3 ((Blk.new w _ _).kept hk (by simp)))
  all_goals
    go_ret2
    refine ⟨ret_two ?_ ?_, ?_⟩
    · simp_all [cmt, met]; try (first | omega | ((repeat' split) <;> first | rfl | omega))
    · simp_all [cmt, met]; try (first | omega | ((repeat' split) <;> first | rfl | omega))
    first | exact ((Kept.refl _ _).alloc _).step hk | exact ((Kept.refl _ _).alloc _)
set_option maxRecDepth 100000 in
theorem hear_any (w : World) (s : Int) (l : Ld) (k x y : Int) : Calls Try.prog 12 #[.int .i64 s, lv l, .int .i64 k, .int .i64 x, .int .i64 y] w fun e w' => e = .returned (.tuple #[.int .i64 (her s l k x y).1, .int .i64 (her s l k x y).2]) ∧ Kept [] w w' := by
  have HV := fun W => valid_any W s l
  have HO := fun W => isOther_any W s y
  have H1 := fun W => onOffer_any W l x y
  have H2 := fun W => onHave_any W l x y
  have H3 := fun W => onCommit_any W l x y
  have H4 := fun W p r => endOf_any W p r l x y
  unfold lv at *
  go_enter Try.func12, Try.ntmps12
  go_wp2_with (first
    | (go_at_call 32; refine (HV _).mono ?_; rintro e w3 ⟨rfl, hk⟩; have hb := (Blk.new w _ _).kept hk (by simp); obtain ⟨c0, c1, c2⟩ := box3 hb)
    | (go_at_call 39; refine (HO _).mono ?_; rintro e w5 ⟨rfl, hq⟩; have hq2 := hq.symm; subst hq2)
    | (go_at_call 40; refine (H1 _).mono ?_; rintro e w4 ⟨rfl, hk4⟩)
    | (go_at_call 41; refine (H2 _).mono ?_; rintro e w4 ⟨rfl, hk4⟩)
    | (go_at_call 42; refine (H3 _).mono ?_; rintro e w4 ⟨rfl, hk4⟩)
    | (go_at_call 43; refine (H4 _ _ _).mono ?_; rintro e w4 ⟨rfl, hk4⟩))
  all_goals
    go_ret2
    refine ⟨ret_two ?_ ?_, ?_⟩
    · simp_all [her]
    · simp_all [her]
    first | exact (((Kept.refl _ _).alloc _).step hk).step hk4 | exact ((Kept.refl _ _).alloc _).step hk
end Go.Proofs.Ytnpabeodakncfaa
