/- Valid. -/
import Derived.Test.YtnpabeodakncfaaGSmall
namespace Go.Proofs.Ytnpabeodakncfaa
open Go.RowKit

set_option maxRecDepth 100000 in
theorem valid_any (w : World) (s : Int) (l : Ld) : Calls Try.prog 32 #[.int .i64 s, lv l] w fun e w' => e = .returned (.bool (vld s l)) ∧ Kept [] w w' := by
  have HisServer := fun W x0 => isServer_any W x0
  have HServes := fun W => serves_any W l
  unfold lv at *
  go_enter Try.func32, Try.ntmps32
  go_wp2_with (first
    | (go_at_call 56; refine (HisServer _ _).mono ?_; rintro e w3 ⟨rfl, hq⟩; have hq2 := hq.symm; subst hq2))
  all_goals first
    | (go_ret
       refine ⟨ret_bool ?_, (Kept.refl _ _).alloc _⟩
       rw [Bool.eq_iff_iff]
       simp [srv, vld] at *
       omega)
    | skip
  refine world_at (R := fun W => Kept [] w W ∧ Blk W w.heap.size #[.int .i64 l.ph, .int .i64 l.ep, .int .i64 l.pe] 25) ⟨(Kept.refl _ _).alloc _, Blk.new _ _ _⟩ ?_
  rintro W ⟨hkW, hbW⟩
  obtain ⟨c0, c1, c2⟩ := box3 hbW
  go_region_held3 (fun w' => w'.cell? ⟨w.heap.size, 0, none⟩ = some (.int .i64 l.ph) ∧ w'.cell? ⟨w.heap.size, 1, none⟩ = some (.int .i64 l.ep) ∧ w'.cell? ⟨w.heap.size, 2, none⟩ = some (.int .i64 l.pe) ∧ Kept [] w w' ∧ Blk w' w.heap.size #[.int .i64 l.ph, .int .i64 l.ep, .int .i64 l.pe] 25) (first | assumption | exact ⟨c0, c1, c2, hkW.drew, hbW⟩) (first
    | (go_at_call 26; refine (HServes _).mono ?_; rintro e w3 ⟨rfl, hk⟩
       obtain ⟨-, -, -, hkq, hbq⟩ : _ ∧ _ ∧ _ ∧ Kept [] w _ ∧ Blk _ w.heap.size _ _ := by assumption
       have hkW3 := hkq.step hk
       have hbW3 := hbq.kept hk (by simp)
       have HS3 := And.intro (hbW3.cell 0) (And.intro (hbW3.cell 1) (And.intro (hbW3.cell 2) (And.intro hkW3 hbW3)))))
  all_goals
    obtain ⟨d0, d1, d2⟩ := box3 hbW3
    clear HS3 hk hkq hbq c0 c1 c2 hkW hbW
  go_wp2_with fail
  all_goals
    go_ret
    refine ⟨ret_bool ?_, hkW3⟩
    rw [Bool.eq_iff_iff]
    clear hkW3 hbW3 d0 d1 d2 HisServer HServes
    by_cases ha : l.ph = 1 <;> by_cases hb : l.pe = s <;> first | (simp [ha, hb, srv, vld] at *; done) | (simp [ha, hb, srv, vld] at *; omega) | (simp_all [srv, vld]; done) | (simp_all [srv, vld]; omega) | (trace_state; sorry)
end Go.Proofs.Ytnpabeodakncfaa
