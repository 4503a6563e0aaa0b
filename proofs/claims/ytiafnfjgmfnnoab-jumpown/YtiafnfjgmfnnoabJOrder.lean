/- The order of two servers. -/
import Derived.Test.YtiafnfjgmfnnoabJScore
import Derived.Test.YtiafnfjgmfnnoabJSort
import Derived.LoopN
import Derived.Deep.RegionHeld3
namespace Go.Proofs.Ytiafnfjgmfnnoab
open Go.RowKit Go.Sort

/-- which of two numbers is the less -/
def cmpI (x y : Int) : Int := if x < y then -1 else if y < x then 1 else 0

set_option maxRecDepth 100000 in
theorem cmpU_any (w : World) (x y : Nat) :
    Calls Try.prog 21 #[.int .u64 x, .int .u64 y] w fun e w' => e = .returned (.int .i64 (cmpI x y)) ∧ w' = w := by
  by_cases h1 : (x : Int) < y
  · have hr : cmpI x y = -1 := by unfold cmpI; rw [if_pos h1]
    rw [hr]
    have h3 : ((x : Int) < y) = True := by simp; omega
    go_enter Try.func21, Try.ntmps21
    go_wp2
    go_ret
    exact ⟨rfl, rfl⟩
  · have h3 : ((x : Int) < y) = False := by simp; omega
    by_cases h2 : (y : Int) < x
    · have hr : cmpI x y = 1 := by unfold cmpI; rw [if_neg h1, if_pos h2]
      rw [hr]
      have h4 : ((y : Int) < x) = True := by simp; omega
      clear h1 h2
      go_enter Try.func21, Try.ntmps21
      go_wp2
      go_ret
      exact ⟨rfl, rfl⟩
    · have hr : cmpI x y = 0 := by unfold cmpI; rw [if_neg h1, if_neg h2]
      rw [hr]
      have h4 : ((y : Int) < x) = False := by simp; omega
      clear h1 h2
      go_enter Try.func21, Try.ntmps21
      go_wp2
      go_ret
      exact ⟨rfl, rfl⟩

set_option maxRecDepth 100000 in
theorem cmpS_any (w : World) (x y : Int) :
    Calls Try.prog 22 #[.int .i64 x, .int .i64 y] w fun e w' => e = .returned (.int .i64 (cmpI x y)) ∧ w' = w := by
  by_cases h1 : x < y
  · have hr : cmpI x y = -1 := by unfold cmpI; rw [if_pos h1]
    rw [hr]
    go_enter Try.func22, Try.ntmps22
    go_wp2
    go_ret
    exact ⟨rfl, rfl⟩
  · by_cases h2 : y < x
    · have hr : cmpI x y = 1 := by unfold cmpI; rw [if_neg h1, if_pos h2]
      rw [hr]
      go_enter Try.func22, Try.ntmps22
      go_wp2
      go_ret
      exact ⟨rfl, rfl⟩
    · have hr : cmpI x y = 0 := by unfold cmpI; rw [if_neg h1, if_neg h2]
      rw [hr]
      go_enter Try.func22, Try.ntmps22
      go_wp2
      go_ret
      exact ⟨rfl, rfl⟩

set_option maxRecDepth 100000 in
theorem or_any (w : World) (b : Nat) (x y : Int) (c0 : w.cell? ⟨b, 0, none⟩ = some (.int .i64 x)) (c1 : w.cell? ⟨b, 1, none⟩ = some (.int .i64 y)) :
    Calls Try.prog 20 #[.slice (some ⟨b, 0, none⟩) 2 2] w fun e w' => e = .returned (.int .i64 (if x = 0 then y else x)) ∧ w' = w := by
  by_cases h : x = 0
  · rw [if_pos h]
    by_cases h2 : y = 0
    · subst h h2
      go_enter Try.func20, Try.ntmps20
      go_wp2
      refine wp_loop_rounds 3 ?_
      rw [rounds_succ]
      go_wp2
      rw [rounds_succ]
      go_wp2
      rw [rounds_succ]
      go_wp2
      go_ret
      exact ⟨rfl, rfl⟩
    · subst h
      go_enter Try.func20, Try.ntmps20
      go_wp2
      refine wp_loop_rounds 2 ?_
      rw [rounds_succ]
      go_wp2
      rw [rounds_succ]
      go_wp2
      go_ret
      exact ⟨rfl, rfl⟩
  · rw [if_neg h]
    go_enter Try.func20, Try.ntmps20
    go_wp2
    refine wp_loop_rounds 1 ?_
    rw [rounds_succ]
    go_wp2
    go_ret
    exact ⟨rfl, rfl⟩

/-- the order of two rated servers -/
def ordI (x y : Int × Nat) : Int := if cmpI y.2 x.2 = 0 then cmpI x.1 y.1 else cmpI y.2 x.2

set_option maxRecDepth 100000 in
set_option maxHeartbeats 1000000 in
theorem order_any (w : World) (x y : Int × Nat) :
    Calls Try.prog 14 #[.agg #[.int .i64 x.1, .int .u64 (x.2 : Nat)], .agg #[.int .i64 y.1, .int .u64 (y.2 : Nat)]] w fun e w' => e = .returned (.int .i64 (ordI x y)) ∧ ∃ q os', w' = grow (w.drewN q) os' := by
  have HU := hide (fun w => cmpU_any w y.2 x.2)
  have HS := hide (fun w => cmpS_any w x.1 y.1)
  have HR : Hid (ordI x y = if cmpI y.2 x.2 = 0 then cmpI x.1 y.1 else cmpI y.2 x.2) := rfl
  have HO := hide (fun w b c0 c1 => or_any w b (cmpI y.2 x.2) (cmpI x.1 y.1) c0 c1)
  rw [← unhide HR] at HO
  generalize ordI x y = R at *
  clear HR
  generalize cmpI y.2 x.2 = A at *
  generalize cmpI x.1 y.1 = B at *
  obtain ⟨xs, xw⟩ := x
  obtain ⟨ys, yw⟩ := y
  go_enter Try.func14, Try.ntmps14
  go_wp2_with fail
  refine world_at (R := fun W => (∃ os, W = grow w os) ∧ W.cell? ⟨w.heap.size, 0, none⟩ = some (.int .i64 xs) ∧ W.cell? ⟨w.heap.size, 1, none⟩ = some (.int .u64 (xw : Nat)) ∧ W.cell? ⟨w.heap.size + 1, 0, none⟩ = some (.int .i64 ys) ∧ W.cell? ⟨w.heap.size + 1, 1, none⟩ = some (.int .u64 (yw : Nat))) ⟨?_, ?_, ?_, ?_, ?_⟩ ?_
  · exact ⟨_, by rw [alloc_eq_grow, alloc_eq_grow, grow_grow]⟩
  · exact ((Blk.new w #[.int .i64 xs, .int .u64 (xw : Nat)] 38).alloc _).cell 0
  · exact ((Blk.new w #[.int .i64 xs, .int .u64 (xw : Nat)] 38).alloc _).cell 1
  · have h := (Blk.new (w.alloc (.cells #[.int .i64 xs, .int .u64 (xw : Nat)] 38)) #[.int .i64 ys, .int .u64 (yw : Nat)] 38).cell 0
    rw [World.size_alloc] at h
    exact h
  · have h := (Blk.new (w.alloc (.cells #[.int .i64 xs, .int .u64 (xw : Nat)] 38)) #[.int .i64 ys, .int .u64 (yw : Nat)] 38).cell 1
    rw [World.size_alloc] at h
    exact h
  rintro W ⟨⟨os0, hgr⟩, c1, c2, c3, c4⟩
  have HO2 : Hid (Calls Try.prog 20 #[.slice (some ⟨W.heap.size, 0, none⟩) 2 2] (W.alloc (.cells #[.int .i64 A, .int .i64 B] 3)).drew fun e w' => e = .returned (.int .i64 R) ∧ w' = (W.alloc (.cells #[.int .i64 A, .int .i64 B] 3)).drew) := by
    have hb := Blk.new W #[.int .i64 A, .int .i64 B] 3
    exact unhide HO _ _ (hb.cell 0) (hb.cell 1)
  have HGR := hide hgr
  clear HO hgr
  go_region_held3 (fun w' => w'.cell? ⟨w.heap.size, 0, none⟩ = some (.int .i64 xs) ∧ w'.cell? ⟨w.heap.size, 1, none⟩ = some (.int .u64 (xw : Nat)) ∧ w'.cell? ⟨w.heap.size + 1, 0, none⟩ = some (.int .i64 ys) ∧ w'.cell? ⟨w.heap.size + 1, 1, none⟩ = some (.int .u64 (yw : Nat))) (go_keep) (first
    | (go_at_call 21; refine (unhide HU _).mono ?_; rintro e w3 ⟨rfl, hq⟩; have hq' := hq.symm; subst hq')
    | (go_at_call 22; refine (unhide HS _).mono ?_; rintro e w3 ⟨rfl, hq⟩; have hq' := hq.symm; subst hq')
    | (go_at_call 20; refine (unhide HO2).mono ?_; rintro e w3 ⟨rfl, hq⟩; have hq' := hq.symm; subst hq'))
  all_goals
    go_wp2
    go_ret
    exact ⟨rfl, 1, _, by rw [unhide HGR, alloc_eq_grow, grow_grow]; rfl⟩
end Go.Proofs.Ytiafnfjgmfnnoab
