/- A Thing comes back out of a reader. -/
import Derived.Test.YtiabhgkndejigaaThingW
namespace Go.Proofs.Ytiabhgkndejigaa
open Go.RowKit

theorem leV_le (n k : Nat) : leV (le n k) = n % 256 ^ k := by
  induction k with
  | zero => simp [le, leV, Nat.mod_one]
  | succ k ih =>
    rw [le, leV_append, ih, le_len, leV, leV, Nat.pow_succ, Nat.mod_mul]
    simp

/-- Behind a call that takes what stands there. -/
def Took (w : World) (b : Nat) (lv bv : Value) (rest : List Nat) (w' : World) : Prop := (∃ lv', Rd w' b lv' bv rest ∧ lv'.ownBlock = lv.ownBlock) ∧ Kept [b] w w'

theorem copy_cells (t : Th) {w w' : World} {F : List Nat} (hk : Kept F (t.copy w) w') (hF : w.heap.size ∉ F) :
    w'.cell? ⟨w.heap.size, 0, none⟩ = some (.int .i64 t.kind) ∧ w'.cell? ⟨w.heap.size, 1, none⟩ = some (.int .u64 (t.n : Int)) ∧ w'.cell? ⟨w.heap.size, 2, none⟩ = some (.int .i64 t.i) ∧ w'.cell? ⟨w.heap.size, 3, none⟩ = some (.slice t.pa t.p.length t.pc) := by
  have hb : Blk w' w.heap.size #[.int .i64 t.kind, .int .u64 (t.n : Int), .int .i64 t.i, .slice t.pa t.p.length t.pc] 73 := (Blk.new w _ _).kept hk hF
  exact blk4 hb

set_option maxRecDepth 100000 in
set_option maxHeartbeats 400000 in
theorem back_0 {w : World} {b : Nat} {lv bv : Value} {rest : List Nat} (t : Th) (ok : t.ok) (h : Rd w b lv bv (t.bytes ++ rest)) (hb : ∀ x ∈ t.bytes ++ rest, x < 256) (hj : t.k = 0) :
    Calls Try.prog 37 #[t.val, .pointer (some ⟨b, 0, none⟩)] w fun e w' => e = .returned (.bool true) ∧ Took w b lv bv rest w' := by
  have HK := fun w => kind_any t w
  have HZ := fun w => size_any t w
  rw [show rnd t.kind 9 = 0 from hj] at HK
  have hbytes : t.bytes = [rnd t.i 256] := by simp [Th.bytes, hj]
  rw [hbytes] at h hb
  clear hbytes hj
  have hcc := fun (w' : World) (F : List Nat) => copy_cells t (w := w) (w' := w') (F := F)
  obtain ⟨k, n, i, pa, pc, p⟩ := t
  obtain ⟨hk1, hk2, hn, hi1, hi2, hp6⟩ := ok
  simp only [Th.val, Th.copy] at *
  have hbl := h.blk.lt
  have HC : Hid (∀ W, Kept [] (w.alloc (.cells #[.int .i64 k, .int .u64 (n : Int), .int .i64 i, .slice pa p.length pc] 73)) W → Calls Try.prog 25 #[.pointer (some ⟨b, 0, none⟩)] W fun e w' => e = .returned (.int .i64 (rnd i 256 : Nat)) ∧ Hid (Took w b lv bv rest w') ∧ w'.cell? ⟨w.heap.size, 0, none⟩ = some (.int .i64 k) ∧ w'.cell? ⟨w.heap.size, 1, none⟩ = some (.int .u64 (n : Int)) ∧ w'.cell? ⟨w.heap.size, 2, none⟩ = some (.int .i64 i) ∧ w'.cell? ⟨w.heap.size, 3, none⟩ = some (.slice pa p.length pc)) := by
    refine hide fun W hW => ?_
    have k0 : Kept [] w W := ((Kept.refl [] w).alloc _).trans hW (by simp)
    refine (rbyte_ok (h.kept k0 (by simp) (by simp)) (rnd_lt _ _ (by omega))).mono ?_
    rintro e w' ⟨rfl, hr, hk⟩
    have hk' : Kept [b] (w.alloc (.cells #[.int .i64 k, .int .u64 (n : Int), .int .i64 i, .slice pa p.length pc] 73)) w' := (hW.mono (by simp)).trans hk (fun x hx => Or.inl hx)
    exact ⟨rfl, hide ⟨hr, (k0.mono (by simp)).trans hk (fun x hx => Or.inl hx)⟩, hcc w' [b] hk' (by simp; omega)⟩
  clear h hb hp6 hcc
  have hr8 : 1 + rnd i 8 ≤ 8 := by have := rnd_lt i 8 (by omega); omega
  have hr256 := rnd_lt i 256 (by omega)
  have HR := fun w => round_any i 256 w (by omega) (by omega)
  generalize hz8 : 1 + rnd i 8 = r8 at *
  have hr1 : 1 ≤ r8 := by omega
  clear hz8
  generalize rnd i 256 = r256 at *
  go_enter Try.func37, Try.ntmps37
  go_wp2_with (first | (go_at_call 90; refine (HK _).mono ?_; rintro e w' ⟨rfl, rfl⟩) | (go_at_call 92; refine (HZ _).mono ?_; rintro e w' ⟨rfl, rfl⟩))
  go_region_with (first | (go_at_call 11; refine (HR _).mono ?_; rintro e w' ⟨rfl, rfl⟩) | (go_at_call 25; refine (unhide HC _ ?_).mono ?_; exact (((Kept.refl [] _).alloc _).drew); rintro e w1 ⟨rfl, HX, q0, q1, q2, q3⟩))
  all_goals go_wp2_with fail
  all_goals go_ret
  all_goals exact ⟨rfl, unhide HX⟩

set_option maxRecDepth 100000 in
set_option maxHeartbeats 400000 in
theorem back_1 {w : World} {b : Nat} {lv bv : Value} {rest : List Nat} (t : Th) (ok : t.ok) (h : Rd w b lv bv (t.bytes ++ rest)) (hb : ∀ x ∈ t.bytes ++ rest, x < 256) (hj : t.k = 1) :
    Calls Try.prog 37 #[t.val, .pointer (some ⟨b, 0, none⟩)] w fun e w' => e = .returned (.bool true) ∧ Took w b lv bv rest w' := by
  have HK := fun w => kind_any t w
  have HZ := fun w => size_any t w
  rw [show rnd t.kind 9 = 1 from hj] at HK
  have hbytes : t.bytes = le t.n (1 + rnd t.i 8) := by simp [Th.bytes, hj]
  rw [hbytes] at h hb
  clear hbytes hj
  have hcc := fun (w' : World) (F : List Nat) => copy_cells t (w := w) (w' := w') (F := F)
  obtain ⟨k, n, i, pa, pc, p⟩ := t
  obtain ⟨hk1, hk2, hn, hi1, hi2, hp6⟩ := ok
  simp only [Th.val, Th.copy] at *
  have hbl := h.blk.lt
  have HC : Hid (∀ W, Kept [] (w.alloc (.cells #[.int .i64 k, .int .u64 (n : Int), .int .i64 i, .slice pa p.length pc] 73)) W → Calls Try.prog 59 #[.pointer (some ⟨b, 0, none⟩), .int .i64 (1 + rnd i 8 : Nat)] W fun e w' => e = .returned (.int .u64 (n % 256 ^ (1 + rnd i 8) : Nat)) ∧ Hid (Took w b lv bv rest w') ∧ w'.cell? ⟨w.heap.size, 0, none⟩ = some (.int .i64 k) ∧ w'.cell? ⟨w.heap.size, 1, none⟩ = some (.int .u64 (n : Int)) ∧ w'.cell? ⟨w.heap.size, 2, none⟩ = some (.int .i64 i) ∧ w'.cell? ⟨w.heap.size, 3, none⟩ = some (.slice pa p.length pc)) := by
    refine hide fun W hW => ?_
    have k0 : Kept [] w W := ((Kept.refl [] w).alloc _).trans hW (by simp)
    have hln : (le n (1 + rnd i 8)).length = 1 + rnd i 8 := le_len _ _
    have hr8 := rnd_lt i 8 (by omega)
    refine (rfixed_ok (h.kept k0 (by simp) (by simp)) hb (1 + rnd i 8) (by omega) (by omega) (by simp [hln])).mono ?_
    rintro e w' ⟨rfl, hr, hk⟩
    rw [List.take_left' hln, leV_le]
    rw [List.drop_left' hln] at hr
    have hk' : Kept [b] (w.alloc (.cells #[.int .i64 k, .int .u64 (n : Int), .int .i64 i, .slice pa p.length pc] 73)) w' := (hW.mono (by simp)).trans hk (fun x hx => Or.inl hx)
    exact ⟨rfl, hide ⟨hr, (k0.mono (by simp)).trans hk (fun x hx => Or.inl hx)⟩, hcc w' [b] hk' (by simp; omega)⟩
  clear h hb hp6 hcc
  have hr8 : 1 + rnd i 8 ≤ 8 := by have := rnd_lt i 8 (by omega); omega
  have hr256 := rnd_lt i 256 (by omega)
  have HR := fun w => round_any i 256 w (by omega) (by omega)
  generalize hz8 : 1 + rnd i 8 = r8 at *
  have hr1 : 1 ≤ r8 := by omega
  clear hz8
  generalize rnd i 256 = r256 at *
  by_cases h8 : r8 < 8
  · have d1 : decide ((r8 : Int) < 8) = true := by simp; omega
    have e1 : IntKind.u64.wrap (2 ^ (8 * r8)) = ((256 ^ r8 : Nat) : Int) := by
      rw [pow256i, IntKind.wrap_u64]
      have h2 : 256 ^ r8 ≤ 256 ^ 7 := Nat.pow_le_pow_right (by omega) (by omega)
      generalize 256 ^ r8 = M at *
      omega
    have hM : 0 < 256 ^ r8 := Nat.pow_pos (by omega)
    generalize 256 ^ r8 = M at *
    have e2 : (M : Int) ≠ 0 := by omega
    clear h8 hM
    go_enter Try.func37, Try.ntmps37
    go_wp2_with (first | (go_at_call 90; refine (HK _).mono ?_; rintro e w' ⟨rfl, rfl⟩) | (go_at_call 92; refine (HZ _).mono ?_; rintro e w' ⟨rfl, rfl⟩) | (go_at_call 59; refine (unhide HC _ ?_).mono ?_; exact ((((Kept.refl [] _).alloc _).alloc _).alloc _).alloc _; rintro e w1 ⟨rfl, HX, q0, q1, q2, q3⟩))
    go_ret
    exact ⟨rfl, unhide HX⟩
  · have e8 : r8 = 8 := by omega
    subst e8
    have e1 : n % 256 ^ 8 = n := Nat.mod_eq_of_lt (by simpa using hn)
    rw [e1] at HC
    clear h8 e1
    go_enter Try.func37, Try.ntmps37
    go_wp2_with (first | (go_at_call 90; refine (HK _).mono ?_; rintro e w' ⟨rfl, rfl⟩) | (go_at_call 92; refine (HZ _).mono ?_; rintro e w' ⟨rfl, rfl⟩) | (go_at_call 59; refine (unhide HC _ ?_).mono ?_; exact ((((Kept.refl [] _).alloc _).alloc _).alloc _); rintro e w1 ⟨rfl, HX, q0, q1, q2, q3⟩))
    go_ret
    exact ⟨rfl, unhide HX⟩

set_option maxRecDepth 100000 in
set_option maxHeartbeats 400000 in
theorem back_2 {w : World} {b : Nat} {lv bv : Value} {rest : List Nat} (t : Th) (ok : t.ok) (h : Rd w b lv bv (t.bytes ++ rest)) (hb : ∀ x ∈ t.bytes ++ rest, x < 256) (hj : t.k = 2) :
    Calls Try.prog 37 #[t.val, .pointer (some ⟨b, 0, none⟩)] w fun e w' => e = .returned (.bool true) ∧ Took w b lv bv rest w' := by
  have HK := fun w => kind_any t w
  have HZ := fun w => size_any t w
  rw [show rnd t.kind 9 = 2 from hj] at HK
  have hbytes : t.bytes = form t.n := by simp [Th.bytes, hj]
  rw [hbytes] at h hb
  clear hbytes hj
  have hcc := fun (w' : World) (F : List Nat) => copy_cells t (w := w) (w' := w') (F := F)
  obtain ⟨k, n, i, pa, pc, p⟩ := t
  obtain ⟨hk1, hk2, hn, hi1, hi2, hp6⟩ := ok
  simp only [Th.val, Th.copy] at *
  have hbl := h.blk.lt
  have HC : Hid (∀ W, Kept [] (w.alloc (.cells #[.int .i64 k, .int .u64 (n : Int), .int .i64 i, .slice pa p.length pc] 73)) W → Calls Try.prog 23 #[.pointer (some ⟨b, 0, none⟩)] W fun e w' => e = .returned (.int .u64 (n : Int)) ∧ Hid (Took w b lv bv rest w') ∧ w'.cell? ⟨w.heap.size, 0, none⟩ = some (.int .i64 k) ∧ w'.cell? ⟨w.heap.size, 1, none⟩ = some (.int .u64 (n : Int)) ∧ w'.cell? ⟨w.heap.size, 2, none⟩ = some (.int .i64 i) ∧ w'.cell? ⟨w.heap.size, 3, none⟩ = some (.slice pa p.length pc)) := by
    refine hide fun W hW => ?_
    have k0 : Kept [] w W := ((Kept.refl [] w).alloc _).trans hW (by simp)
    refine (rnum_ok (h.kept k0 (by simp) (by simp)) hb (read_form0 n rest hn)).mono ?_
    rintro e w' ⟨rfl, hr, hk⟩
    have hk' : Kept [b] (w.alloc (.cells #[.int .i64 k, .int .u64 (n : Int), .int .i64 i, .slice pa p.length pc] 73)) w' := (hW.mono (by simp)).trans hk (fun x hx => Or.inl hx)
    exact ⟨rfl, hide ⟨hr, (k0.mono (by simp)).trans hk (fun x hx => Or.inl hx)⟩, hcc w' [b] hk' (by simp; omega)⟩
  clear h hb hp6 hcc
  have hr8 : 1 + rnd i 8 ≤ 8 := by have := rnd_lt i 8 (by omega); omega
  have hr256 := rnd_lt i 256 (by omega)
  have HR := fun w => round_any i 256 w (by omega) (by omega)
  generalize hz8 : 1 + rnd i 8 = r8 at *
  have hr1 : 1 ≤ r8 := by omega
  clear hz8
  generalize rnd i 256 = r256 at *
  go_enter Try.func37, Try.ntmps37
  go_wp2_with (first | (go_at_call 90; refine (HK _).mono ?_; rintro e w' ⟨rfl, rfl⟩) | (go_at_call 92; refine (HZ _).mono ?_; rintro e w' ⟨rfl, rfl⟩))
  go_region_with (first | (go_at_call 11; refine (HR _).mono ?_; rintro e w' ⟨rfl, rfl⟩) | (go_at_call 23; refine (unhide HC _ ?_).mono ?_; exact (((Kept.refl [] _).alloc _).drew); rintro e w1 ⟨rfl, HX, q0, q1, q2, q3⟩))
  all_goals go_wp2_with fail
  all_goals go_ret
  all_goals exact ⟨rfl, unhide HX⟩

set_option maxRecDepth 100000 in
set_option maxHeartbeats 400000 in
theorem back_3 {w : World} {b : Nat} {lv bv : Value} {rest : List Nat} (t : Th) (ok : t.ok) (h : Rd w b lv bv (t.bytes ++ rest)) (hb : ∀ x ∈ t.bytes ++ rest, x < 256) (hj : t.k = 3) :
    Calls Try.prog 37 #[t.val, .pointer (some ⟨b, 0, none⟩)] w fun e w' => e = .returned (.bool true) ∧ Took w b lv bv rest w' := by
  have HK := fun w => kind_any t w
  have HZ := fun w => size_any t w
  rw [show rnd t.kind 9 = 3 from hj] at HK
  have hbytes : t.bytes = form (fold t.i) := by simp [Th.bytes, hj]
  rw [hbytes] at h hb
  clear hbytes hj
  have hcc := fun (w' : World) (F : List Nat) => copy_cells t (w := w) (w' := w') (F := F)
  obtain ⟨k, n, i, pa, pc, p⟩ := t
  obtain ⟨hk1, hk2, hn, hi1, hi2, hp6⟩ := ok
  simp only [Th.val, Th.copy] at *
  have hbl := h.blk.lt
  have HC : Hid (∀ W, Kept [] (w.alloc (.cells #[.int .i64 k, .int .u64 (n : Int), .int .i64 i, .slice pa p.length pc] 73)) W → Calls Try.prog 28 #[.pointer (some ⟨b, 0, none⟩)] W fun e w' => e = .returned (.int .i64 i) ∧ Hid (Took w b lv bv rest w') ∧ w'.cell? ⟨w.heap.size, 0, none⟩ = some (.int .i64 k) ∧ w'.cell? ⟨w.heap.size, 1, none⟩ = some (.int .u64 (n : Int)) ∧ w'.cell? ⟨w.heap.size, 2, none⟩ = some (.int .i64 i) ∧ w'.cell? ⟨w.heap.size, 3, none⟩ = some (.slice pa p.length pc)) := by
    refine hide fun W hW => ?_
    have k0 : Kept [] w W := ((Kept.refl [] w).alloc _).trans hW (by simp)
    refine (rint_ok (h.kept k0 (by simp) (by simp)) hb (read_form0 _ rest (fold_lt i hi1 hi2))).mono ?_
    rintro e w' ⟨rfl, hr, hk⟩
    rw [unfold_fold]
    have hk' : Kept [b] (w.alloc (.cells #[.int .i64 k, .int .u64 (n : Int), .int .i64 i, .slice pa p.length pc] 73)) w' := (hW.mono (by simp)).trans hk (fun x hx => Or.inl hx)
    exact ⟨rfl, hide ⟨hr, (k0.mono (by simp)).trans hk (fun x hx => Or.inl hx)⟩, hcc w' [b] hk' (by simp; omega)⟩
  clear h hb hp6 hcc
  have hr8 : 1 + rnd i 8 ≤ 8 := by have := rnd_lt i 8 (by omega); omega
  have hr256 := rnd_lt i 256 (by omega)
  have HR := fun w => round_any i 256 w (by omega) (by omega)
  generalize hz8 : 1 + rnd i 8 = r8 at *
  have hr1 : 1 ≤ r8 := by omega
  clear hz8
  generalize rnd i 256 = r256 at *
  go_enter Try.func37, Try.ntmps37
  go_wp2_with (first | (go_at_call 90; refine (HK _).mono ?_; rintro e w' ⟨rfl, rfl⟩) | (go_at_call 92; refine (HZ _).mono ?_; rintro e w' ⟨rfl, rfl⟩))
  go_region_with (first | (go_at_call 11; refine (HR _).mono ?_; rintro e w' ⟨rfl, rfl⟩) | (go_at_call 28; refine (unhide HC _ ?_).mono ?_; exact (((Kept.refl [] _).alloc _).drew); rintro e w1 ⟨rfl, HX, q0, q1, q2, q3⟩))
  all_goals go_wp2_with fail
  all_goals go_ret
  all_goals exact ⟨rfl, unhide HX⟩
end Go.Proofs.Ytiabhgkndejigaa
