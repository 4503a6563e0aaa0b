/- A Thing goes into a writer. -/
import Derived.Test.YtiabhgkndejigabThing
import Derived.Test.YtiabhgkndejigabFar
namespace Go.Proofs.Ytiabhgkndejigab
open Go.RowKit

def Th.k (t : Th) : Nat := rnd t.kind 9
theorem Th.k_lt (t : Th) : t.k < 9 := rnd_lt _ _ (by omega)
/-- What a thing that is no Open and no Close is laid down as. -/
def Th.bytes (t : Th) : List Nat :=
  match t.k with
  | 0 => [rnd t.i 256]
  | 1 => le t.n (1 + rnd t.i 8)
  | 2 => form t.n
  | 3 => form (fold t.i)
  | 4 => be8 (canon t.n)
  | 5 => t.p
  | 6 => form t.p.length ++ t.p
  | _ => []
def Th.lay (t : Th) (s : WS) : WS := if t.k = 7 then wOpen s else if t.k = 8 then wClose s else wLay s t.bytes

theorem Th.copy_kept (t : Th) (w : World) : Kept [] w (t.copy w) := (Kept.refl [] w).alloc _

set_option maxRecDepth 100000 in
set_option maxHeartbeats 400000 in
theorem lay_0 {w : World} {b : Nat} {s : WS} {v sv : Value} (h : Wr w b s v sv) (t : Th) (ok : t.ok) (hS : Far w t.pv t.p (foot b v sv)) (hl : s.bs.length ≤ 1000000000000) (hp : t.p.length ≤ 1000000000000) (_hst : ∀ x ∈ s.sts, x ≤ s.bs.length) (hj : t.k = 0) :
    Calls Try.prog 15 #[t.val, .pointer (some ⟨b, 0, none⟩)] w fun e w' => e = .returned (.tuple #[]) ∧ WPost w b v sv (t.lay s) w' := by
  have HK := fun w => kind_any t w
  have HZ := fun w => size_any t w
  rw [show rnd t.kind 9 = 0 from hj] at HK
  have hlay : t.lay s = wLay s [rnd t.i 256] := by simp [Th.lay, Th.bytes, hj]
  rw [hlay]
  clear hlay hj
  have hc := fun w => Th.copy_kept t w
  obtain ⟨k, n, i, pa, pc, p⟩ := t
  obtain ⟨hk1, hk2, hn, hi1, hi2, hp6⟩ := ok
  simp only [Th.val, Th.pv, Th.copy] at *
  have HC : Hid (∀ W, Kept [] w W → Calls Try.prog 26 #[.pointer (some ⟨b, 0, none⟩), .int .i64 (rnd i 256 : Nat)] W fun e w' => e = .returned (.tuple #[]) ∧ WPost w b v sv (wLay s [rnd i 256]) w') := by
    have hWr : ∀ W, Kept [] w W → Wr W b s v sv := fun W hk => h.kept hk (by simp)
    have hSee : ∀ W, Kept [] w W → Far W (.slice pa p.length pc) p (foot b v sv) := fun W hk => hS.keep hk
    refine hide fun W hk => ?_
    refine (wbyte_in (hWr _ hk) (rnd i 256) (rnd_lt _ _ (by omega)) hl).mono ?_
    rintro e w' ⟨rfl, hp⟩
    exact ⟨rfl, hp.from hk⟩
  clear h hS _hst hp6 hc
  have hr8 : 1 + rnd i 8 ≤ 8 := by have := rnd_lt i 8 (by omega); omega
  have hr256 := rnd_lt i 256 (by omega)
  have HR := fun w => round_any i 256 w (by omega) (by omega)
  generalize 1 + rnd i 8 = r8 at *
  generalize rnd i 256 = r256 at *
  go_enter Try.func15, Try.ntmps15
  go_wp2_with (first | (go_at_call 29; refine (HK _).mono ?_; rintro e w' ⟨rfl, rfl⟩) | (go_at_call 42; refine (HZ _).mono ?_; rintro e w' ⟨rfl, rfl⟩) | (go_at_call 11; refine (HR _).mono ?_; rintro e w' ⟨rfl, rfl⟩) | (go_at_call 26; refine (unhide HC _ ?_).mono ?_; exact (((Kept.refl [] w).alloc _).alloc _); rintro e w1 ⟨rfl, HX⟩) | (go_at_call 26; refine (unhide HC _ ?_).mono ?_; exact ((((Kept.refl [] w).alloc _).alloc _).alloc _); rintro e w1 ⟨rfl, HX⟩))
  go_end0
  exact ⟨rfl, HX⟩

set_option maxRecDepth 100000 in
set_option maxHeartbeats 400000 in
theorem lay_1 {w : World} {b : Nat} {s : WS} {v sv : Value} (h : Wr w b s v sv) (t : Th) (ok : t.ok) (hS : Far w t.pv t.p (foot b v sv)) (hl : s.bs.length ≤ 1000000000000) (hp : t.p.length ≤ 1000000000000) (_hst : ∀ x ∈ s.sts, x ≤ s.bs.length) (hj : t.k = 1) :
    Calls Try.prog 15 #[t.val, .pointer (some ⟨b, 0, none⟩)] w fun e w' => e = .returned (.tuple #[]) ∧ WPost w b v sv (t.lay s) w' := by
  have HK := fun w => kind_any t w
  have HZ := fun w => size_any t w
  rw [show rnd t.kind 9 = 1 from hj] at HK
  have hlay : t.lay s = wLay s (le t.n (1 + rnd t.i 8)) := by simp [Th.lay, Th.bytes, hj]
  rw [hlay]
  clear hlay hj
  have hc := fun w => Th.copy_kept t w
  obtain ⟨k, n, i, pa, pc, p⟩ := t
  obtain ⟨hk1, hk2, hn, hi1, hi2, hp6⟩ := ok
  simp only [Th.val, Th.pv, Th.copy] at *
  have HC : Hid (∀ W, Kept [] w W → Calls Try.prog 27 #[.pointer (some ⟨b, 0, none⟩), .int .u64 (n : Int), .int .i64 (1 + rnd i 8 : Nat)] W fun e w' => e = .returned (.tuple #[]) ∧ WPost w b v sv (wLay s (le n (1 + rnd i 8))) w') := by
    have hWr : ∀ W, Kept [] w W → Wr W b s v sv := fun W hk => h.kept hk (by simp)
    have hSee : ∀ W, Kept [] w W → Far W (.slice pa p.length pc) p (foot b v sv) := fun W hk => hS.keep hk
    refine hide fun W hk => ?_
    refine (wfixed_in (hWr _ hk) n (1 + rnd i 8) hn (by omega) (by have := rnd_lt i 8 (by omega); omega) hl).mono ?_
    rintro e w' ⟨rfl, hp⟩
    exact ⟨rfl, hp.from hk⟩
  clear h hS _hst hp6 hc
  have hr8 : 1 + rnd i 8 ≤ 8 := by have := rnd_lt i 8 (by omega); omega
  have hr256 := rnd_lt i 256 (by omega)
  have HR := fun w => round_any i 256 w (by omega) (by omega)
  generalize 1 + rnd i 8 = r8 at *
  generalize rnd i 256 = r256 at *
  go_enter Try.func15, Try.ntmps15
  go_wp2_with (first | (go_at_call 29; refine (HK _).mono ?_; rintro e w' ⟨rfl, rfl⟩) | (go_at_call 42; refine (HZ _).mono ?_; rintro e w' ⟨rfl, rfl⟩) | (go_at_call 11; refine (HR _).mono ?_; rintro e w' ⟨rfl, rfl⟩) | (go_at_call 27; refine (unhide HC _ ?_).mono ?_; exact (((Kept.refl [] w).alloc _).alloc _); rintro e w1 ⟨rfl, HX⟩) | (go_at_call 27; refine (unhide HC _ ?_).mono ?_; exact ((((Kept.refl [] w).alloc _).alloc _).alloc _); rintro e w1 ⟨rfl, HX⟩))
  go_region_with (first | (go_at_call 42; refine (HZ _).mono ?_; rintro e w' ⟨rfl, rfl⟩) | (go_at_call 27; refine (unhide HC _ ?_).mono ?_; exact ((((Kept.refl [] w).alloc _).alloc _).drew.alloc _); rintro e w1 ⟨rfl, HX⟩))
  all_goals (try go_wp2_with (first | (go_at_call 27; refine (unhide HC _ ?_).mono ?_; exact ((((Kept.refl [] w).alloc _).alloc _).drew.alloc _); rintro e w1 ⟨rfl, HX⟩)))
  all_goals go_end0
  all_goals exact ⟨rfl, HX⟩

set_option maxRecDepth 100000 in
set_option maxHeartbeats 400000 in
theorem lay_2 {w : World} {b : Nat} {s : WS} {v sv : Value} (h : Wr w b s v sv) (t : Th) (ok : t.ok) (hS : Far w t.pv t.p (foot b v sv)) (hl : s.bs.length ≤ 1000000000000) (hp : t.p.length ≤ 1000000000000) (_hst : ∀ x ∈ s.sts, x ≤ s.bs.length) (hj : t.k = 2) :
    Calls Try.prog 15 #[t.val, .pointer (some ⟨b, 0, none⟩)] w fun e w' => e = .returned (.tuple #[]) ∧ WPost w b v sv (t.lay s) w' := by
  have HK := fun w => kind_any t w
  have HZ := fun w => size_any t w
  rw [show rnd t.kind 9 = 2 from hj] at HK
  have hlay : t.lay s = wLay s (form t.n) := by simp [Th.lay, Th.bytes, hj]
  rw [hlay]
  clear hlay hj
  have hc := fun w => Th.copy_kept t w
  obtain ⟨k, n, i, pa, pc, p⟩ := t
  obtain ⟨hk1, hk2, hn, hi1, hi2, hp6⟩ := ok
  simp only [Th.val, Th.pv, Th.copy] at *
  have HC : Hid (∀ W, Kept [] w W → Calls Try.prog 37 #[.pointer (some ⟨b, 0, none⟩), .int .u64 (n : Int)] W fun e w' => e = .returned (.tuple #[]) ∧ WPost w b v sv (wLay s (form n)) w') := by
    have hWr : ∀ W, Kept [] w W → Wr W b s v sv := fun W hk => h.kept hk (by simp)
    have hSee : ∀ W, Kept [] w W → Far W (.slice pa p.length pc) p (foot b v sv) := fun W hk => hS.keep hk
    refine hide fun W hk => ?_
    refine (wnum_any (hWr _ hk) n hn hl).mono ?_
    rintro e w' ⟨rfl, hp⟩
    exact ⟨rfl, hp.from hk⟩
  clear h hS _hst hp6 hc
  have hr8 : 1 + rnd i 8 ≤ 8 := by have := rnd_lt i 8 (by omega); omega
  have hr256 := rnd_lt i 256 (by omega)
  have HR := fun w => round_any i 256 w (by omega) (by omega)
  generalize 1 + rnd i 8 = r8 at *
  generalize rnd i 256 = r256 at *
  go_enter Try.func15, Try.ntmps15
  go_wp2_with (first | (go_at_call 29; refine (HK _).mono ?_; rintro e w' ⟨rfl, rfl⟩) | (go_at_call 42; refine (HZ _).mono ?_; rintro e w' ⟨rfl, rfl⟩) | (go_at_call 11; refine (HR _).mono ?_; rintro e w' ⟨rfl, rfl⟩) | (go_at_call 37; refine (unhide HC _ ?_).mono ?_; exact (((Kept.refl [] w).alloc _).alloc _); rintro e w1 ⟨rfl, HX⟩) | (go_at_call 37; refine (unhide HC _ ?_).mono ?_; exact ((((Kept.refl [] w).alloc _).alloc _).alloc _); rintro e w1 ⟨rfl, HX⟩))
  go_end0
  exact ⟨rfl, HX⟩

set_option maxRecDepth 100000 in
set_option maxHeartbeats 400000 in
theorem lay_3 {w : World} {b : Nat} {s : WS} {v sv : Value} (h : Wr w b s v sv) (t : Th) (ok : t.ok) (hS : Far w t.pv t.p (foot b v sv)) (hl : s.bs.length ≤ 1000000000000) (hp : t.p.length ≤ 1000000000000) (_hst : ∀ x ∈ s.sts, x ≤ s.bs.length) (hj : t.k = 3) :
    Calls Try.prog 15 #[t.val, .pointer (some ⟨b, 0, none⟩)] w fun e w' => e = .returned (.tuple #[]) ∧ WPost w b v sv (t.lay s) w' := by
  have HK := fun w => kind_any t w
  have HZ := fun w => size_any t w
  rw [show rnd t.kind 9 = 3 from hj] at HK
  have hlay : t.lay s = wLay s (form (fold t.i)) := by simp [Th.lay, Th.bytes, hj]
  rw [hlay]
  clear hlay hj
  have hc := fun w => Th.copy_kept t w
  obtain ⟨k, n, i, pa, pc, p⟩ := t
  obtain ⟨hk1, hk2, hn, hi1, hi2, hp6⟩ := ok
  simp only [Th.val, Th.pv, Th.copy] at *
  have HC : Hid (∀ W, Kept [] w W → Calls Try.prog 46 #[.pointer (some ⟨b, 0, none⟩), .int .i64 i] W fun e w' => e = .returned (.tuple #[]) ∧ WPost w b v sv (wLay s (form (fold i))) w') := by
    have hWr : ∀ W, Kept [] w W → Wr W b s v sv := fun W hk => h.kept hk (by simp)
    have hSee : ∀ W, Kept [] w W → Far W (.slice pa p.length pc) p (foot b v sv) := fun W hk => hS.keep hk
    refine hide fun W hk => ?_
    refine (wint_any (hWr _ hk) i hi1 hi2 hl).mono ?_
    rintro e w' ⟨rfl, hp⟩
    exact ⟨rfl, hp.from hk⟩
  clear h hS _hst hp6 hc
  have hr8 : 1 + rnd i 8 ≤ 8 := by have := rnd_lt i 8 (by omega); omega
  have hr256 := rnd_lt i 256 (by omega)
  have HR := fun w => round_any i 256 w (by omega) (by omega)
  generalize 1 + rnd i 8 = r8 at *
  generalize rnd i 256 = r256 at *
  go_enter Try.func15, Try.ntmps15
  go_wp2_with (first | (go_at_call 29; refine (HK _).mono ?_; rintro e w' ⟨rfl, rfl⟩) | (go_at_call 42; refine (HZ _).mono ?_; rintro e w' ⟨rfl, rfl⟩) | (go_at_call 11; refine (HR _).mono ?_; rintro e w' ⟨rfl, rfl⟩) | (go_at_call 46; refine (unhide HC _ ?_).mono ?_; exact (((Kept.refl [] w).alloc _).alloc _); rintro e w1 ⟨rfl, HX⟩) | (go_at_call 46; refine (unhide HC _ ?_).mono ?_; exact ((((Kept.refl [] w).alloc _).alloc _).alloc _); rintro e w1 ⟨rfl, HX⟩))
  go_end0
  exact ⟨rfl, HX⟩

set_option maxRecDepth 100000 in
set_option maxHeartbeats 400000 in
theorem lay_4 {w : World} {b : Nat} {s : WS} {v sv : Value} (h : Wr w b s v sv) (t : Th) (ok : t.ok) (hS : Far w t.pv t.p (foot b v sv)) (hl : s.bs.length ≤ 1000000000000) (hp : t.p.length ≤ 1000000000000) (_hst : ∀ x ∈ s.sts, x ≤ s.bs.length) (hj : t.k = 4) :
    Calls Try.prog 15 #[t.val, .pointer (some ⟨b, 0, none⟩)] w fun e w' => e = .returned (.tuple #[]) ∧ WPost w b v sv (t.lay s) w' := by
  have HK := fun w => kind_any t w
  have HZ := fun w => size_any t w
  rw [show rnd t.kind 9 = 4 from hj] at HK
  have hlay : t.lay s = wLay s (be8 (canon t.n)) := by simp [Th.lay, Th.bytes, hj]
  rw [hlay]
  clear hlay hj
  have hc := fun w => Th.copy_kept t w
  obtain ⟨k, n, i, pa, pc, p⟩ := t
  obtain ⟨hk1, hk2, hn, hi1, hi2, hp6⟩ := ok
  simp only [Th.val, Th.pv, Th.copy] at *
  have HC : Hid (∀ W, Kept [] w W → Calls Try.prog 47 #[.pointer (some ⟨b, 0, none⟩), .float .f64 n] W fun e w' => e = .returned (.tuple #[]) ∧ WPost w b v sv (wLay s (be8 (canon n))) w') := by
    have hWr : ∀ W, Kept [] w W → Wr W b s v sv := fun W hk => h.kept hk (by simp)
    have hSee : ∀ W, Kept [] w W → Far W (.slice pa p.length pc) p (foot b v sv) := fun W hk => hS.keep hk
    refine hide fun W hk => ?_
    refine (wreal_any (hWr _ hk) n hn hl).mono ?_
    rintro e w' ⟨rfl, hp⟩
    exact ⟨rfl, hp.from hk⟩
  clear h hS _hst hp6 hc
  have hr8 : 1 + rnd i 8 ≤ 8 := by have := rnd_lt i 8 (by omega); omega
  have hr256 := rnd_lt i 256 (by omega)
  have HR := fun w => round_any i 256 w (by omega) (by omega)
  generalize 1 + rnd i 8 = r8 at *
  generalize rnd i 256 = r256 at *
  have h29 := fb29
  go_enter Try.func15, Try.ntmps15
  go_wp2_with (first | (go_at_call 29; refine (HK _).mono ?_; rintro e w' ⟨rfl, rfl⟩) | (go_at_call 42; refine (HZ _).mono ?_; rintro e w' ⟨rfl, rfl⟩) | (go_at_call 11; refine (HR _).mono ?_; rintro e w' ⟨rfl, rfl⟩) | (go_at_call 47; refine (unhide HC _ ?_).mono ?_; exact (((Kept.refl [] w).alloc _).alloc _); rintro e w1 ⟨rfl, HX⟩) | (go_at_call 47; refine (unhide HC _ ?_).mono ?_; exact ((((Kept.refl [] w).alloc _).alloc _).alloc _); rintro e w1 ⟨rfl, HX⟩))
  go_end0
  exact ⟨rfl, HX⟩

set_option maxRecDepth 100000 in
set_option maxHeartbeats 400000 in
theorem lay_5 {w : World} {b : Nat} {s : WS} {v sv : Value} (h : Wr w b s v sv) (t : Th) (ok : t.ok) (hS : Far w t.pv t.p (foot b v sv)) (hl : s.bs.length ≤ 1000000000000) (hp : t.p.length ≤ 1000000000000) (_hst : ∀ x ∈ s.sts, x ≤ s.bs.length) (hj : t.k = 5) :
    Calls Try.prog 15 #[t.val, .pointer (some ⟨b, 0, none⟩)] w fun e w' => e = .returned (.tuple #[]) ∧ WPost w b v sv (t.lay s) w' := by
  have HK := fun w => kind_any t w
  have HZ := fun w => size_any t w
  rw [show rnd t.kind 9 = 5 from hj] at HK
  have hlay : t.lay s = wLay s t.p := by simp [Th.lay, Th.bytes, hj]
  rw [hlay]
  clear hlay hj
  have hc := fun w => Th.copy_kept t w
  obtain ⟨k, n, i, pa, pc, p⟩ := t
  obtain ⟨hk1, hk2, hn, hi1, hi2, hp6⟩ := ok
  simp only [Th.val, Th.pv, Th.copy] at *
  have HC : Hid (∀ W, Kept [] w W → Calls Try.prog 19 #[.pointer (some ⟨b, 0, none⟩), .slice pa p.length pc] W fun e w' => e = .returned (.tuple #[]) ∧ WPost w b v sv (wLay s p) w') := by
    have hWr : ∀ W, Kept [] w W → Wr W b s v sv := fun W hk => h.kept hk (by simp)
    have hSee : ∀ W, Kept [] w W → Far W (.slice pa p.length pc) p (foot b v sv) := fun W hk => hS.keep hk
    refine hide fun W hk => ?_
    refine (wraw_anyE (hWr _ hk) (.slice pa p.length pc) p (hSee _ hk) (by omega)).mono ?_
    rintro e w' ⟨rfl, hp⟩
    exact ⟨rfl, hp.from hk⟩
  clear h hS _hst hp6 hc
  have hr8 : 1 + rnd i 8 ≤ 8 := by have := rnd_lt i 8 (by omega); omega
  have hr256 := rnd_lt i 256 (by omega)
  have HR := fun w => round_any i 256 w (by omega) (by omega)
  generalize 1 + rnd i 8 = r8 at *
  generalize rnd i 256 = r256 at *
  go_enter Try.func15, Try.ntmps15
  go_wp2_with (first | (go_at_call 29; refine (HK _).mono ?_; rintro e w' ⟨rfl, rfl⟩) | (go_at_call 42; refine (HZ _).mono ?_; rintro e w' ⟨rfl, rfl⟩) | (go_at_call 11; refine (HR _).mono ?_; rintro e w' ⟨rfl, rfl⟩) | (go_at_call 19; refine (unhide HC _ ?_).mono ?_; exact (((Kept.refl [] w).alloc _).alloc _); rintro e w1 ⟨rfl, HX⟩) | (go_at_call 19; refine (unhide HC _ ?_).mono ?_; exact ((((Kept.refl [] w).alloc _).alloc _).alloc _); rintro e w1 ⟨rfl, HX⟩))
  go_end0
  exact ⟨rfl, HX⟩

set_option maxRecDepth 100000 in
set_option maxHeartbeats 400000 in
theorem lay_6 {w : World} {b : Nat} {s : WS} {v sv : Value} (h : Wr w b s v sv) (t : Th) (ok : t.ok) (hS : Far w t.pv t.p (foot b v sv)) (hl : s.bs.length ≤ 1000000000000) (hp : t.p.length ≤ 1000000000000) (_hst : ∀ x ∈ s.sts, x ≤ s.bs.length) (hj : t.k = 6) :
    Calls Try.prog 15 #[t.val, .pointer (some ⟨b, 0, none⟩)] w fun e w' => e = .returned (.tuple #[]) ∧ WPost w b v sv (t.lay s) w' := by
  have HK := fun w => kind_any t w
  have HZ := fun w => size_any t w
  rw [show rnd t.kind 9 = 6 from hj] at HK
  have hlay : t.lay s = wLay s (form t.p.length ++ t.p) := by simp [Th.lay, Th.bytes, hj]
  rw [hlay]
  clear hlay hj
  have hc := fun w => Th.copy_kept t w
  obtain ⟨k, n, i, pa, pc, p⟩ := t
  obtain ⟨hk1, hk2, hn, hi1, hi2, hp6⟩ := ok
  simp only [Th.val, Th.pv, Th.copy] at *
  have HC : Hid (∀ W, Kept [] w W → Calls Try.prog 38 #[.pointer (some ⟨b, 0, none⟩), .slice pa p.length pc] W fun e w' => e = .returned (.tuple #[]) ∧ WPost w b v sv (wLay s (form p.length ++ p)) w') := by
    have hWr : ∀ W, Kept [] w W → Wr W b s v sv := fun W hk => h.kept hk (by simp)
    have hSee : ∀ W, Kept [] w W → Far W (.slice pa p.length pc) p (foot b v sv) := fun W hk => hS.keep hk
    refine hide fun W hk => ?_
    refine (wtext_anyE (hWr _ hk) (.slice pa p.length pc) p (hSee _ hk) (by omega)).mono ?_
    rintro e w' ⟨rfl, hp⟩
    exact ⟨rfl, hp.from hk⟩
  clear h hS _hst hp6 hc
  have hr8 : 1 + rnd i 8 ≤ 8 := by have := rnd_lt i 8 (by omega); omega
  have hr256 := rnd_lt i 256 (by omega)
  have HR := fun w => round_any i 256 w (by omega) (by omega)
  generalize 1 + rnd i 8 = r8 at *
  generalize rnd i 256 = r256 at *
  go_enter Try.func15, Try.ntmps15
  go_wp2_with (first | (go_at_call 29; refine (HK _).mono ?_; rintro e w' ⟨rfl, rfl⟩) | (go_at_call 42; refine (HZ _).mono ?_; rintro e w' ⟨rfl, rfl⟩) | (go_at_call 11; refine (HR _).mono ?_; rintro e w' ⟨rfl, rfl⟩) | (go_at_call 38; refine (unhide HC _ ?_).mono ?_; exact (((Kept.refl [] w).alloc _).alloc _); rintro e w1 ⟨rfl, HX⟩) | (go_at_call 38; refine (unhide HC _ ?_).mono ?_; exact ((((Kept.refl [] w).alloc _).alloc _).alloc _); rintro e w1 ⟨rfl, HX⟩))
  go_end0
  exact ⟨rfl, HX⟩

set_option maxRecDepth 100000 in
set_option maxHeartbeats 400000 in
theorem lay_7 {w : World} {b : Nat} {s : WS} {v sv : Value} (h : Wr w b s v sv) (t : Th) (ok : t.ok) (hS : Far w t.pv t.p (foot b v sv)) (_hl : s.bs.length ≤ 1000000000000) (hp : t.p.length ≤ 1000000000000) (_hst : ∀ x ∈ s.sts, x ≤ s.bs.length) (hj : t.k = 7) :
    Calls Try.prog 15 #[t.val, .pointer (some ⟨b, 0, none⟩)] w fun e w' => e = .returned (.tuple #[]) ∧ WPost w b v sv (t.lay s) w' := by
  have HK := fun w => kind_any t w
  have HZ := fun w => size_any t w
  rw [show rnd t.kind 9 = 7 from hj] at HK
  have hlay : t.lay s = wOpen s := by simp [Th.lay, hj]
  rw [hlay]
  clear hlay hj
  have hc := fun w => Th.copy_kept t w
  obtain ⟨k, n, i, pa, pc, p⟩ := t
  obtain ⟨hk1, hk2, hn, hi1, hi2, hp6⟩ := ok
  simp only [Th.val, Th.pv, Th.copy] at *
  have HC : Hid (∀ W, Kept [] w W → Calls Try.prog 18 #[.pointer (some ⟨b, 0, none⟩)] W fun e w' => e = .returned (.tuple #[]) ∧ WPost w b v sv (wOpen s) w') := by
    have hWr : ∀ W, Kept [] w W → Wr W b s v sv := fun W hk => h.kept hk (by simp)
    have hSee : ∀ W, Kept [] w W → Far W (.slice pa p.length pc) p (foot b v sv) := fun W hk => hS.keep hk
    refine hide fun W hk => ?_
    refine (wopen_any (hWr _ hk)).mono ?_
    rintro e w' ⟨rfl, hp⟩
    exact ⟨rfl, hp.from hk⟩
  clear h hS _hst hp6 hc
  have hr8 : 1 + rnd i 8 ≤ 8 := by have := rnd_lt i 8 (by omega); omega
  have hr256 := rnd_lt i 256 (by omega)
  have HR := fun w => round_any i 256 w (by omega) (by omega)
  generalize 1 + rnd i 8 = r8 at *
  generalize rnd i 256 = r256 at *
  go_enter Try.func15, Try.ntmps15
  go_wp2_with (first | (go_at_call 29; refine (HK _).mono ?_; rintro e w' ⟨rfl, rfl⟩) | (go_at_call 42; refine (HZ _).mono ?_; rintro e w' ⟨rfl, rfl⟩) | (go_at_call 11; refine (HR _).mono ?_; rintro e w' ⟨rfl, rfl⟩) | (go_at_call 18; refine (unhide HC _ ?_).mono ?_; exact (((Kept.refl [] w).alloc _).alloc _); rintro e w1 ⟨rfl, HX⟩) | (go_at_call 18; refine (unhide HC _ ?_).mono ?_; exact ((((Kept.refl [] w).alloc _).alloc _).alloc _); rintro e w1 ⟨rfl, HX⟩))
  go_end0
  exact ⟨rfl, HX⟩

set_option maxRecDepth 100000 in
set_option maxHeartbeats 400000 in
theorem lay_8 {w : World} {b : Nat} {s : WS} {v sv : Value} (h : Wr w b s v sv) (t : Th) (ok : t.ok) (hS : Far w t.pv t.p (foot b v sv)) (hl : s.bs.length ≤ 1000000000000) (hp : t.p.length ≤ 1000000000000) (_hst : ∀ x ∈ s.sts, x ≤ s.bs.length) (hj : t.k = 8) :
    Calls Try.prog 15 #[t.val, .pointer (some ⟨b, 0, none⟩)] w fun e w' => e = .returned (.tuple #[]) ∧ WPost w b v sv (t.lay s) w' := by
  have HK := fun w => kind_any t w
  have HZ := fun w => size_any t w
  rw [show rnd t.kind 9 = 8 from hj] at HK
  have hlay : t.lay s = wClose s := by simp [Th.lay, hj]
  rw [hlay]
  clear hlay hj
  have hc := fun w => Th.copy_kept t w
  obtain ⟨k, n, i, pa, pc, p⟩ := t
  obtain ⟨hk1, hk2, hn, hi1, hi2, hp6⟩ := ok
  simp only [Th.val, Th.pv, Th.copy] at *
  have HC : Hid (∀ W, Kept [] w W → Calls Try.prog 20 #[.pointer (some ⟨b, 0, none⟩)] W fun e w' => e = .returned (.tuple #[]) ∧ WPost w b v sv (wClose s) w') := by
    have hWr : ∀ W, Kept [] w W → Wr W b s v sv := fun W hk => h.kept hk (by simp)
    have hSee : ∀ W, Kept [] w W → Far W (.slice pa p.length pc) p (foot b v sv) := fun W hk => hS.keep hk
    refine hide fun W hk => ?_
    refine (wclose_any (hWr _ hk) _hst hl).mono ?_
    rintro e w' ⟨rfl, hp⟩
    exact ⟨rfl, hp.from hk⟩
  clear h hS _hst hp6 hc
  have hr8 : 1 + rnd i 8 ≤ 8 := by have := rnd_lt i 8 (by omega); omega
  have hr256 := rnd_lt i 256 (by omega)
  have HR := fun w => round_any i 256 w (by omega) (by omega)
  generalize 1 + rnd i 8 = r8 at *
  generalize rnd i 256 = r256 at *
  go_enter Try.func15, Try.ntmps15
  go_wp2_with (first | (go_at_call 29; refine (HK _).mono ?_; rintro e w' ⟨rfl, rfl⟩) | (go_at_call 42; refine (HZ _).mono ?_; rintro e w' ⟨rfl, rfl⟩) | (go_at_call 11; refine (HR _).mono ?_; rintro e w' ⟨rfl, rfl⟩) | (go_at_call 20; refine (unhide HC _ ?_).mono ?_; exact (((Kept.refl [] w).alloc _).alloc _); rintro e w1 ⟨rfl, HX⟩) | (go_at_call 20; refine (unhide HC _ ?_).mono ?_; exact ((((Kept.refl [] w).alloc _).alloc _).alloc _); rintro e w1 ⟨rfl, HX⟩))
  go_end0
  exact ⟨rfl, HX⟩

theorem tlay_any {w : World} {b : Nat} {s : WS} {v sv : Value} (h : Wr w b s v sv) (t : Th) (ok : t.ok) (hS : Far w t.pv t.p (foot b v sv)) (hl : s.bs.length ≤ 1000000000000) (hp : t.p.length ≤ 1000000000000) (hst : ∀ x ∈ s.sts, x ≤ s.bs.length) :
    Calls Try.prog 15 #[t.val, .pointer (some ⟨b, 0, none⟩)] w fun e w' => e = .returned (.tuple #[]) ∧ WPost w b v sv (t.lay s) w' := by
  have hk := t.k_lt
  match hj : t.k, hk with
  | 0, _ => exact lay_0 h t ok hS hl hp hst hj
  | 1, _ => exact lay_1 h t ok hS hl hp hst hj
  | 2, _ => exact lay_2 h t ok hS hl hp hst hj
  | 3, _ => exact lay_3 h t ok hS hl hp hst hj
  | 4, _ => exact lay_4 h t ok hS hl hp hst hj
  | 5, _ => exact lay_5 h t ok hS hl hp hst hj
  | 6, _ => exact lay_6 h t ok hS hl hp hst hj
  | 7, _ => exact lay_7 h t ok hS hl hp hst hj
  | 8, _ => exact lay_8 h t ok hS hl hp hst hj
end Go.Proofs.Ytiabhgkndejigab
