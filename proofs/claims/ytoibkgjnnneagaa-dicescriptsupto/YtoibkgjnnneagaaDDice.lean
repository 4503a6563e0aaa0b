/- Dice in memory: New, State, Jump, Next; a product of 128 bits; Roll. -/
import Derived.Test.YtoibkgjnnneagaaDMix
import Derived.Lib.Mul64
namespace Go.Proofs.Ytoibkgjnnneagaa
open Go.RowKit

/-- dice in memory: their state -/
structure Dc (w : World) (b s : Nat) : Prop where
  blk : Blk w b #[.int .u64 (s : Int)] 57
  lt : s < 18446744073709551616

theorem Dc.keep {w w' : World} {b s : Nat} {F : List Nat} (h : Dc w b s) (hk : Kept F w w') (hb : b ∉ F) : Dc w' b s := ⟨h.blk.kept hk hb, h.lt⟩
/-- a pointer to dice -/
def dp (b : Nat) : Value := .pointer (some ⟨b, 0, none⟩)

set_option maxRecDepth 100000 in
theorem new_any (w : World) (s : Nat) (hs : s < 18446744073709551616) :
    Calls Try.prog 9 #[.int .u64 s] w fun x w' => ∃ b, x = .returned (.pointer (some ⟨b, 0, none⟩)) ∧ Dc w' b s ∧ w.heap.size ≤ b ∧ Kept [] w w' := by
  go_enter Try.func9, Try.ntmps9
  go_wp2
  go_ret
  exact ⟨_, rfl, ⟨Blk.new w _ _, hs⟩, Nat.le_refl _, (Kept.refl _ _).alloc _⟩

set_option maxRecDepth 100000 in
theorem state_any {w : World} {b s : Nat} (h : Dc w b s) : Calls Try.prog 23 #[.pointer (some ⟨b, 0, none⟩)] w fun e w' => e = .returned (.int .u64 (s : Int)) ∧ w' = w := by
  have c1 := h.blk.cell 0
  simp at c1
  clear h
  go_enter Try.func23, Try.ntmps23
  go_wp2
  go_ret
  exact ⟨rfl, rfl⟩

theorem jump_wrap (s n : Nat) : IntKind.u64.wrap ((s : Int) + IntKind.u64.wrap ((n : Int) * 11400714819323198485)) = ((on s n : Nat) : Int) := by
  rw [IntKind.wrap_u64, IntKind.wrap_u64]; unfold on; omega

set_option maxRecDepth 100000 in
theorem jump_any {w : World} {b s : Nat} (h : Dc w b s) (n : Nat) : Calls Try.prog 24 #[.pointer (some ⟨b, 0, none⟩), .int .u64 n] w fun e w' => e = .returned (.tuple #[]) ∧ Dc w' b (on s n) ∧ Kept [b] w w' := by
  have c1 := h.blk.cell 0
  have f1 := h.blk.frozen 0
  simp at c1
  have hw := jump_wrap s n
  have h' := hide h
  clear h
  go_enter Try.func24, Try.ntmps24
  go_wp2
  refine bodyPost_end (results_none rfl _ _ _) rfl ?_
  have h := unhide h'
  exact ⟨rfl, ⟨by simpa using h.blk.set 0 (.int .u64 ((on s n : Nat) : Int)), on_lt _ _⟩, (Kept.refl _ _).setCell (p := ⟨b, 0, none⟩) (Or.inl (by simp)) _⟩

set_option maxRecDepth 100000 in
theorem next_any {w : World} {b s : Nat} (h : Dc w b s) : Calls Try.prog 21 #[.pointer (some ⟨b, 0, none⟩)] w fun e w' => e = .returned (.int .u64 ((mixN (on s 1) : Nat) : Int)) ∧ Dc w' b (on s 1) ∧ Kept [b] w w' := by
  have H1 := hide (jump_any h 1)
  have H2 := hide (fun w => mixAt_any w (on s 1) (on_lt _ _))
  clear h
  generalize on s 1 = t at *
  generalize mixN t = x at *
  go_enter Try.func21, Try.ntmps21
  go_wp2_with (first
    | (go_at_call 24; refine (unhide H1).mono ?_; rintro e w1 ⟨rfl, hd, hk⟩; have c1 := hd.blk.cell 0; simp at c1; replace hd := hide hd; clear H1)
    | (go_at_call 17; refine (unhide H2 _).mono ?_; rintro e w2 ⟨rfl, hq⟩; subst hq; clear H2))
  go_ret
  exact ⟨rfl, unhide hd, hk⟩

theorem mask32 (a : Nat) (ha : a < 18446744073709551616) : bits .and .u64 (a : Int) 4294967295 = ((a % 4294967296 : Nat) : Int) := by
  have h := u64_and_nat a 4294967295 ha (by omega)
  rw [show a &&& 4294967295 = a % 4294967296 from Nat.and_two_pow_sub_one_eq_mod a 32] at h
  exact h
theorem wrap_nat {a : Nat} (ha : a < 18446744073709551616) : IntKind.u64.wrap (a : Int) = (a : Int) := by rw [IntKind.wrap_u64]; omega

set_option maxRecDepth 100000 in
set_option maxHeartbeats 1000000 in
theorem mul_walk (w : World) (x y x0 x1 y0 y1 w0 w0h p t w1 w2 q w1' w1h r hi1 hi lo : Nat)
    (a1 : bits .and .u64 (x : Int) 4294967295 = (x0 : Int)) (a2 : (x : Int) / 4294967296 = (x1 : Int))
    (a3 : bits .and .u64 (y : Int) 4294967295 = (y0 : Int)) (a4 : (y : Int) / 4294967296 = (y1 : Int))
    (a5 : IntKind.u64.wrap ((x0 : Int) * (y0 : Int)) = (w0 : Int)) (a6 : (w0 : Int) / 4294967296 = (w0h : Int))
    (a7 : IntKind.u64.wrap ((x1 : Int) * (y0 : Int)) = (p : Int)) (a8 : IntKind.u64.wrap ((p : Int) + (w0h : Int)) = (t : Int))
    (a9 : bits .and .u64 (t : Int) 4294967295 = (w1 : Int)) (a10 : (t : Int) / 4294967296 = (w2 : Int))
    (a11 : IntKind.u64.wrap ((x0 : Int) * (y1 : Int)) = (q : Int)) (a12 : IntKind.u64.wrap ((w1 : Int) + (q : Int)) = (w1' : Int))
    (a13 : IntKind.u64.wrap ((x1 : Int) * (y1 : Int)) = (r : Int)) (a14 : IntKind.u64.wrap ((r : Int) + (w2 : Int)) = (hi1 : Int))
    (a15 : (w1' : Int) / 4294967296 = (w1h : Int)) (a16 : IntKind.u64.wrap ((hi1 : Int) + (w1h : Int)) = (hi : Int)) (a17 : IntKind.u64.wrap ((x : Int) * (y : Int)) = (lo : Int)) :
    Calls Try.prog 45 #[.int .u64 x, .int .u64 y] w fun e w' => e = .returned (.tuple #[.int .u64 (hi : Int), .int .u64 (lo : Int)]) ∧ w' = w := by
  go_enter Try.func45, Try.ntmps45
  go_wp2
  refine bodyPost_ret (results_tmp2 rfl _ _ _) rfl ?_
  exact ⟨rfl, rfl⟩

theorem mul_any (w : World) (x y : Nat) (hx : x < 18446744073709551616) (hy : y < 18446744073709551616) :
    Calls Try.prog 45 #[.int .u64 x, .int .u64 y] w fun e w' => e = .returned (.tuple #[.int .u64 ((x * y / 18446744073709551616 : Nat) : Int), .int .u64 ((x * y % 18446744073709551616 : Nat) : Int)]) ∧ w' = w := by
  obtain ⟨h1, h2, h3, h4⟩ := Lib.mul64_hi x y hx hy
  have b1 := Lib.half_mul_le (a := x / 4294967296) (b := y / 4294967296) (by omega) (by omega)
  have b2 := Lib.half_mul_le (a := x / 4294967296) (b := y % 4294967296) (by omega) (by omega)
  have b3 := Lib.half_mul_le (a := x % 4294967296) (b := y / 4294967296) (by omega) (by omega)
  have hm : ∀ a b c : Nat, a * b = c → c < 18446744073709551616 → IntKind.u64.wrap ((a : Int) * (b : Int)) = (c : Int) := by
    intro a b c e hc; subst e; rw [← Int.natCast_mul]; exact wrap_nat hc
  have ha : ∀ a b c : Nat, a + b = c → c < 18446744073709551616 → IntKind.u64.wrap ((a : Int) + (b : Int)) = (c : Int) := by
    intro a b c e hc; subst e; rw [← Int.natCast_add]; exact wrap_nat hc
  have hl := wrap_mul x y
  have m1 := mask32 x hx
  have m2 := mask32 y hy
  have m3 := mask32 _ h2
  generalize x * y % 18446744073709551616 = lo at *
  generalize x * y / 18446744073709551616 = hi at *
  have hhi : hi < 18446744073709551616 := by omega
  exact mul_walk w x y (x % 4294967296) (x / 4294967296) (y % 4294967296) (y / 4294967296) _ _ _ _ _ _ _ _ _ _ _ hi lo m1 (by omega) m2 (by omega)
    (hm _ _ _ rfl h1) (by omega) (hm _ _ _ rfl (by omega)) (ha _ _ _ rfl h2) m3 (by omega) (hm _ _ _ rfl (by omega)) (ha _ _ _ rfl h3) (hm _ _ _ rfl (by omega)) (ha _ _ _ rfl (by omega)) (by omega) (ha _ _ _ h4 hhi) hl
end Go.Proofs.Ytoibkgjnnneagaa
