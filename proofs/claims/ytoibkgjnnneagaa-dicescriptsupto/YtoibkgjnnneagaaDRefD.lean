/- The document's dice in memory: New, State, Jump, Next, Rest, Product, Roll, Real. -/
import Derived.Test.YtoibkgjnnneagaaDRef
import Derived.Test.YtoibkgjnnneagaaDMore
import Derived.Test.YtoibkgjnnneagaaDReal
namespace Go.Proofs.Ytoibkgjnnneagaa
open Go.RowKit

/-- the document's dice in memory -/
structure Rc (w : World) (b s : Nat) : Prop where
  blk : Blk w b #[.int .u64 (s : Int)] 59
  lt : s < 18446744073709551616
theorem Rc.keep {w w' : World} {b s : Nat} {F : List Nat} (h : Rc w b s) (hk : Kept F w w') (hb : b ∉ F) : Rc w' b s := ⟨h.blk.kept hk hb, h.lt⟩

set_option maxRecDepth 100000 in
theorem rnew_any (w : World) (s : Nat) (hs : s < 18446744073709551616) :
    Calls Try.prog 10 #[.int .u64 s] w fun x w' => ∃ b, x = .returned (.pointer (some ⟨b, 0, none⟩)) ∧ Rc w' b s ∧ w.heap.size ≤ b ∧ Kept [] w w' := by
  go_enter Try.func10, Try.ntmps10
  go_wp2
  go_ret
  exact ⟨_, rfl, ⟨Blk.new w _ _, hs⟩, Nat.le_refl _, (Kept.refl _ _).alloc _⟩
set_option maxRecDepth 100000 in
theorem rstate_any {w : World} {b s : Nat} (h : Rc w b s) : Calls Try.prog 29 #[.pointer (some ⟨b, 0, none⟩)] w fun e w' => e = .returned (.int .u64 (s : Int)) ∧ w' = w := by
  have c1 := h.blk.cell 0
  simp at c1
  clear h
  go_enter Try.func29, Try.ntmps29
  go_wp2
  go_ret
  exact ⟨rfl, rfl⟩
set_option maxRecDepth 100000 in
theorem rjump_any {w : World} {b s : Nat} (h : Rc w b s) (n : Nat) : Calls Try.prog 31 #[.pointer (some ⟨b, 0, none⟩), .int .u64 n] w fun e w' => e = .returned (.tuple #[]) ∧ Rc w' b (on s n) ∧ Kept [b] w w' := by
  have c1 := h.blk.cell 0
  have f1 := h.blk.frozen 0
  simp at c1
  have hw := jump_wrap s n
  have h' := hide h
  clear h
  go_enter Try.func31, Try.ntmps31
  go_wp2
  refine bodyPost_end (results_none rfl _ _ _) rfl ?_
  have h := unhide h'
  exact ⟨rfl, ⟨by simpa using h.blk.set 0 (.int .u64 ((on s n : Nat) : Int)), on_lt _ _⟩, (Kept.refl _ _).setCell (p := ⟨b, 0, none⟩) (Or.inl (by simp)) _⟩
set_option maxRecDepth 100000 in
theorem rnext_any {w : World} {b s : Nat} (h : Rc w b s) : Calls Try.prog 30 #[.pointer (some ⟨b, 0, none⟩)] w fun e w' => e = .returned (.int .u64 ((mixN (on s 1) : Nat) : Int)) ∧ Rc w' b (on s 1) ∧ Kept [b] w w' := by
  have c1 := h.blk.cell 0
  have f1 := h.blk.frozen 0
  simp at c1
  have hw := add_stride s
  have H2 := hide (fun w => rmix_any w (on s 1) (on_lt _ _))
  have hn : Hid (Rc (w.setCell ⟨b, 0, none⟩ (.int .u64 ((on s 1 : Nat) : Int))) b (on s 1) ∧ Kept [b] w (w.setCell ⟨b, 0, none⟩ (.int .u64 ((on s 1 : Nat) : Int)))) :=
    ⟨⟨by simpa using h.blk.set 0 (.int .u64 ((on s 1 : Nat) : Int)), on_lt _ _⟩, (Kept.refl _ _).setCell (p := ⟨b, 0, none⟩) (Or.inl (by simp)) _⟩
  have c2 := (unhide hn).1.blk.cell 0
  simp at c2
  clear h
  generalize on s 1 = t at *
  generalize mixN t = x at *
  go_enter Try.func30, Try.ntmps30
  go_wp2_with (first
    | (go_at_call 14; refine (unhide H2 _).mono ?_; rintro e w2 ⟨rfl, hq⟩; subst hq; clear H2))
  go_ret
  exact ⟨rfl, (unhide hn).1, (unhide hn).2⟩

set_option maxRecDepth 100000 in
theorem rest_any (w : World) (n : Nat) (h1 : 1 ≤ n) (h2 : n ≤ 9223372036854775807) :
    Calls Try.prog 46 #[.int .u64 n] w fun e w' => e = .returned (.int .u64 ((restN n : Nat) : Int)) ∧ w' = w := by
  obtain ⟨q, hq⟩ : ∃ q : Nat, 18446744073709551615 % n = q := ⟨_, rfl⟩
  have e1 : (18446744073709551615 : Int) % (n : Int) = (q : Int) := by rw [← hq]; exact (Int.natCast_emod 18446744073709551615 n).symm
  have hql : q < n := by rw [← hq]; exact Nat.mod_lt _ h1
  have e2 : ((q : Int) + 1) % (n : Int) = ((restN n : Nat) : Int) := by
    have : restN n = (q + 1) % n := by unfold restN; rw [← hq, Nat.mod_add_mod]
    rw [this, Int.natCast_emod]; rfl
  clear hq
  generalize restN n = R at *
  have t0 : ((n : Int) == 0) = false := by simp; omega
  go_enter Try.func46, Try.ntmps46
  go_wp2
  go_ret
  refine ⟨?_, rfl⟩
  show Ending.returned (.int .u64 (((q : Int) + 1) % (n : Int))) = _
  rw [e2]

set_option maxRecDepth 100000 in
set_option maxHeartbeats 1000000 in
theorem product_walk (w : World) (x n a b c e low lh ae mid bc mm cross ac h1 mh ch hi cm cl lm lo : Nat)
    (a1 : (x : Int) / 4294967296 = (a : Int)) (a2 : (x : Int) % 4294967296 = (b : Int)) (a3 : (n : Int) / 4294967296 = (c : Int)) (a4 : (n : Int) % 4294967296 = (e : Int))
    (a5 : IntKind.u64.wrap ((b : Int) * (e : Int)) = (low : Int)) (a6 : (low : Int) / 4294967296 = (lh : Int)) (a7 : IntKind.u64.wrap ((a : Int) * (e : Int)) = (ae : Int)) (a8 : IntKind.u64.wrap ((ae : Int) + (lh : Int)) = (mid : Int))
    (a9 : IntKind.u64.wrap ((b : Int) * (c : Int)) = (bc : Int)) (a10 : (mid : Int) % 4294967296 = (mm : Int)) (a11 : IntKind.u64.wrap ((bc : Int) + (mm : Int)) = (cross : Int))
    (a12 : IntKind.u64.wrap ((a : Int) * (c : Int)) = (ac : Int)) (a13 : (mid : Int) / 4294967296 = (mh : Int)) (a14 : IntKind.u64.wrap ((ac : Int) + (mh : Int)) = (h1 : Int)) (a15 : (cross : Int) / 4294967296 = (ch : Int)) (a16 : IntKind.u64.wrap ((h1 : Int) + (ch : Int)) = (hi : Int))
    (a17 : (cross : Int) % 4294967296 = (cm : Int)) (a18 : IntKind.u64.wrap ((cm : Int) * 4294967296) = (cl : Int)) (a19 : (low : Int) % 4294967296 = (lm : Int)) (a20 : IntKind.u64.wrap ((cl : Int) + (lm : Int)) = (lo : Int)) 
    (z1 : a < 18446744073709551616) (z2 : c < 18446744073709551616) (z3 : lh < 18446744073709551616) (z4 : mh < 18446744073709551616) (z5 : ch < 18446744073709551616) :
    Calls Try.prog 47 #[.int .u64 x, .int .u64 n] w fun e w' => e = .returned (.tuple #[.int .u64 (hi : Int), .int .u64 (lo : Int)]) ∧ w' = w := by
  go_enter Try.func47, Try.ntmps47
  go_wp2
  refine bodyPost_ret (results_tmp2 rfl _ _ _) rfl ?_
  exact ⟨rfl, rfl⟩

theorem lo_eq (A B C D : Nat) : (C + (B + D / 4294967296) % 4294967296) % 4294967296 * 4294967296 + D % 4294967296 = (A * 18446744073709551616 + (B + C) * 4294967296 + D) % 18446744073709551616 := by omega
theorem product_any (w : World) (x y : Nat) (hx : x < 18446744073709551616) (hy : y < 18446744073709551616) :
    Calls Try.prog 47 #[.int .u64 x, .int .u64 y] w fun e w' => e = .returned (.tuple #[.int .u64 ((x * y / 18446744073709551616 : Nat) : Int), .int .u64 ((x * y % 18446744073709551616 : Nat) : Int)]) ∧ w' = w := by
  obtain ⟨h1, h2, h3, h4⟩ := Lib.mul64_hi x y hx hy
  have hl := lo_eq (x / 4294967296 * (y / 4294967296)) (x / 4294967296 * (y % 4294967296)) (x % 4294967296 * (y / 4294967296)) (x % 4294967296 * (y % 4294967296))
  have hxy : x / 4294967296 * (y / 4294967296) * 18446744073709551616 + (x / 4294967296 * (y % 4294967296) + x % 4294967296 * (y / 4294967296)) * 4294967296 + x % 4294967296 * (y % 4294967296) = x * y := by
    have := Lib.split_mul (x / 4294967296) (x % 4294967296) (y / 4294967296) (y % 4294967296) 4294967296
    rw [Nat.div_add_mod' x 4294967296, Nat.div_add_mod' y 4294967296] at this
    rw [this]
  rw [hxy] at hl
  have b1 := Lib.half_mul_le (a := x / 4294967296) (b := y / 4294967296) (by omega) (by omega)
  have b2 := Lib.half_mul_le (a := x / 4294967296) (b := y % 4294967296) (by omega) (by omega)
  have b3 := Lib.half_mul_le (a := x % 4294967296) (b := y / 4294967296) (by omega) (by omega)
  have hm : ∀ a b c : Nat, a * b = c → c < 18446744073709551616 → IntKind.u64.wrap ((a : Int) * (b : Int)) = (c : Int) := by
    intro a b c e hc; subst e; rw [← Int.natCast_mul]; exact wrap_nat hc
  have ha : ∀ a b c : Nat, a + b = c → c < 18446744073709551616 → IntKind.u64.wrap ((a : Int) + (b : Int)) = (c : Int) := by
    intro a b c e hc; subst e; rw [← Int.natCast_add]; exact wrap_nat hc
  have hlo := mod_lt' (x * y)
  have hhi : x * y / 18446744073709551616 < 18446744073709551616 := by
    rw [Nat.div_lt_iff_lt_mul (by omega)]; exact Nat.mul_lt_mul_of_lt_of_lt hx hy
  generalize x * y % 18446744073709551616 = lo at *
  generalize x * y / 18446744073709551616 = hi at *
  clear hxy
  refine product_walk w x y (x / 4294967296) (x % 4294967296) (y / 4294967296) (y % 4294967296) (x % 4294967296 * (y % 4294967296)) (x % 4294967296 * (y % 4294967296) / 4294967296) (x / 4294967296 * (y % 4294967296)) (x / 4294967296 * (y % 4294967296) + x % 4294967296 * (y % 4294967296) / 4294967296) (x % 4294967296 * (y / 4294967296)) ((x / 4294967296 * (y % 4294967296) + x % 4294967296 * (y % 4294967296) / 4294967296) % 4294967296)
    (x % 4294967296 * (y / 4294967296) + (x / 4294967296 * (y % 4294967296) + x % 4294967296 * (y % 4294967296) / 4294967296) % 4294967296) (x / 4294967296 * (y / 4294967296)) (x / 4294967296 * (y / 4294967296) + (x / 4294967296 * (y % 4294967296) + x % 4294967296 * (y % 4294967296) / 4294967296) / 4294967296) ((x / 4294967296 * (y % 4294967296) + x % 4294967296 * (y % 4294967296) / 4294967296) / 4294967296)
    ((x % 4294967296 * (y / 4294967296) + (x / 4294967296 * (y % 4294967296) + x % 4294967296 * (y % 4294967296) / 4294967296) % 4294967296) / 4294967296) hi ((x % 4294967296 * (y / 4294967296) + (x / 4294967296 * (y % 4294967296) + x % 4294967296 * (y % 4294967296) / 4294967296) % 4294967296) % 4294967296) ((x % 4294967296 * (y / 4294967296) + (x / 4294967296 * (y % 4294967296) + x % 4294967296 * (y % 4294967296) / 4294967296) % 4294967296) % 4294967296 * 4294967296) (x % 4294967296 * (y % 4294967296) % 4294967296) lo
    (by omega) (by omega) (by omega) (by omega) (hm _ _ _ rfl h1) (by omega) (hm _ _ _ rfl (by omega)) (ha _ _ _ rfl h2) (hm _ _ _ rfl (by omega)) (by omega) (ha _ _ _ rfl (by omega)) (hm _ _ _ rfl (by omega)) (by omega) (ha _ _ _ rfl (by omega)) (by omega) (ha _ _ _ (by rw [Nat.add_comm (x % 4294967296 * (y / 4294967296))]; exact h4) hhi) (by omega) (hm _ _ _ rfl (by omega)) (by omega) (ha _ _ _ hl hlo) (by omega) (by omega) (by omega) (by omega) (by omega)
end Go.Proofs.Ytoibkgjnnneagaa
