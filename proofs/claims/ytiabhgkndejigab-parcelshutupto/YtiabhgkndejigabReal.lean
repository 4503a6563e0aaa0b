/- Real numbers as their bits: the writer's Real. -/
import Derived.Test.YtiabhgkndejigabPureN
import Derived.Test.YtiabhgkndejigabWfail
import Derived.Laws.Cover2
import Derived.Laws.ResultCell
import Derived.Laws.IdiomArrays
namespace Go.Proofs.Ytiabhgkndejigab
open Go.RowKit

theorem fb29 (n : Int) (w : World) : (callFunc 48 #[.int .u64 n]).run Try.prog w = .ok (.value (.float .f64 n.toNat)) w := by kernel_rfl
theorem fb32 (n : Nat) (w : World) : (callFunc 45 #[.float .f64 n]).run Try.prog w = .ok (.value (.int .u64 n)) w := by kernel_rfl

/-- Is it a NaN? (A number that is unlike itself.) -/
def nanB (n : Nat) : Bool := FloatKind.f64.format.order n n != some .eq
def oneNaN : Nat := 9221120237041090560
theorem nan_one : nanB oneNaN = true := by decide +kernel
def canon (n : Nat) : Nat := if nanB n then oneNaN else n
def be8 (m : Nat) : List Nat := [m / 72057594037927936, m / 281474976710656 % 256, m / 1099511627776 % 256, m / 4294967296 % 256, m / 16777216 % 256, m / 65536 % 256, m / 256 % 256, m % 256]

set_option maxRecDepth 100000 in
set_option maxHeartbeats 400000 in
theorem isnan_any (n : Nat) (c : Bool) (hc : nanB n = c) (w : World) :
    Calls Try.prog 74 #[.float .f64 n] w fun e w' => e = .returned (.bool c) ∧ w = w' := by
  unfold nanB at hc
  go_enter Try.func74, Try.ntmps74
  go_wp2
  go_ret
  exact ⟨rfl, rfl⟩

/-- Eight bytes as cells, written out. -/
def cells8 (x0 x1 x2 x3 x4 x5 x6 x7 : Nat) : Array Value := #[.int .u8 x0, .int .u8 x1, .int .u8 x2, .int .u8 x3, .int .u8 x4, .int .u8 x5, .int .u8 x6, .int .u8 x7]

set_option maxRecDepth 100000 in
set_option maxHeartbeats 1000000 in
theorem bytesOf_num (n : Nat) (hn : n < 18446744073709551616) (hc : nanB n = false) (x0 x1 x2 x3 x4 x5 x6 x7 : Nat) (hx : be8 n = [x0, x1, x2, x3, x4, x5, x6, x7]) (w : World) :
    Calls Try.prog 76 #[.float .f64 n] w fun e w' => e = .returned (.agg #[.int .u8 x0, .int .u8 x1, .int .u8 x2, .int .u8 x3, .int .u8 x4, .int .u8 x5, .int .u8 x6, .int .u8 x7]) ∧ Kept [] w w' := by
  have h32 := fb32
  unfold be8 at hx
  simp only [List.cons.injEq, and_true] at hx
  obtain ⟨rfl, rfl, rfl, rfl, rfl, rfl, rfl, rfl⟩ := hx
  go_enter Try.func76, Try.ntmps76
  go_wp2_with (first | (go_at_call 74; refine (isnan_any n false hc _).mono ?_; rintro e w' ⟨rfl, rfl⟩))
  refine wp_loop_rounds 9 ?_
  iterate 8 (rw [rounds_succ]; go_wp2)
  rw [rounds_succ]
  go_wp2
  exact bodyPost_ret (v := .agg #[.int .u8 ((n / 72057594037927936 : Nat) : Int), .int .u8 ((n / 281474976710656 % 256 : Nat) : Int), .int .u8 ((n / 1099511627776 % 256 : Nat) : Int), .int .u8 ((n / 4294967296 % 256 : Nat) : Int), .int .u8 ((n / 16777216 % 256 : Nat) : Int), .int .u8 ((n / 65536 % 256 : Nat) : Int), .int .u8 ((n / 256 % 256 : Nat) : Int), .int .u8 ((n % 256 : Nat) : Int)]) (by simp [results, Try.results76, go_sem]) rfl ⟨rfl, ((Kept.refl _ _).alloc _).alloc _⟩

set_option maxRecDepth 100000 in
set_option maxHeartbeats 1000000 in
theorem bytesOf_nan (n : Nat) (hc : nanB n = true) (w : World) :
    Calls Try.prog 76 #[.float .f64 n] w fun e w' => e = .returned (.agg #[.int .u8 127, .int .u8 248, .int .u8 0, .int .u8 0, .int .u8 0, .int .u8 0, .int .u8 0, .int .u8 0]) ∧ Kept [] w w' := by
  have h32 := fb32
  go_enter Try.func76, Try.ntmps76
  go_wp2_with (first | (go_at_call 74; refine (isnan_any n true hc _).mono ?_; rintro e w' ⟨rfl, rfl⟩))
  refine wp_loop_rounds 9 ?_
  iterate 8 (rw [rounds_succ]; go_wp2)
  rw [rounds_succ]
  go_wp2
  exact bodyPost_ret (v := .agg #[.int .u8 127, .int .u8 248, .int .u8 0, .int .u8 0, .int .u8 0, .int .u8 0, .int .u8 0, .int .u8 0]) (by simp [results, Try.results76, go_sem]) rfl ⟨rfl, ((Kept.refl _ _).alloc _).alloc _⟩

theorem bytesOf_any (n : Nat) (hn : n < 18446744073709551616) (x0 x1 x2 x3 x4 x5 x6 x7 : Nat) (hx : be8 (canon n) = [x0, x1, x2, x3, x4, x5, x6, x7]) (w : World) :
    Calls Try.prog 76 #[.float .f64 n] w fun e w' => e = .returned (.agg #[.int .u8 x0, .int .u8 x1, .int .u8 x2, .int .u8 x3, .int .u8 x4, .int .u8 x5, .int .u8 x6, .int .u8 x7]) ∧ Kept [] w w' := by
  by_cases hc : nanB n = true
  · unfold canon at hx
    rw [if_pos hc] at hx
    have e : be8 oneNaN = [127, 248, 0, 0, 0, 0, 0, 0] := by decide
    rw [e] at hx
    simp only [List.cons.injEq, and_true] at hx
    obtain ⟨rfl, rfl, rfl, rfl, rfl, rfl, rfl, rfl⟩ := hx
    exact bytesOf_nan n hc w
  · have hc' : nanB n = false := by simpa using hc
    unfold canon at hx
    rw [if_neg hc] at hx
    exact bytesOf_num n hn hc' _ _ _ _ _ _ _ _ hx w

/-- lay with one part of new memory that reads as bytes. -/
theorem lay_one_sees {w w1 : World} {b : Nat} {s : WS} {v sv : Value} (h : Wr w b s v sv) (hf : s.fault = 0) (fv : Value) (fs : List Nat)
    (hfo : Sees w1 fv fs) (hfn : ∀ k, fv.ownBlock = some k → w.heap.size ≤ k) (hk1 : Kept [] w w1)
    (hl : s.bs.length + fs.length ≤ 70368744177664) (hroom : s.bs.length + fs.length ≤ s.room) :
    Calls Try.prog 51 #[.pointer (some ⟨b, 0, none⟩), .slice (some ⟨w1.heap.size, 0, none⟩) 1 1] (w1.alloc (.cells #[fv] 22)) fun e w' => e = .returned (.tuple #[]) ∧
      ∃ v', Wr w' b { s with bs := s.bs ++ fs } v' sv ∧ Kept (foot b v sv) w w' ∧ ∀ x, x ∈ foot b v' sv → x ∈ foot b v sv ∨ w.heap.size ≤ x := by
  have hfl := foot_lt h
  have hks := hk1.size
  have ec : cat [(fv, fs)] = fs := by simp [cat]
  have h1 : Wr (w1.alloc (.cells #[fv] 22)) b s v sv := (h.kept hk1 (by simp)).alloc _
  refine (lay_fits h1 hf w1.heap.size 1 [(fv, fs)] (Blk.new _ _ _) (fun hm => by have := hfl _ hm; omega) ?_ (by rw [ec]; exact hl) (by simp) (by rw [ec]; exact hroom)).mono ?_
  · intro p hp
    simp at hp; subst hp
    refine ⟨sees_alloc _ hfo, fun k hk hm => ?_⟩
    have := hfl _ hm; have := hfn k hk; omega
  · rintro e w' ⟨rfl, v', hw, hk, hx⟩
    rw [ec] at hw
    refine ⟨rfl, v', hw, (hk1.alloc _).mono (by simp) |>.trans hk (fun x hx => Or.inl hx), fun x hxx => ?_⟩
    rcases hx x hxx with h2 | h2
    · exact Or.inl h2
    · right; simp at h2; omega

theorem sees8 (w : World) (x0 x1 x2 x3 x4 x5 x6 x7 : Nat) (t : TypeId) : Sees (w.alloc (.cells #[.int .u8 x0, .int .u8 x1, .int .u8 x2, .int .u8 x3, .int .u8 x4, .int .u8 x5, .int .u8 x6, .int .u8 x7] t)) (.slice (some ⟨w.heap.size, 0, none⟩) 8 8) [x0, x1, x2, x3, x4, x5, x6, x7] := by
  refine Or.inr ⟨w.heap.size, 0, 8, rfl, by simp, by unfold maxLen; omega, by simp, fun j hj => ?_⟩
  have b := Blk.new w #[.int .u8 x0, .int .u8 x1, .int .u8 x2, .int .u8 x3, .int .u8 x4, .int .u8 x5, .int .u8 x6, .int .u8 x7] t
  rw [b.cell]
  simp at hj
  match j, hj with
  | 0, _ => rfl
  | 1, _ => rfl
  | 2, _ => rfl
  | 3, _ => rfl
  | 4, _ => rfl
  | 5, _ => rfl
  | 6, _ => rfl
  | 7, _ => rfl

set_option maxRecDepth 100000 in
set_option maxHeartbeats 1000000 in
theorem wreal_fits {w : World} {b : Nat} {s : WS} {v sv : Value} (h : Wr w b s v sv) (hf : s.fault = 0) (n : Nat) (hn : n < 18446744073709551616) (hl : s.bs.length ≤ 1000000000000) (hroom : s.bs.length + 8 ≤ s.room) :
    Calls Try.prog 47 #[.pointer (some ⟨b, 0, none⟩), .float .f64 n] w fun e w' => e = .returned (.tuple #[]) ∧
      ∃ v', Wr w' b { s with bs := s.bs ++ be8 (canon n) } v' sv ∧ Kept (foot b v sv) w w' ∧ ∀ x, x ∈ foot b v' sv → x ∈ foot b v sv ∨ w.heap.size ≤ x := by
  have HH := hide h
  clear h
  obtain ⟨x0, x1, x2, x3, x4, x5, x6, x7, hx⟩ : ∃ x0 x1 x2 x3 x4 x5 x6 x7, be8 (canon n) = [x0, x1, x2, x3, x4, x5, x6, x7] := ⟨_, _, _, _, _, _, _, _, rfl⟩
  have HX := hide hx
  rw [hx]
  clear hx
  go_enter Try.func47, Try.ntmps47
  go_wp2_with fail
  refine (bytesOf_any n hn x0 x1 x2 x3 x4 x5 x6 x7 (unhide HX) _).mono ?_
  rintro e w1 ⟨rfl, hk1⟩
  go_wp2_with fail
  have hs8 := sees8 w1 x0 x1 x2 x3 x4 x5 x6 x7 84
  have hc := lay_one_sees (unhide HH) hf _ _ hs8 (fun k hk => by cases hk; exact hk1.size) (hk1.alloc _) (by simp; omega) (by simpa using hroom)
  simp only [World.size_alloc] at hc
  refine hc.mono ?_
  rintro e w2 ⟨rfl, HZ⟩
  clear hc hs8
  go_wp2
  go_end0
  exact ⟨rfl, HZ⟩
end Go.Proofs.Ytiabhgkndejigab
