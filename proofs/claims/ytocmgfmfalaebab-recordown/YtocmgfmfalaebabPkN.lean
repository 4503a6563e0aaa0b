/- Texts laid one behind the other: Le Fixed. -/
import Derived.Test.YtocmgfmfalaebabPkM
import Derived.Test.YtocmgfmfalaebabPkI
/- Numbers of one, two, four and eight bytes, the lowest first; the writer's Byte and Fixed. -/
namespace Go.Proofs.Ytocmgfmfalaebab
open Go.RowKit

/-- The lowest k bytes of n, the lowest first. -/
def le (n : Nat) : Nat → List Nat
  | 0 => []
  | k + 1 => le n k ++ [n / 256 ^ k % 256]
theorem le_len (n k : Nat) : (le n k).length = k := by
  induction k with
  | zero => rfl
  | succ k ih => simp [le, ih]
theorem le_lt (n k : Nat) : ∀ x ∈ le n k, x < 256 := by
  induction k with
  | zero => intro x hx; cases hx
  | succ k ih => intro x hx; simp [le] at hx; rcases hx with h | h; exact ih x h; omega
theorem pow256 (k : Nat) : (2 : Nat) ^ (8 * k) = 256 ^ k := by rw [Nat.pow_mul]
theorem pow256i (k : Nat) : (2 : Int) ^ (8 * k) = ((256 ^ k : Nat) : Int) := by rw [← pow256]; simp

set_option maxRecDepth 100000 in
set_option maxHeartbeats 400000 in
theorem len64_16 (x : Int) (h0 : 256 ≤ x) (h1 : x ≤ 65535) (w : World) : Calls Try.prog 70 #[.int .u64 x] w fun e w' => e = .returned (.int .i64 (wrap64 (8 + wrap64 (Lib.len8 (x / 256))))) ∧ w = w' := by
  have g1 : 0 ≤ x / 256 := by omega
  have g2 : x / 256 ≤ 255 := by omega
  go_enter Try.func70, Try.ntmps70
  go_wp2
  go_ret
  exact ⟨rfl, rfl⟩

set_option maxRecDepth 100000 in
set_option maxHeartbeats 400000 in
theorem len64_32 (x : Int) (h0 : 16777216 ≤ x) (h1 : x ≤ 4294967295) (w : World) : Calls Try.prog 70 #[.int .u64 x] w fun e w' => e = .returned (.int .i64 (wrap64 (24 + wrap64 (Lib.len8 (x / 65536 / 256))))) ∧ w = w' := by
  have h2 : 256 ≤ x / 65536 := by omega
  have g1 : 0 ≤ x / 65536 / 256 := by omega
  have g2 : x / 65536 / 256 ≤ 255 := by omega
  go_enter Try.func70, Try.ntmps70
  go_wp2
  go_ret
  exact ⟨rfl, rfl⟩

set_option maxRecDepth 100000 in
set_option maxHeartbeats 400000 in
theorem len64_64 (x : Int) (h0 : 72057594037927936 ≤ x) (h1 : x ≤ 18446744073709551615) (w : World) : Calls Try.prog 70 #[.int .u64 x] w fun e w' => e = .returned (.int .i64 (wrap64 (56 + wrap64 (Lib.len8 (x / 4294967296 / 65536 / 256))))) ∧ w = w' := by
  have h2 : 65536 ≤ x / 4294967296 := by omega
  have h3 : 256 ≤ x / 4294967296 / 65536 := by omega
  have g1 : 0 ≤ x / 4294967296 / 65536 / 256 := by omega
  have g2 : x / 4294967296 / 65536 / 256 ≤ 255 := by omega
  go_enter Try.func70, Try.ntmps70
  go_wp2
  go_ret
  exact ⟨rfl, rfl⟩

set_option maxRecDepth 100000 in
set_option maxHeartbeats 1000000 in
theorem layu8 {w : World} {v : Value} {base : Nat} {bs : List Nat} (ho : w.ownsRow base 5 1 v bs.length (u8s bs)) (hbase : base ≤ w.heap.size) (hl : bs.length ≤ 1000) (n : Nat) (hn : n < 256) :
    Calls Try.prog 45 #[v, .int .u8 n] w fun e w' => ∃ a cap, e = .returned (.slice a (bs ++ le n 1).length cap) ∧ w'.ownsRow base 5 1 (.slice a (bs ++ le n 1).length cap) (bs ++ le n 1).length (u8s (bs ++ le n 1)) ∧ Kept v.ownBlock.toList w w' := by
  obtain ⟨i0, hi, hz0, hz1, hz2⟩ := info_parts Try.info5
  have HO := hide ho
  go_enter Try.func45, Try.ntmps45
  go_wp2_with (first | (go_at_call 48; refine (width8 _).mono ?_; rintro e w' ⟨rfl, rfl⟩))
  go_loopw [0, 7] (fun p i wr => ∃ k : Nat, k ≤ 1 ∧ i = .int .i64 k ∧ wr.ownsRow base 5 1 p (bs ++ le n k).length (u8s (bs ++ le n k)) ∧ Kept v.ownBlock.toList w wr ∧ (∀ x, p.ownBlock = some x → v.ownBlock = some x ∨ w.heap.size ≤ x)) (fun _ i _ => 1 - (intOf i).toNat)
  case atStart => exact ⟨0, by omega, rfl, by simpa [le] using unhide HO, Kept.refl _ _, fun x hx => Or.inl hx⟩
  case round =>
    obtain ⟨k, hk, rfl, hown, hkw, hfo⟩ := hrel
    have hks := hkw.size
    have hll := le_len n k
    obtain ⟨a0, c0, hv0⟩ := own_len hown
    subst hv0
    by_cases hlt : k < 1
    · have hlen : (bs ++ le n k).length ≤ 2000 := by simp; omega
      have HLL := hide hll
      clear hll
      go_wp2_with (at_builtin; refine wpList_append_sees _ rfl _ _ 22 rfl base 5 i0 (.int .u8 0) Try.underlying22 hi hz0 hz1 hz2 rfl _ (bs ++ le n k) rfl (hown.alloc _) _ [n / 256 ^ k % 256] rfl ?c0 ?c1 ?c2 ?_)
      case c0 =>
        first
          | (have e : ((n : Int) / 2 ^ (8 * k) % 256) = ((n / 256 ^ k % 256 : Nat) : Int) := by rw [pow256i]; simp
             rw [e]; exact news_one _ _)
          | (have hk0 : k = 0 := by omega
             subst hk0
             have e : (n : Int) = ((n / 256 ^ 0 % 256 : Nat) : Int) := by simp; omega
             have := news_one wr (n / 256 ^ 0 % 256)
             simp at this ⊢
             have e2 : (n : Int) % 256 = (n : Int) := by omega
             rw [e2] at this
             first | exact this | (rw [Nat.mod_eq_of_lt (by omega)]; exact this) | (rw [Nat.mod_eq_of_lt (by omega)] at *; exact this))
      case c1 => simp at hlen ⊢; omega
      case c2 => simp; omega
      intro v' w1 hown1 hg1 hat1
      have HO1 := hide hown1
      have HA1 := hide hat1
      obtain ⟨a1, c1, hv1⟩ := own_len hown1
      subst hv1
      clear hown1 hat1
      go_wp2
      go_roundw
      case rel =>
        refine ⟨k + 1, by omega, by go_num, by simpa [le] using unhide HO1, (hkw.alloc _).grown hg1 (fun x hx => ?_), fun x hx => ?_⟩
        · rcases hfo x (by simpa using hx) with h | h
          · exact Or.inl (by simp [h])
          · exact Or.inr h
        · rcases unhide HA1 with h | h
          · have h2 := hfo x (by rw [← hx]; simpa using h.symm)
            exact h2
          · have h3 : x = wr.heap.size + 1 := by
              have : some x = some ((wr.alloc (Obj.cells #[Value.int IntKind.u8 0] 5)).heap.size) := by rw [← hx]; simpa using h
              simpa using this
            right; omega
      case measure => simp [intOf]; omega
    · have hkw2 : k = 1 := by omega
      subst hkw2
      go_wp2
      go_ret
      exact ⟨a0, c0, rfl, hown, hkw⟩

end Go.Proofs.Ytocmgfmfalaebab

/- layFixed; the writer's Byte and Fixed. -/
namespace Go.Proofs.Ytocmgfmfalaebab
open Go.RowKit

theorem le_add (n a b : Nat) : le n (a + b) = le n a ++ le (n / 256 ^ a) b := by
  induction b with
  | zero => simp [le]
  | succ b ih => rw [← Nat.add_assoc, le, ih, le, Nat.div_div_eq_div_mul, Nat.pow_add, List.append_assoc]

theorem le_mod (n k j : Nat) (h : k ≤ j) : le (n % 256 ^ j) k = le n k := by
  induction k with
  | zero => rfl
  | succ k ih =>
    rw [le, le, ih (by omega)]
    congr 2
    have e : 256 ^ j = 256 ^ k * 256 ^ (j - k) := by rw [← Nat.pow_add]; congr 1; omega
    rw [e, Nat.mod_mul_right_div_self]
    have e2 : 256 ^ (j - k) = 256 * 256 ^ (j - k - 1) := by rw [Nat.mul_comm, ← Nat.pow_succ]; congr 1; omega
    rw [e2, Nat.mod_mul_right_mod]

/-- What layFixed answers. -/
def Fixed (w : World) (n size : Nat) (e : Ending) (w' : World) : Prop :=
  ∃ a cap, e = .returned (.slice a size cap) ∧ w'.ownsRow w.heap.size 5 1 (.slice a size cap) (le n size).length (u8s (le n size)) ∧ Kept [] w w'

end Go.Proofs.Ytocmgfmfalaebab
