/- Texts laid one behind the other: Le Fixed. -/
import Derived.Test.YtfhfkpgfnlmfhaaDoorPkM
import Derived.Test.YtfhfkpgfnlmfhaaDoorPkI
/- Numbers of one, two, four and eight bytes, the lowest first; the writer's Byte and Fixed. -/
namespace Go.Proofs.YtfhfkpgfnlmfhaaDoor
open Go.RowKit

/-- The lowest k bytes of n, the lowest first. -/
def le (n : Nat) : Nat → List Nat
  | 0 => []
  | k + 1 => le n k ++ [n / 256 ^ k % 256]
theorem le_len (n k : Nat) : (le n k).length = k := by
  induction k with
  | zero => rfl
  | succ k ih => simp [le, ih]
theorem le_lt (n k : Nat) : ∀ x ∈ le n k, x < 256 := by
  induction k with
  | zero => intro x hx; cases hx
  | succ k ih => intro x hx; simp [le] at hx; rcases hx with h | h; exact ih x h; omega
theorem pow256 (k : Nat) : (2 : Nat) ^ (8 * k) = 256 ^ k := by rw [Nat.pow_mul]
theorem pow256i (k : Nat) : (2 : Int) ^ (8 * k) = ((256 ^ k : Nat) : Int) := by rw [← pow256]; simp

set_option maxRecDepth 100000 in
set_option maxHeartbeats 400000 in
theorem len64_16 (x : Int) (h0 : 256 ≤ x) (h1 : x ≤ 65535) (w : World) : Calls Tryd.prog 97 #[.int .u64 x] w fun e w' => e = .returned (.int .i64 (wrap64 (8 + wrap64 (Lib.len8 (x / 256))))) ∧ w = w' := by
  have g1 : 0 ≤ x / 256 := by omega
  have g2 : x / 256 ≤ 255 := by omega
  go_enter Tryd.func97, Tryd.ntmps97
  go_wp2
  go_ret
  exact ⟨rfl, rfl⟩

set_option maxRecDepth 100000 in
set_option maxHeartbeats 400000 in
theorem len64_32 (x : Int) (h0 : 16777216 ≤ x) (h1 : x ≤ 4294967295) (w : World) : Calls Tryd.prog 97 #[.int .u64 x] w fun e w' => e = .returned (.int .i64 (wrap64 (24 + wrap64 (Lib.len8 (x / 65536 / 256))))) ∧ w = w' := by
  have h2 : 256 ≤ x / 65536 := by omega
  have g1 : 0 ≤ x / 65536 / 256 := by omega
  have g2 : x / 65536 / 256 ≤ 255 := by omega
  go_enter Tryd.func97, Tryd.ntmps97
  go_wp2
  go_ret
  exact ⟨rfl, rfl⟩

set_option maxRecDepth 100000 in
set_option maxHeartbeats 400000 in
theorem len64_64 (x : Int) (h0 : 72057594037927936 ≤ x) (h1 : x ≤ 18446744073709551615) (w : World) : Calls Tryd.prog 97 #[.int .u64 x] w fun e w' => e = .returned (.int .i64 (wrap64 (56 + wrap64 (Lib.len8 (x / 4294967296 / 65536 / 256))))) ∧ w = w' := by
  have h2 : 65536 ≤ x / 4294967296 := by omega
  have h3 : 256 ≤ x / 4294967296 / 65536 := by omega
  have g1 : 0 ≤ x / 4294967296 / 65536 / 256 := by omega
  have g2 : x / 4294967296 / 65536 / 256 ≤ 255 := by omega
  go_enter Tryd.func97, Tryd.ntmps97
  go_wp2
  go_ret
  exact ⟨rfl, rfl⟩

set_option maxRecDepth 100000 in
set_option maxHeartbeats 400000 in
theorem widthu16 (w : World) : Calls Tryd.prog 94 #[] w fun e w' => e = .returned (.int .i64 2) ∧ w = w' := by
  have e2 : wrap64 (8 + wrap64 (Lib.len8 (65535 / 256))) = 16 := by decide +kernel
  go_enter Tryd.func94, Tryd.ntmps94
  go_wp2_with fail
  have e1 : IntKind.u64.wrap (bits BinOp.xor IntKind.u16 IntKind.u16.max 0) = 65535 := by decide +kernel
  first | rw [e1] | rw [show bits BinOp.xor IntKind.u64 IntKind.u64.max 0 = 65535 by decide +kernel]
  refine (len64_16 65535 (by omega) (by omega) _).mono ?_
  rintro e w' ⟨rfl, rfl⟩
  rw [e2]
  go_wp2
  go_ret
  exact ⟨rfl, rfl⟩

set_option maxRecDepth 100000 in
set_option maxHeartbeats 400000 in
theorem widthu32 (w : World) : Calls Tryd.prog 93 #[] w fun e w' => e = .returned (.int .i64 4) ∧ w = w' := by
  have e2 : wrap64 (24 + wrap64 (Lib.len8 (4294967295 / 65536 / 256))) = 32 := by decide +kernel
  go_enter Tryd.func93, Tryd.ntmps93
  go_wp2_with fail
  have e1 : IntKind.u64.wrap (bits BinOp.xor IntKind.u32 IntKind.u32.max 0) = 4294967295 := by decide +kernel
  first | rw [e1] | rw [show bits BinOp.xor IntKind.u64 IntKind.u64.max 0 = 4294967295 by decide +kernel]
  refine (len64_32 4294967295 (by omega) (by omega) _).mono ?_
  rintro e w' ⟨rfl, rfl⟩
  rw [e2]
  go_wp2
  go_ret
  exact ⟨rfl, rfl⟩

set_option maxRecDepth 100000 in
set_option maxHeartbeats 400000 in
theorem widthu64 (w : World) : Calls Tryd.prog 92 #[] w fun e w' => e = .returned (.int .i64 8) ∧ w = w' := by
  have e2 : wrap64 (56 + wrap64 (Lib.len8 (18446744073709551615 / 4294967296 / 65536 / 256))) = 64 := by decide +kernel
  go_enter Tryd.func92, Tryd.ntmps92
  go_wp2_with fail
  have e1 : IntKind.u64.wrap (bits BinOp.xor IntKind.u64 IntKind.u64.max 0) = 18446744073709551615 := by decide +kernel
  first | rw [e1] | rw [show bits BinOp.xor IntKind.u64 IntKind.u64.max 0 = 18446744073709551615 by decide +kernel]
  refine (len64_64 18446744073709551615 (by omega) (by omega) _).mono ?_
  rintro e w' ⟨rfl, rfl⟩
  rw [e2]
  go_wp2
  go_ret
  exact ⟨rfl, rfl⟩

set_option maxRecDepth 100000 in
set_option maxHeartbeats 1000000 in
theorem layu8 {w : World} {v : Value} {base : Nat} {bs : List Nat} (ho : w.ownsRow base 5 1 v bs.length (u8s bs)) (hbase : base ≤ w.heap.size) (hl : bs.length ≤ 1000) (n : Nat) (hn : n < 256) :
    Calls Tryd.prog 79 #[v, .int .u8 n] w fun e w' => ∃ a cap, e = .returned (.slice a (bs ++ le n 1).length cap) ∧ w'.ownsRow base 5 1 (.slice a (bs ++ le n 1).length cap) (bs ++ le n 1).length (u8s (bs ++ le n 1)) ∧ Kept v.ownBlock.toList w w' := by
  obtain ⟨i0, hi, hz0, hz1, hz2⟩ := info_parts Tryd.info5
  have HO := hide ho
  go_enter Tryd.func79, Tryd.ntmps79
  go_wp2_with (first | (go_at_call 95; refine (width8 _).mono ?_; rintro e w' ⟨rfl, rfl⟩))
  go_loopw [0, 7] (fun p i wr => ∃ k : Nat, k ≤ 1 ∧ i = .int .i64 k ∧ wr.ownsRow base 5 1 p (bs ++ le n k).length (u8s (bs ++ le n k)) ∧ Kept v.ownBlock.toList w wr ∧ (∀ x, p.ownBlock = some x → v.ownBlock = some x ∨ w.heap.size ≤ x)) (fun _ i _ => 1 - (intOf i).toNat)
  case atStart => exact ⟨0, by omega, rfl, by simpa [le] using unhide HO, Kept.refl _ _, fun x hx => Or.inl hx⟩
  case round =>
    obtain ⟨k, hk, rfl, hown, hkw, hfo⟩ := hrel
    have hks := hkw.size
    have hll := le_len n k
    obtain ⟨a0, c0, hv0⟩ := own_len hown
    subst hv0
    by_cases hlt : k < 1
    · have hlen : (bs ++ le n k).length ≤ 2000 := by simp; omega
      have HLL := hide hll
      clear hll
      go_wp2_with (at_builtin; refine wpList_append_sees _ rfl _ _ 23 rfl base 5 i0 (.int .u8 0) Tryd.underlying23 hi hz0 hz1 hz2 rfl _ (bs ++ le n k) rfl (hown.alloc _) _ [n / 256 ^ k % 256] rfl ?c0 ?c1 ?c2 ?_)
      case c0 =>
        first
          | (have e : ((n : Int) / 2 ^ (8 * k) % 256) = ((n / 256 ^ k % 256 : Nat) : Int) := by rw [pow256i]; simp
             rw [e]; exact news_one _ _)
          | (have hk0 : k = 0 := by omega
             subst hk0
             have e : (n : Int) = ((n / 256 ^ 0 % 256 : Nat) : Int) := by simp; omega
             have := news_one wr (n / 256 ^ 0 % 256)
             simp at this ⊢
             have e2 : (n : Int) % 256 = (n : Int) := by omega
             rw [e2] at this
             first | exact this | (rw [Nat.mod_eq_of_lt (by omega)]; exact this) | (rw [Nat.mod_eq_of_lt (by omega)] at *; exact this))
      case c1 => simp at hlen ⊢; omega
      case c2 => simp; omega
      intro v' w1 hown1 hg1 hat1
      have HO1 := hide hown1
      have HA1 := hide hat1
      obtain ⟨a1, c1, hv1⟩ := own_len hown1
      subst hv1
      clear hown1 hat1
      go_wp2
      go_roundw
      case rel =>
        refine ⟨k + 1, by omega, by go_num, by simpa [le] using unhide HO1, (hkw.alloc _).grown hg1 (fun x hx => ?_), fun x hx => ?_⟩
        · rcases hfo x (by simpa using hx) with h | h
          · exact Or.inl (by simp [h])
          · exact Or.inr h
        · rcases unhide HA1 with h | h
          · have h2 := hfo x (by rw [← hx]; simpa using h.symm)
            exact h2
          · have h3 : x = wr.heap.size + 1 := by
              have : some x = some ((wr.alloc (Obj.cells #[Value.int IntKind.u8 0] 5)).heap.size) := by rw [← hx]; simpa using h
              simpa using this
            right; omega
      case measure => simp [intOf]; omega
    · have hkw2 : k = 1 := by omega
      subst hkw2
      go_wp2
      go_ret
      exact ⟨a0, c0, rfl, hown, hkw⟩

set_option maxRecDepth 100000 in
set_option maxHeartbeats 1000000 in
theorem layu16 {w : World} {v : Value} {base : Nat} {bs : List Nat} (ho : w.ownsRow base 5 1 v bs.length (u8s bs)) (hbase : base ≤ w.heap.size) (hl : bs.length ≤ 1000) (n : Nat) (_hn : n < 65536) :
    Calls Tryd.prog 78 #[v, .int .u16 n] w fun e w' => ∃ a cap, e = .returned (.slice a (bs ++ le n 2).length cap) ∧ w'.ownsRow base 5 1 (.slice a (bs ++ le n 2).length cap) (bs ++ le n 2).length (u8s (bs ++ le n 2)) ∧ Kept v.ownBlock.toList w w' := by
  obtain ⟨i0, hi, hz0, hz1, hz2⟩ := info_parts Tryd.info5
  have HO := hide ho
  go_enter Tryd.func78, Tryd.ntmps78
  go_wp2_with (first | (go_at_call 94; refine (widthu16 _).mono ?_; rintro e w' ⟨rfl, rfl⟩))
  go_loopw [0, 7] (fun p i wr => ∃ k : Nat, k ≤ 2 ∧ i = .int .i64 k ∧ wr.ownsRow base 5 1 p (bs ++ le n k).length (u8s (bs ++ le n k)) ∧ Kept v.ownBlock.toList w wr ∧ (∀ x, p.ownBlock = some x → v.ownBlock = some x ∨ w.heap.size ≤ x)) (fun _ i _ => 2 - (intOf i).toNat)
  case atStart => exact ⟨0, by omega, rfl, by simpa [le] using unhide HO, Kept.refl _ _, fun x hx => Or.inl hx⟩
  case round =>
    obtain ⟨k, hk, rfl, hown, hkw, hfo⟩ := hrel
    have hks := hkw.size
    have hll := le_len n k
    obtain ⟨a0, c0, hv0⟩ := own_len hown
    subst hv0
    by_cases hlt : k < 2
    · have hlen : (bs ++ le n k).length ≤ 2000 := by simp; omega
      have HLL := hide hll
      clear hll
      go_wp2_with (at_builtin; refine wpList_append_sees _ rfl _ _ 23 rfl base 5 i0 (.int .u8 0) Tryd.underlying23 hi hz0 hz1 hz2 rfl _ (bs ++ le n k) rfl (hown.alloc _) _ [n / 256 ^ k % 256] rfl ?c0 ?c1 ?c2 ?_)
      case c0 =>
        first
          | (have e : ((n : Int) / 2 ^ (8 * k) % 256) = ((n / 256 ^ k % 256 : Nat) : Int) := by rw [pow256i]; simp
             rw [e]; exact news_one _ _)
          | (have hk0 : k = 0 := by omega
             subst hk0
             have e : (n : Int) = ((n / 256 ^ 0 % 256 : Nat) : Int) := by simp; omega
             have := news_one wr (n / 256 ^ 0 % 256)
             simp at this ⊢
             have e2 : (n : Int) % 256 = (n : Int) := by omega
             rw [e2] at this
             first | exact this | (rw [Nat.mod_eq_of_lt (by omega)]; exact this) | (rw [Nat.mod_eq_of_lt (by omega)] at *; exact this))
      case c1 => simp at hlen ⊢; omega
      case c2 => simp; omega
      intro v' w1 hown1 hg1 hat1
      have HO1 := hide hown1
      have HA1 := hide hat1
      obtain ⟨a1, c1, hv1⟩ := own_len hown1
      subst hv1
      clear hown1 hat1
      go_wp2
      go_roundw
      case rel =>
        refine ⟨k + 1, by omega, by go_num, by simpa [le] using unhide HO1, (hkw.alloc _).grown hg1 (fun x hx => ?_), fun x hx => ?_⟩
        · rcases hfo x (by simpa using hx) with h | h
          · exact Or.inl (by simp [h])
          · exact Or.inr h
        · rcases unhide HA1 with h | h
          · have h2 := hfo x (by rw [← hx]; simpa using h.symm)
            exact h2
          · have h3 : x = wr.heap.size + 1 := by
              have : some x = some ((wr.alloc (Obj.cells #[Value.int IntKind.u8 0] 5)).heap.size) := by rw [← hx]; simpa using h
              simpa using this
            right; omega
      case measure => simp [intOf]; omega
    · have hkw2 : k = 2 := by omega
      subst hkw2
      go_wp2
      go_ret
      exact ⟨a0, c0, rfl, hown, hkw⟩

set_option maxRecDepth 100000 in
set_option maxHeartbeats 1000000 in
theorem layu32 {w : World} {v : Value} {base : Nat} {bs : List Nat} (ho : w.ownsRow base 5 1 v bs.length (u8s bs)) (hbase : base ≤ w.heap.size) (hl : bs.length ≤ 1000) (n : Nat) (_hn : n < 4294967296) :
    Calls Tryd.prog 77 #[v, .int .u32 n] w fun e w' => ∃ a cap, e = .returned (.slice a (bs ++ le n 4).length cap) ∧ w'.ownsRow base 5 1 (.slice a (bs ++ le n 4).length cap) (bs ++ le n 4).length (u8s (bs ++ le n 4)) ∧ Kept v.ownBlock.toList w w' := by
  obtain ⟨i0, hi, hz0, hz1, hz2⟩ := info_parts Tryd.info5
  have HO := hide ho
  go_enter Tryd.func77, Tryd.ntmps77
  go_wp2_with (first | (go_at_call 93; refine (widthu32 _).mono ?_; rintro e w' ⟨rfl, rfl⟩))
  go_loopw [0, 7] (fun p i wr => ∃ k : Nat, k ≤ 4 ∧ i = .int .i64 k ∧ wr.ownsRow base 5 1 p (bs ++ le n k).length (u8s (bs ++ le n k)) ∧ Kept v.ownBlock.toList w wr ∧ (∀ x, p.ownBlock = some x → v.ownBlock = some x ∨ w.heap.size ≤ x)) (fun _ i _ => 4 - (intOf i).toNat)
  case atStart => exact ⟨0, by omega, rfl, by simpa [le] using unhide HO, Kept.refl _ _, fun x hx => Or.inl hx⟩
  case round =>
    obtain ⟨k, hk, rfl, hown, hkw, hfo⟩ := hrel
    have hks := hkw.size
    have hll := le_len n k
    obtain ⟨a0, c0, hv0⟩ := own_len hown
    subst hv0
    by_cases hlt : k < 4
    · have hlen : (bs ++ le n k).length ≤ 2000 := by simp; omega
      have HLL := hide hll
      clear hll
      go_wp2_with (at_builtin; refine wpList_append_sees _ rfl _ _ 23 rfl base 5 i0 (.int .u8 0) Tryd.underlying23 hi hz0 hz1 hz2 rfl _ (bs ++ le n k) rfl (hown.alloc _) _ [n / 256 ^ k % 256] rfl ?c0 ?c1 ?c2 ?_)
      case c0 =>
        first
          | (have e : ((n : Int) / 2 ^ (8 * k) % 256) = ((n / 256 ^ k % 256 : Nat) : Int) := by rw [pow256i]; simp
             rw [e]; exact news_one _ _)
          | (have hk0 : k = 0 := by omega
             subst hk0
             have e : (n : Int) = ((n / 256 ^ 0 % 256 : Nat) : Int) := by simp; omega
             have := news_one wr (n / 256 ^ 0 % 256)
             simp at this ⊢
             have e2 : (n : Int) % 256 = (n : Int) := by omega
             rw [e2] at this
             first | exact this | (rw [Nat.mod_eq_of_lt (by omega)]; exact this) | (rw [Nat.mod_eq_of_lt (by omega)] at *; exact this))
      case c1 => simp at hlen ⊢; omega
      case c2 => simp; omega
      intro v' w1 hown1 hg1 hat1
      have HO1 := hide hown1
      have HA1 := hide hat1
      obtain ⟨a1, c1, hv1⟩ := own_len hown1
      subst hv1
      clear hown1 hat1
      go_wp2
      go_roundw
      case rel =>
        refine ⟨k + 1, by omega, by go_num, by simpa [le] using unhide HO1, (hkw.alloc _).grown hg1 (fun x hx => ?_), fun x hx => ?_⟩
        · rcases hfo x (by simpa using hx) with h | h
          · exact Or.inl (by simp [h])
          · exact Or.inr h
        · rcases unhide HA1 with h | h
          · have h2 := hfo x (by rw [← hx]; simpa using h.symm)
            exact h2
          · have h3 : x = wr.heap.size + 1 := by
              have : some x = some ((wr.alloc (Obj.cells #[Value.int IntKind.u8 0] 5)).heap.size) := by rw [← hx]; simpa using h
              simpa using this
            right; omega
      case measure => simp [intOf]; omega
    · have hkw2 : k = 4 := by omega
      subst hkw2
      go_wp2
      go_ret
      exact ⟨a0, c0, rfl, hown, hkw⟩

set_option maxRecDepth 100000 in
set_option maxHeartbeats 1000000 in
theorem layu64 {w : World} {v : Value} {base : Nat} {bs : List Nat} (ho : w.ownsRow base 5 1 v bs.length (u8s bs)) (hbase : base ≤ w.heap.size) (hl : bs.length ≤ 1000) (n : Nat) (_hn : n < 18446744073709551616) :
    Calls Tryd.prog 76 #[v, .int .u64 n] w fun e w' => ∃ a cap, e = .returned (.slice a (bs ++ le n 8).length cap) ∧ w'.ownsRow base 5 1 (.slice a (bs ++ le n 8).length cap) (bs ++ le n 8).length (u8s (bs ++ le n 8)) ∧ Kept v.ownBlock.toList w w' := by
  obtain ⟨i0, hi, hz0, hz1, hz2⟩ := info_parts Tryd.info5
  have HO := hide ho
  go_enter Tryd.func76, Tryd.ntmps76
  go_wp2_with (first | (go_at_call 92; refine (widthu64 _).mono ?_; rintro e w' ⟨rfl, rfl⟩))
  go_loopw [0, 7] (fun p i wr => ∃ k : Nat, k ≤ 8 ∧ i = .int .i64 k ∧ wr.ownsRow base 5 1 p (bs ++ le n k).length (u8s (bs ++ le n k)) ∧ Kept v.ownBlock.toList w wr ∧ (∀ x, p.ownBlock = some x → v.ownBlock = some x ∨ w.heap.size ≤ x)) (fun _ i _ => 8 - (intOf i).toNat)
  case atStart => exact ⟨0, by omega, rfl, by simpa [le] using unhide HO, Kept.refl _ _, fun x hx => Or.inl hx⟩
  case round =>
    obtain ⟨k, hk, rfl, hown, hkw, hfo⟩ := hrel
    have hks := hkw.size
    have hll := le_len n k
    obtain ⟨a0, c0, hv0⟩ := own_len hown
    subst hv0
    by_cases hlt : k < 8
    · have hlen : (bs ++ le n k).length ≤ 2000 := by simp; omega
      have HLL := hide hll
      clear hll
      go_wp2_with (at_builtin; refine wpList_append_sees _ rfl _ _ 23 rfl base 5 i0 (.int .u8 0) Tryd.underlying23 hi hz0 hz1 hz2 rfl _ (bs ++ le n k) rfl (hown.alloc _) _ [n / 256 ^ k % 256] rfl ?c0 ?c1 ?c2 ?_)
      case c0 =>
        first
          | (have e : ((n : Int) / 2 ^ (8 * k) % 256) = ((n / 256 ^ k % 256 : Nat) : Int) := by rw [pow256i]; simp
             rw [e]; exact news_one _ _)
          | (have hk0 : k = 0 := by omega
             subst hk0
             have e : (n : Int) = ((n / 256 ^ 0 % 256 : Nat) : Int) := by simp; omega
             have := news_one wr (n / 256 ^ 0 % 256)
             simp at this ⊢
             have e2 : (n : Int) % 256 = (n : Int) := by omega
             rw [e2] at this
             first | exact this | (rw [Nat.mod_eq_of_lt (by omega)]; exact this) | (rw [Nat.mod_eq_of_lt (by omega)] at *; exact this))
      case c1 => simp at hlen ⊢; omega
      case c2 => simp; omega
      intro v' w1 hown1 hg1 hat1
      have HO1 := hide hown1
      have HA1 := hide hat1
      obtain ⟨a1, c1, hv1⟩ := own_len hown1
      subst hv1
      clear hown1 hat1
      go_wp2
      go_roundw
      case rel =>
        refine ⟨k + 1, by omega, by go_num, by simpa [le] using unhide HO1, (hkw.alloc _).grown hg1 (fun x hx => ?_), fun x hx => ?_⟩
        · rcases hfo x (by simpa using hx) with h | h
          · exact Or.inl (by simp [h])
          · exact Or.inr h
        · rcases unhide HA1 with h | h
          · have h2 := hfo x (by rw [← hx]; simpa using h.symm)
            exact h2
          · have h3 : x = wr.heap.size + 1 := by
              have : some x = some ((wr.alloc (Obj.cells #[Value.int IntKind.u8 0] 5)).heap.size) := by rw [← hx]; simpa using h
              simpa using this
            right; omega
      case measure => simp [intOf]; omega
    · have hkw2 : k = 8 := by omega
      subst hkw2
      go_wp2
      go_ret
      exact ⟨a0, c0, rfl, hown, hkw⟩
end Go.Proofs.YtfhfkpgfnlmfhaaDoor

/- layFixed; the writer's Byte and Fixed. -/
namespace Go.Proofs.YtfhfkpgfnlmfhaaDoor
open Go.RowKit

theorem le_add (n a b : Nat) : le n (a + b) = le n a ++ le (n / 256 ^ a) b := by
  induction b with
  | zero => simp [le]
  | succ b ih => rw [← Nat.add_assoc, le, ih, le, Nat.div_div_eq_div_mul, Nat.pow_add, List.append_assoc]

theorem le_mod (n k j : Nat) (h : k ≤ j) : le (n % 256 ^ j) k = le n k := by
  induction k with
  | zero => rfl
  | succ k ih =>
    rw [le, le, ih (by omega)]
    congr 2
    have e : 256 ^ j = 256 ^ k * 256 ^ (j - k) := by rw [← Nat.pow_add]; congr 1; omega
    rw [e, Nat.mod_mul_right_div_self]
    have e2 : 256 ^ (j - k) = 256 * 256 ^ (j - k - 1) := by rw [Nat.mul_comm, ← Nat.pow_succ]; congr 1; omega
    rw [e2, Nat.mod_mul_right_mod]

/-- What layFixed answers. -/
def Fixed (w : World) (n size : Nat) (e : Ending) (w' : World) : Prop :=
  ∃ a cap, e = .returned (.slice a size cap) ∧ w'.ownsRow w.heap.size 5 1 (.slice a size cap) (le n size).length (u8s (le n size)) ∧ Kept [] w w'

set_option maxRecDepth 100000 in
set_option maxHeartbeats 400000 in
theorem layFixed1 (n : Nat) (_hn : n < 18446744073709551616) (w : World) : Calls Tryd.prog 53 #[.int .u64 n, .int .i64 1] w (Fixed w n 1) := by
  have m4 : bits .and .i64 1 4 = 0 := by decide
  have m2 : bits .and .i64 1 2 = 0 := by decide
  have m1 : bits .and .i64 1 1 = 1 := by decide
  go_enter Tryd.func53, Tryd.ntmps53
  go_wp2_with fail
  have q0 : (n : Int) % 256 = (((n / 256 ^ 0 % 256) : Nat) : Int) := by
    rw [show (256 : Nat) ^ 0 = 1 from rfl]; omega
  rw [q0]
  refine (layu8 (bs := []) (World.ownsRow_nil _ w.heap.size _ _) (Nat.le_refl _) (by simp) (n / 256 ^ 0 % 256) (by omega)).mono ?_
  rintro e w0 ⟨a0, c0, rfl, h0, k0⟩
  have e0 : [] ++ le (n / 256 ^ 0 % 256) 1 = le n 1 := by
    rw [List.nil_append, show (256 : Nat) ^ 0 = 1 from rfl, Nat.div_one, show 256 = 256 ^ 1 from rfl, le_mod n 1 1 (Nat.le_refl _)]
  rw [e0] at h0
  simp only [e0, le_len] at h0 ⊢
  have h0' : w0.ownsRow w.heap.size 5 1 (.slice a0 1 c0) (le n 1).length (u8s (le n 1)) := by rw [le_len]; exact h0
  have H0 := hide h0'
  have K0 : Kept [] w w0 := k0.mono (by simp [Value.ownBlock])
  clear h0 h0' e0 q0 k0
  go_wp2
  go_ret
  exact ⟨a0, c0, rfl, unhide H0, K0⟩

set_option maxRecDepth 100000 in
set_option maxHeartbeats 400000 in
theorem layFixed2 (n : Nat) (_hn : n < 18446744073709551616) (w : World) : Calls Tryd.prog 53 #[.int .u64 n, .int .i64 2] w (Fixed w n 2) := by
  have m4 : bits .and .i64 2 4 = 0 := by decide
  have m2 : bits .and .i64 2 2 = 2 := by decide
  have m1 : bits .and .i64 2 1 = 0 := by decide
  go_enter Tryd.func53, Tryd.ntmps53
  go_wp2_with fail
  have q0 : IntKind.u16.wrap (n : Int) = (((n / 256 ^ 0 % 65536) : Nat) : Int) := by
    rw [IntKind.wrap_u16, show (256 : Nat) ^ 0 = 1 from rfl]; omega
  rw [q0]
  refine (layu16 (bs := []) (World.ownsRow_nil _ w.heap.size _ _) (Nat.le_refl _) (by simp) (n / 256 ^ 0 % 65536) (by omega)).mono ?_
  rintro e w0 ⟨a0, c0, rfl, h0, k0⟩
  have e0 : [] ++ le (n / 256 ^ 0 % 65536) 2 = le n 2 := by
    rw [List.nil_append, show (256 : Nat) ^ 0 = 1 from rfl, Nat.div_one, show 65536 = 256 ^ 2 from rfl, le_mod n 2 2 (Nat.le_refl _)]
  rw [e0] at h0
  simp only [e0, le_len] at h0 ⊢
  have h0' : w0.ownsRow w.heap.size 5 1 (.slice a0 2 c0) (le n 2).length (u8s (le n 2)) := by rw [le_len]; exact h0
  have H0 := hide h0'
  have K0 : Kept [] w w0 := k0.mono (by simp [Value.ownBlock])
  clear h0 h0' e0 q0 k0
  go_wp2
  go_ret
  exact ⟨a0, c0, rfl, unhide H0, K0⟩

set_option maxRecDepth 100000 in
set_option maxHeartbeats 400000 in
theorem layFixed3 (n : Nat) (_hn : n < 18446744073709551616) (w : World) : Calls Tryd.prog 53 #[.int .u64 n, .int .i64 3] w (Fixed w n 3) := by
  have m4 : bits .and .i64 3 4 = 0 := by decide
  have m2 : bits .and .i64 3 2 = 2 := by decide
  have m1 : bits .and .i64 3 1 = 1 := by decide
  go_enter Tryd.func53, Tryd.ntmps53
  go_wp2_with fail
  have q0 : IntKind.u16.wrap (n : Int) = (((n / 256 ^ 0 % 65536) : Nat) : Int) := by
    rw [IntKind.wrap_u16, show (256 : Nat) ^ 0 = 1 from rfl]; omega
  rw [q0]
  refine (layu16 (bs := []) (World.ownsRow_nil _ w.heap.size _ _) (Nat.le_refl _) (by simp) (n / 256 ^ 0 % 65536) (by omega)).mono ?_
  rintro e w0 ⟨a0, c0, rfl, h0, k0⟩
  have e0 : [] ++ le (n / 256 ^ 0 % 65536) 2 = le n 2 := by
    rw [List.nil_append, show (256 : Nat) ^ 0 = 1 from rfl, Nat.div_one, show 65536 = 256 ^ 2 from rfl, le_mod n 2 2 (Nat.le_refl _)]
  rw [e0] at h0
  simp only [e0, le_len] at h0 ⊢
  have h0' : w0.ownsRow w.heap.size 5 1 (.slice a0 2 c0) (le n 2).length (u8s (le n 2)) := by rw [le_len]; exact h0
  have H0 := hide h0'
  have K0 : Kept [] w w0 := k0.mono (by simp [Value.ownBlock])
  clear h0 h0' e0 q0 k0
  go_wp2_with fail
  have q1 : ((n : Int) / 65536) % 256 = (((n / 256 ^ 2 % 256) : Nat) : Int) := by
    rw [show (256 : Nat) ^ 2 = 65536 from rfl]; omega
  rw [q1]
  refine (layu8 (bs := le n 2) (unhide H0) (by have := K0.size; omega) (by simp [le_len]) (n / 256 ^ 2 % 256) (by omega)).mono ?_
  rintro e w1 ⟨a1, c1, rfl, h1, k1⟩
  have e1 : le n 2 ++ le (n / 256 ^ 2 % 256) 1 = le n 3 := by
    rw [show 256 = 256 ^ 1 from rfl, le_mod _ 1 1 (Nat.le_refl _), ← le_add]
  rw [e1] at h1
  simp only [e1, le_len] at h1 ⊢
  have h1' : w1.ownsRow w.heap.size 5 1 (.slice a1 3 c1) (le n 3).length (u8s (le n 3)) := by rw [le_len]; exact h1
  have H1 := hide h1'
  have K1 : Kept [] w w1 := K0.trans k1 (fun x hx => by simp at hx; exact Or.inr ((unhide H0).lt x hx).1)
  clear h1 h1' e1 q1 k1
  go_wp2
  go_ret
  exact ⟨a1, c1, rfl, unhide H1, K1⟩

set_option maxRecDepth 100000 in
set_option maxHeartbeats 400000 in
theorem layFixed4 (n : Nat) (_hn : n < 18446744073709551616) (w : World) : Calls Tryd.prog 53 #[.int .u64 n, .int .i64 4] w (Fixed w n 4) := by
  have m4 : bits .and .i64 4 4 = 4 := by decide
  have m2 : bits .and .i64 4 2 = 0 := by decide
  have m1 : bits .and .i64 4 1 = 0 := by decide
  go_enter Tryd.func53, Tryd.ntmps53
  go_wp2_with fail
  have q0 : (n : Int) % 4294967296 = (((n / 256 ^ 0 % 4294967296) : Nat) : Int) := by
    rw [show (256 : Nat) ^ 0 = 1 from rfl]; omega
  rw [q0]
  refine (layu32 (bs := []) (World.ownsRow_nil _ w.heap.size _ _) (Nat.le_refl _) (by simp) (n / 256 ^ 0 % 4294967296) (by omega)).mono ?_
  rintro e w0 ⟨a0, c0, rfl, h0, k0⟩
  have e0 : [] ++ le (n / 256 ^ 0 % 4294967296) 4 = le n 4 := by
    rw [List.nil_append, show (256 : Nat) ^ 0 = 1 from rfl, Nat.div_one, show 4294967296 = 256 ^ 4 from rfl, le_mod n 4 4 (Nat.le_refl _)]
  rw [e0] at h0
  simp only [e0, le_len] at h0 ⊢
  have h0' : w0.ownsRow w.heap.size 5 1 (.slice a0 4 c0) (le n 4).length (u8s (le n 4)) := by rw [le_len]; exact h0
  have H0 := hide h0'
  have K0 : Kept [] w w0 := k0.mono (by simp [Value.ownBlock])
  clear h0 h0' e0 q0 k0
  go_wp2
  go_ret
  exact ⟨a0, c0, rfl, unhide H0, K0⟩

set_option maxRecDepth 100000 in
set_option maxHeartbeats 400000 in
theorem layFixed5 (n : Nat) (_hn : n < 18446744073709551616) (w : World) : Calls Tryd.prog 53 #[.int .u64 n, .int .i64 5] w (Fixed w n 5) := by
  have m4 : bits .and .i64 5 4 = 4 := by decide
  have m2 : bits .and .i64 5 2 = 0 := by decide
  have m1 : bits .and .i64 5 1 = 1 := by decide
  go_enter Tryd.func53, Tryd.ntmps53
  go_wp2_with fail
  have q0 : (n : Int) % 4294967296 = (((n / 256 ^ 0 % 4294967296) : Nat) : Int) := by
    rw [show (256 : Nat) ^ 0 = 1 from rfl]; omega
  rw [q0]
  refine (layu32 (bs := []) (World.ownsRow_nil _ w.heap.size _ _) (Nat.le_refl _) (by simp) (n / 256 ^ 0 % 4294967296) (by omega)).mono ?_
  rintro e w0 ⟨a0, c0, rfl, h0, k0⟩
  have e0 : [] ++ le (n / 256 ^ 0 % 4294967296) 4 = le n 4 := by
    rw [List.nil_append, show (256 : Nat) ^ 0 = 1 from rfl, Nat.div_one, show 4294967296 = 256 ^ 4 from rfl, le_mod n 4 4 (Nat.le_refl _)]
  rw [e0] at h0
  simp only [e0, le_len] at h0 ⊢
  have h0' : w0.ownsRow w.heap.size 5 1 (.slice a0 4 c0) (le n 4).length (u8s (le n 4)) := by rw [le_len]; exact h0
  have H0 := hide h0'
  have K0 : Kept [] w w0 := k0.mono (by simp [Value.ownBlock])
  clear h0 h0' e0 q0 k0
  go_wp2_with fail
  have q1 : ((n : Int) / 4294967296) % 256 = (((n / 256 ^ 4 % 256) : Nat) : Int) := by
    rw [show (256 : Nat) ^ 4 = 4294967296 from rfl]; omega
  rw [q1]
  refine (layu8 (bs := le n 4) (unhide H0) (by have := K0.size; omega) (by simp [le_len]) (n / 256 ^ 4 % 256) (by omega)).mono ?_
  rintro e w1 ⟨a1, c1, rfl, h1, k1⟩
  have e1 : le n 4 ++ le (n / 256 ^ 4 % 256) 1 = le n 5 := by
    rw [show 256 = 256 ^ 1 from rfl, le_mod _ 1 1 (Nat.le_refl _), ← le_add]
  rw [e1] at h1
  simp only [e1, le_len] at h1 ⊢
  have h1' : w1.ownsRow w.heap.size 5 1 (.slice a1 5 c1) (le n 5).length (u8s (le n 5)) := by rw [le_len]; exact h1
  have H1 := hide h1'
  have K1 : Kept [] w w1 := K0.trans k1 (fun x hx => by simp at hx; exact Or.inr ((unhide H0).lt x hx).1)
  clear h1 h1' e1 q1 k1
  go_wp2
  go_ret
  exact ⟨a1, c1, rfl, unhide H1, K1⟩

set_option maxRecDepth 100000 in
set_option maxHeartbeats 400000 in
theorem layFixed6 (n : Nat) (_hn : n < 18446744073709551616) (w : World) : Calls Tryd.prog 53 #[.int .u64 n, .int .i64 6] w (Fixed w n 6) := by
  have m4 : bits .and .i64 6 4 = 4 := by decide
  have m2 : bits .and .i64 6 2 = 2 := by decide
  have m1 : bits .and .i64 6 1 = 0 := by decide
  go_enter Tryd.func53, Tryd.ntmps53
  go_wp2_with fail
  have q0 : (n : Int) % 4294967296 = (((n / 256 ^ 0 % 4294967296) : Nat) : Int) := by
    rw [show (256 : Nat) ^ 0 = 1 from rfl]; omega
  rw [q0]
  refine (layu32 (bs := []) (World.ownsRow_nil _ w.heap.size _ _) (Nat.le_refl _) (by simp) (n / 256 ^ 0 % 4294967296) (by omega)).mono ?_
  rintro e w0 ⟨a0, c0, rfl, h0, k0⟩
  have e0 : [] ++ le (n / 256 ^ 0 % 4294967296) 4 = le n 4 := by
    rw [List.nil_append, show (256 : Nat) ^ 0 = 1 from rfl, Nat.div_one, show 4294967296 = 256 ^ 4 from rfl, le_mod n 4 4 (Nat.le_refl _)]
  rw [e0] at h0
  simp only [e0, le_len] at h0 ⊢
  have h0' : w0.ownsRow w.heap.size 5 1 (.slice a0 4 c0) (le n 4).length (u8s (le n 4)) := by rw [le_len]; exact h0
  have H0 := hide h0'
  have K0 : Kept [] w w0 := k0.mono (by simp [Value.ownBlock])
  clear h0 h0' e0 q0 k0
  go_wp2_with fail
  have q1 : IntKind.u16.wrap ((n : Int) / 4294967296) = (((n / 256 ^ 4 % 65536) : Nat) : Int) := by
    rw [IntKind.wrap_u16, show (256 : Nat) ^ 4 = 4294967296 from rfl]; omega
  rw [q1]
  refine (layu16 (bs := le n 4) (unhide H0) (by have := K0.size; omega) (by simp [le_len]) (n / 256 ^ 4 % 65536) (by omega)).mono ?_
  rintro e w1 ⟨a1, c1, rfl, h1, k1⟩
  have e1 : le n 4 ++ le (n / 256 ^ 4 % 65536) 2 = le n 6 := by
    rw [show 65536 = 256 ^ 2 from rfl, le_mod _ 2 2 (Nat.le_refl _), ← le_add]
  rw [e1] at h1
  simp only [e1, le_len] at h1 ⊢
  have h1' : w1.ownsRow w.heap.size 5 1 (.slice a1 6 c1) (le n 6).length (u8s (le n 6)) := by rw [le_len]; exact h1
  have H1 := hide h1'
  have K1 : Kept [] w w1 := K0.trans k1 (fun x hx => by simp at hx; exact Or.inr ((unhide H0).lt x hx).1)
  clear h1 h1' e1 q1 k1
  go_wp2
  go_ret
  exact ⟨a1, c1, rfl, unhide H1, K1⟩

set_option maxRecDepth 100000 in
set_option maxHeartbeats 400000 in
theorem layFixed7 (n : Nat) (_hn : n < 18446744073709551616) (w : World) : Calls Tryd.prog 53 #[.int .u64 n, .int .i64 7] w (Fixed w n 7) := by
  have m4 : bits .and .i64 7 4 = 4 := by decide
  have m2 : bits .and .i64 7 2 = 2 := by decide
  have m1 : bits .and .i64 7 1 = 1 := by decide
  go_enter Tryd.func53, Tryd.ntmps53
  go_wp2_with fail
  have q0 : (n : Int) % 4294967296 = (((n / 256 ^ 0 % 4294967296) : Nat) : Int) := by
    rw [show (256 : Nat) ^ 0 = 1 from rfl]; omega
  rw [q0]
  refine (layu32 (bs := []) (World.ownsRow_nil _ w.heap.size _ _) (Nat.le_refl _) (by simp) (n / 256 ^ 0 % 4294967296) (by omega)).mono ?_
  rintro e w0 ⟨a0, c0, rfl, h0, k0⟩
  have e0 : [] ++ le (n / 256 ^ 0 % 4294967296) 4 = le n 4 := by
    rw [List.nil_append, show (256 : Nat) ^ 0 = 1 from rfl, Nat.div_one, show 4294967296 = 256 ^ 4 from rfl, le_mod n 4 4 (Nat.le_refl _)]
  rw [e0] at h0
  simp only [e0, le_len] at h0 ⊢
  have h0' : w0.ownsRow w.heap.size 5 1 (.slice a0 4 c0) (le n 4).length (u8s (le n 4)) := by rw [le_len]; exact h0
  have H0 := hide h0'
  have K0 : Kept [] w w0 := k0.mono (by simp [Value.ownBlock])
  clear h0 h0' e0 q0 k0
  go_wp2_with fail
  have q1 : IntKind.u16.wrap ((n : Int) / 4294967296) = (((n / 256 ^ 4 % 65536) : Nat) : Int) := by
    rw [IntKind.wrap_u16, show (256 : Nat) ^ 4 = 4294967296 from rfl]; omega
  rw [q1]
  refine (layu16 (bs := le n 4) (unhide H0) (by have := K0.size; omega) (by simp [le_len]) (n / 256 ^ 4 % 65536) (by omega)).mono ?_
  rintro e w1 ⟨a1, c1, rfl, h1, k1⟩
  have e1 : le n 4 ++ le (n / 256 ^ 4 % 65536) 2 = le n 6 := by
    rw [show 65536 = 256 ^ 2 from rfl, le_mod _ 2 2 (Nat.le_refl _), ← le_add]
  rw [e1] at h1
  simp only [e1, le_len] at h1 ⊢
  have h1' : w1.ownsRow w.heap.size 5 1 (.slice a1 6 c1) (le n 6).length (u8s (le n 6)) := by rw [le_len]; exact h1
  have H1 := hide h1'
  have K1 : Kept [] w w1 := K0.trans k1 (fun x hx => by simp at hx; exact Or.inr ((unhide H0).lt x hx).1)
  clear h1 h1' e1 q1 k1
  go_wp2_with fail
  have q2 : ((n : Int) / 4294967296 / 65536) % 256 = (((n / 256 ^ 6 % 256) : Nat) : Int) := by
    rw [show (256 : Nat) ^ 6 = 281474976710656 from rfl]; omega
  rw [q2]
  refine (layu8 (bs := le n 6) (unhide H1) (by have := K1.size; omega) (by simp [le_len]) (n / 256 ^ 6 % 256) (by omega)).mono ?_
  rintro e w2 ⟨a2, c2, rfl, h2, k2⟩
  have e2 : le n 6 ++ le (n / 256 ^ 6 % 256) 1 = le n 7 := by
    rw [show 256 = 256 ^ 1 from rfl, le_mod _ 1 1 (Nat.le_refl _), ← le_add]
  rw [e2] at h2
  simp only [e2, le_len] at h2 ⊢
  have h2' : w2.ownsRow w.heap.size 5 1 (.slice a2 7 c2) (le n 7).length (u8s (le n 7)) := by rw [le_len]; exact h2
  have H2 := hide h2'
  have K2 : Kept [] w w2 := K1.trans k2 (fun x hx => by simp at hx; exact Or.inr ((unhide H1).lt x hx).1)
  clear h2 h2' e2 q2 k2
  go_wp2
  go_ret
  exact ⟨a2, c2, rfl, unhide H2, K2⟩

set_option maxRecDepth 100000 in
set_option maxHeartbeats 400000 in
theorem layFixed8 (n : Nat) (hn : n < 18446744073709551616) (w : World) : Calls Tryd.prog 53 #[.int .u64 n, .int .i64 8] w (Fixed w n 8) := by
  go_enter Tryd.func53, Tryd.ntmps53
  go_wp2_with fail
  refine (layu64 (bs := []) (World.ownsRow_nil _ w.heap.size _ _) (Nat.le_refl _) (by simp) n hn).mono ?_
  rintro e w1 ⟨a1, c1, rfl, h1, k1⟩
  have H1 := hide h1
  clear h1
  go_wp2
  go_ret
  exact ⟨a1, c1, rfl, by simpa [le_len] using unhide H1, k1.mono (by simp [Value.ownBlock])⟩

theorem layFixed_any (n size : Nat) (hn : n < 18446744073709551616) (h1 : 1 ≤ size) (h8 : size ≤ 8) (w : World) : Calls Tryd.prog 53 #[.int .u64 n, .int .i64 size] w (Fixed w n size) := by
  match size, h1, h8 with
  | 1, _, _ => exact layFixed1 n hn w
  | 2, _, _ => exact layFixed2 n hn w
  | 3, _, _ => exact layFixed3 n hn w
  | 4, _, _ => exact layFixed4 n hn w
  | 5, _, _ => exact layFixed5 n hn w
  | 6, _, _ => exact layFixed6 n hn w
  | 7, _, _ => exact layFixed7 n hn w
  | 8, _, _ => exact layFixed8 n hn w
end Go.Proofs.YtfhfkpgfnlmfhaaDoor
