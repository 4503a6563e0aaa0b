/- takeFixed. -/
import Derived.Test.YtiabhgkndejigabRfix
namespace Go.Proofs.Ytiabhgkndejigab
open Go.RowKit

theorem or_u64 (a v s : Nat) (ha : a < 2 ^ s) (hv : v * 2 ^ s < 18446744073709551616) (h2 : a < 18446744073709551616) : bits .or .u64 (a : Int) (((v * 2 ^ s : Nat)) : Int) = ((a + v * 2 ^ s : Nat) : Int) := by
  rw [u64_or_nat _ _ h2 hv, or_le _ _ _ ha]

theorem leV_at (l : List Nat) (a b : Nat) (h : a ≤ l.length) : leV (l.take (a + b)) = leV (l.take a) + leV ((l.drop a).take b) * 2 ^ (8 * a) := by
  rw [List.take_add, leV_append, pow256, Nat.mul_comm, show (l.take a).length = a by simp; omega]

theorem or_zero64 (v : Nat) (h : v < 18446744073709551616) : bits .or .u64 0 (v : Int) = (v : Int) := by
  have := u64_or_nat 0 v (by omega) h
  simpa using this

def TakeN (w : World) (b : Nat) (lv bv : Value) (l : List Nat) (k : Nat) (w' : World) : Prop := ∃ lv', Rd w' b lv' bv (l.drop k) ∧ lv'.ownBlock = lv.ownBlock ∧ Kept [b] w w'

theorem TakeN.next {w w1 w2 : World} {b : Nat} {lv lv1 bv : Value} {l : List Nat} {k j : Nat} (h1 : lv1.ownBlock = lv.ownBlock) (k1 : Kept [b] w w1) (h2 : TakeN w1 b lv1 bv (l.drop k) j w2) : TakeN w b lv bv l (k + j) w2 := by
  obtain ⟨lv', h3, h4, h5⟩ := h2
  exact ⟨lv', by rw [← List.drop_drop]; exact h3, h4.trans h1, k1.trans h5 (fun x hx => Or.inl hx)⟩

theorem lt_take (l : List Nat) (hl : ∀ x ∈ l, x < 256) (k : Nat) : leV (l.take k) < 256 ^ k := by
  have := leV_lt (l.take k) (fun x hx => hl x (List.mem_of_mem_take hx))
  exact Nat.lt_of_lt_of_le this (Nat.pow_le_pow_right (by omega) (by simp; omega))

theorem part8 {w : World} {b : Nat} {lv bv : Value} {l : List Nat} (h : Rd w b lv bv l) (hl : ∀ x ∈ l, x < 256) (hn : 1 ≤ l.length) :
    Calls Try.prog 69 #[.pointer (some ⟨b, 0, none⟩)] w fun e w' => ∃ v, e = .returned (.int .u8 (v : Nat)) ∧ v < 256 ∧ Hid (v = leV (l.take 1)) ∧ TakeN w b lv bv l 1 w' := by
  cases l with
  | nil => simp at hn
  | cons x l =>
    refine (take8_ok h (hl x (by simp))).mono ?_
    rintro e w' ⟨rfl, h1⟩
    exact ⟨x, rfl, hl x (by simp), by simp [Hid, leV], h1⟩

theorem part16 {w : World} {b : Nat} {lv bv : Value} {l : List Nat} (h : Rd w b lv bv l) (hl : ∀ x ∈ l, x < 256) (hn : 2 ≤ l.length) :
    Calls Try.prog 88 #[.pointer (some ⟨b, 0, none⟩)] w fun e w' => ∃ v, e = .returned (.int .u16 (v : Nat)) ∧ v < 65536 ∧ Hid (v = leV (l.take 2)) ∧ TakeN w b lv bv l 2 w' := by
  refine (take16_ok h hl hn).mono ?_
  rintro e w' ⟨rfl, h1⟩
  exact ⟨_, rfl, lt_take l hl 2, hide rfl, h1⟩

theorem part32 {w : World} {b : Nat} {lv bv : Value} {l : List Nat} (h : Rd w b lv bv l) (hl : ∀ x ∈ l, x < 256) (hn : 4 ≤ l.length) :
    Calls Try.prog 87 #[.pointer (some ⟨b, 0, none⟩)] w fun e w' => ∃ v, e = .returned (.int .u32 (v : Nat)) ∧ v < 4294967296 ∧ Hid (v = leV (l.take 4)) ∧ TakeN w b lv bv l 4 w' := by
  refine (take32_ok h hl hn).mono ?_
  rintro e w' ⟨rfl, h1⟩
  exact ⟨_, rfl, lt_take l hl 4, hide rfl, h1⟩

theorem part64 {w : World} {b : Nat} {lv bv : Value} {l : List Nat} (h : Rd w b lv bv l) (hl : ∀ x ∈ l, x < 256) (hn : 8 ≤ l.length) :
    Calls Try.prog 86 #[.pointer (some ⟨b, 0, none⟩)] w fun e w' => ∃ v, e = .returned (.int .u64 (v : Nat)) ∧ v < 18446744073709551616 ∧ Hid (v = leV (l.take 8)) ∧ TakeN w b lv bv l 8 w' := by
  refine (take64_ok h hl hn).mono ?_
  rintro e w' ⟨rfl, h1⟩
  exact ⟨_, rfl, lt_take l hl 8, hide rfl, h1⟩

set_option maxRecDepth 100000 in
set_option maxHeartbeats 400000 in
theorem takeFixed1 {w : World} {b : Nat} {lv bv : Value} {l : List Nat} (h : Rd w b lv bv l) (hl : ∀ x ∈ l, x < 256) (hn : 1 ≤ l.length) :
    Calls Try.prog 65 #[.pointer (some ⟨b, 0, none⟩), .int .i64 1] w fun e w' => e = .returned (.int .u64 (leV (l.take 1) : Nat)) ∧ TakeN w b lv bv l 1 w' := by
  have m4 : bits .and .i64 1 4 = 0 := by decide
  have m2 : bits .and .i64 1 2 = 0 := by decide
  have m1 : bits .and .i64 1 1 = 1 := by decide
  have HL := hide hl
  have HN := hide hn
  have H0 := hide h
  have hw0 := Kept.refl [b] w
  have ho0 : lv.ownBlock = lv.ownBlock := rfl
  clear h hl hn
  go_enter Try.func65, Try.ntmps65
  go_wp2_with fail
  refine (part8 (unhide H0) (unhide HL) (by have := unhide HN; omega)).mono ?_
  rintro e w1 ⟨v1, rfl, b1, V1, t1⟩
  obtain ⟨lv1, hr1, ho1, hw1⟩ := t1
  have H1 := hide hr1
  clear hr1
  go_wp2
  go_ret
  refine ⟨ret_int ?_, lv1, unhide H1, ho1, hw1⟩
  rw [or_zero64 v1 (by omega)]
  rw [unhide V1]

set_option maxRecDepth 100000 in
set_option maxHeartbeats 400000 in
theorem takeFixed2 {w : World} {b : Nat} {lv bv : Value} {l : List Nat} (h : Rd w b lv bv l) (hl : ∀ x ∈ l, x < 256) (hn : 2 ≤ l.length) :
    Calls Try.prog 65 #[.pointer (some ⟨b, 0, none⟩), .int .i64 2] w fun e w' => e = .returned (.int .u64 (leV (l.take 2) : Nat)) ∧ TakeN w b lv bv l 2 w' := by
  have m4 : bits .and .i64 2 4 = 0 := by decide
  have m2 : bits .and .i64 2 2 = 2 := by decide
  have m1 : bits .and .i64 2 1 = 0 := by decide
  have HL := hide hl
  have HN := hide hn
  have H0 := hide h
  have hw0 := Kept.refl [b] w
  have ho0 : lv.ownBlock = lv.ownBlock := rfl
  clear h hl hn
  go_enter Try.func65, Try.ntmps65
  go_wp2_with fail
  refine (part16 (unhide H0) (unhide HL) (by have := unhide HN; omega)).mono ?_
  rintro e w1 ⟨v1, rfl, b1, V1, t1⟩
  obtain ⟨lv1, hr1, ho1, hw1⟩ := t1
  have H1 := hide hr1
  clear hr1
  go_wp2
  go_ret
  refine ⟨ret_int ?_, lv1, unhide H1, ho1, hw1⟩
  rw [or_zero64 v1 (by omega)]
  rw [unhide V1]

set_option maxRecDepth 100000 in
set_option maxHeartbeats 400000 in
theorem takeFixed3 {w : World} {b : Nat} {lv bv : Value} {l : List Nat} (h : Rd w b lv bv l) (hl : ∀ x ∈ l, x < 256) (hn : 3 ≤ l.length) :
    Calls Try.prog 65 #[.pointer (some ⟨b, 0, none⟩), .int .i64 3] w fun e w' => e = .returned (.int .u64 (leV (l.take 3) : Nat)) ∧ TakeN w b lv bv l 3 w' := by
  have m4 : bits .and .i64 3 4 = 0 := by decide
  have m2 : bits .and .i64 3 2 = 2 := by decide
  have m1 : bits .and .i64 3 1 = 1 := by decide
  have HL := hide hl
  have HN := hide hn
  have H0 := hide h
  have hw0 := Kept.refl [b] w
  have ho0 : lv.ownBlock = lv.ownBlock := rfl
  clear h hl hn
  go_enter Try.func65, Try.ntmps65
  go_wp2_with fail
  refine (part16 (unhide H0) (unhide HL) (by have := unhide HN; omega)).mono ?_
  rintro e w1 ⟨v1, rfl, b1, V1, t1⟩
  obtain ⟨lv1, hr1, ho1, hw1⟩ := t1
  have H1 := hide hr1
  clear hr1
  go_wp2_with fail
  refine (part8 (unhide H1) (fun x hx => unhide HL x (List.mem_of_mem_drop hx)) (by have := unhide HN; simp; omega)).mono ?_
  rintro e w2 ⟨v2, rfl, b2, V2, t2⟩
  replace t2 := TakeN.next ho1 hw1 t2
  obtain ⟨lv2, hr2, ho2, hw2⟩ := t2
  have H2 := hide hr2
  clear hr2
  go_wp2
  go_ret
  refine ⟨ret_int ?_, lv2, unhide H2, ho2, hw2⟩
  rw [or_zero64 v1 (by omega)]
  rw [show (v2 : Int) * 65536 = ((v2 * 2 ^ 16 : Nat) : Int) by simp, or_u64 (v1) v2 16 (by omega) (by omega) (by omega)]
  rw [show 3 = 2 + 1 from rfl, leV_at l 2 1 (by have := unhide HN; omega), ← unhide V1, ← unhide V2]

set_option maxRecDepth 100000 in
set_option maxHeartbeats 400000 in
theorem takeFixed4 {w : World} {b : Nat} {lv bv : Value} {l : List Nat} (h : Rd w b lv bv l) (hl : ∀ x ∈ l, x < 256) (hn : 4 ≤ l.length) :
    Calls Try.prog 65 #[.pointer (some ⟨b, 0, none⟩), .int .i64 4] w fun e w' => e = .returned (.int .u64 (leV (l.take 4) : Nat)) ∧ TakeN w b lv bv l 4 w' := by
  have m4 : bits .and .i64 4 4 = 4 := by decide
  have m2 : bits .and .i64 4 2 = 0 := by decide
  have m1 : bits .and .i64 4 1 = 0 := by decide
  have HL := hide hl
  have HN := hide hn
  have H0 := hide h
  have hw0 := Kept.refl [b] w
  have ho0 : lv.ownBlock = lv.ownBlock := rfl
  clear h hl hn
  go_enter Try.func65, Try.ntmps65
  go_wp2_with fail
  refine (part32 (unhide H0) (unhide HL) (by have := unhide HN; omega)).mono ?_
  rintro e w1 ⟨v1, rfl, b1, V1, t1⟩
  obtain ⟨lv1, hr1, ho1, hw1⟩ := t1
  have H1 := hide hr1
  clear hr1
  go_wp2
  go_ret
  refine ⟨ret_int ?_, lv1, unhide H1, ho1, hw1⟩
  rw [unhide V1]

set_option maxRecDepth 100000 in
set_option maxHeartbeats 400000 in
theorem takeFixed5 {w : World} {b : Nat} {lv bv : Value} {l : List Nat} (h : Rd w b lv bv l) (hl : ∀ x ∈ l, x < 256) (hn : 5 ≤ l.length) :
    Calls Try.prog 65 #[.pointer (some ⟨b, 0, none⟩), .int .i64 5] w fun e w' => e = .returned (.int .u64 (leV (l.take 5) : Nat)) ∧ TakeN w b lv bv l 5 w' := by
  have m4 : bits .and .i64 5 4 = 4 := by decide
  have m2 : bits .and .i64 5 2 = 0 := by decide
  have m1 : bits .and .i64 5 1 = 1 := by decide
  have HL := hide hl
  have HN := hide hn
  have H0 := hide h
  have hw0 := Kept.refl [b] w
  have ho0 : lv.ownBlock = lv.ownBlock := rfl
  clear h hl hn
  go_enter Try.func65, Try.ntmps65
  go_wp2_with fail
  refine (part32 (unhide H0) (unhide HL) (by have := unhide HN; omega)).mono ?_
  rintro e w1 ⟨v1, rfl, b1, V1, t1⟩
  obtain ⟨lv1, hr1, ho1, hw1⟩ := t1
  have H1 := hide hr1
  clear hr1
  go_wp2_with fail
  refine (part8 (unhide H1) (fun x hx => unhide HL x (List.mem_of_mem_drop hx)) (by have := unhide HN; simp; omega)).mono ?_
  rintro e w2 ⟨v2, rfl, b2, V2, t2⟩
  replace t2 := TakeN.next ho1 hw1 t2
  obtain ⟨lv2, hr2, ho2, hw2⟩ := t2
  have H2 := hide hr2
  clear hr2
  go_wp2
  go_ret
  refine ⟨ret_int ?_, lv2, unhide H2, ho2, hw2⟩
  rw [show (v2 : Int) * 4294967296 = ((v2 * 2 ^ 32 : Nat) : Int) by simp, or_u64 (v1) v2 32 (by omega) (by omega) (by omega)]
  rw [show 5 = 4 + 1 from rfl, leV_at l 4 1 (by have := unhide HN; omega), ← unhide V1, ← unhide V2]

set_option maxRecDepth 100000 in
set_option maxHeartbeats 400000 in
theorem takeFixed6 {w : World} {b : Nat} {lv bv : Value} {l : List Nat} (h : Rd w b lv bv l) (hl : ∀ x ∈ l, x < 256) (hn : 6 ≤ l.length) :
    Calls Try.prog 65 #[.pointer (some ⟨b, 0, none⟩), .int .i64 6] w fun e w' => e = .returned (.int .u64 (leV (l.take 6) : Nat)) ∧ TakeN w b lv bv l 6 w' := by
  have m4 : bits .and .i64 6 4 = 4 := by decide
  have m2 : bits .and .i64 6 2 = 2 := by decide
  have m1 : bits .and .i64 6 1 = 0 := by decide
  have HL := hide hl
  have HN := hide hn
  have H0 := hide h
  have hw0 := Kept.refl [b] w
  have ho0 : lv.ownBlock = lv.ownBlock := rfl
  clear h hl hn
  go_enter Try.func65, Try.ntmps65
  go_wp2_with fail
  refine (part32 (unhide H0) (unhide HL) (by have := unhide HN; omega)).mono ?_
  rintro e w1 ⟨v1, rfl, b1, V1, t1⟩
  obtain ⟨lv1, hr1, ho1, hw1⟩ := t1
  have H1 := hide hr1
  clear hr1
  go_wp2_with fail
  refine (part16 (unhide H1) (fun x hx => unhide HL x (List.mem_of_mem_drop hx)) (by have := unhide HN; simp; omega)).mono ?_
  rintro e w2 ⟨v2, rfl, b2, V2, t2⟩
  replace t2 := TakeN.next ho1 hw1 t2
  obtain ⟨lv2, hr2, ho2, hw2⟩ := t2
  have H2 := hide hr2
  clear hr2
  go_wp2
  go_ret
  refine ⟨ret_int ?_, lv2, unhide H2, ho2, hw2⟩
  rw [show (v2 : Int) * 4294967296 = ((v2 * 2 ^ 32 : Nat) : Int) by simp, or_u64 (v1) v2 32 (by omega) (by omega) (by omega)]
  rw [show 6 = 4 + 2 from rfl, leV_at l 4 2 (by have := unhide HN; omega), ← unhide V1, ← unhide V2]

set_option maxRecDepth 100000 in
set_option maxHeartbeats 400000 in
theorem takeFixed7 {w : World} {b : Nat} {lv bv : Value} {l : List Nat} (h : Rd w b lv bv l) (hl : ∀ x ∈ l, x < 256) (hn : 7 ≤ l.length) :
    Calls Try.prog 65 #[.pointer (some ⟨b, 0, none⟩), .int .i64 7] w fun e w' => e = .returned (.int .u64 (leV (l.take 7) : Nat)) ∧ TakeN w b lv bv l 7 w' := by
  have m4 : bits .and .i64 7 4 = 4 := by decide
  have m2 : bits .and .i64 7 2 = 2 := by decide
  have m1 : bits .and .i64 7 1 = 1 := by decide
  have HL := hide hl
  have HN := hide hn
  have H0 := hide h
  have hw0 := Kept.refl [b] w
  have ho0 : lv.ownBlock = lv.ownBlock := rfl
  clear h hl hn
  go_enter Try.func65, Try.ntmps65
  go_wp2_with fail
  refine (part32 (unhide H0) (unhide HL) (by have := unhide HN; omega)).mono ?_
  rintro e w1 ⟨v1, rfl, b1, V1, t1⟩
  obtain ⟨lv1, hr1, ho1, hw1⟩ := t1
  have H1 := hide hr1
  clear hr1
  go_wp2_with fail
  refine (part16 (unhide H1) (fun x hx => unhide HL x (List.mem_of_mem_drop hx)) (by have := unhide HN; simp; omega)).mono ?_
  rintro e w2 ⟨v2, rfl, b2, V2, t2⟩
  replace t2 := TakeN.next ho1 hw1 t2
  obtain ⟨lv2, hr2, ho2, hw2⟩ := t2
  have H2 := hide hr2
  clear hr2
  go_wp2_with fail
  refine (part8 (unhide H2) (fun x hx => unhide HL x (List.mem_of_mem_drop hx)) (by have := unhide HN; simp; omega)).mono ?_
  rintro e w3 ⟨v3, rfl, b3, V3, t3⟩
  replace t3 := TakeN.next ho2 hw2 t3
  obtain ⟨lv3, hr3, ho3, hw3⟩ := t3
  have H3 := hide hr3
  clear hr3
  go_wp2
  go_ret
  refine ⟨ret_int ?_, lv3, unhide H3, ho3, hw3⟩
  rw [show (v2 : Int) * 4294967296 = ((v2 * 2 ^ 32 : Nat) : Int) by simp, or_u64 (v1) v2 32 (by omega) (by omega) (by omega)]
  rw [show (v3 : Int) * 281474976710656 = ((v3 * 2 ^ 48 : Nat) : Int) by simp, or_u64 (v1 + v2 * 2 ^ 32) v3 48 (by omega) (by omega) (by omega)]
  rw [show 7 = (4 + 2) + 1 from rfl, leV_at l (4 + 2) 1 (by have := unhide HN; omega), leV_at l 4 2 (by have := unhide HN; omega), ← unhide V1, ← unhide V2, ← unhide V3]

set_option maxRecDepth 100000 in
set_option maxHeartbeats 400000 in
theorem takeFixed8 {w : World} {b : Nat} {lv bv : Value} {l : List Nat} (h : Rd w b lv bv l) (hl : ∀ x ∈ l, x < 256) (hn : 8 ≤ l.length) :
    Calls Try.prog 65 #[.pointer (some ⟨b, 0, none⟩), .int .i64 8] w fun e w' => e = .returned (.int .u64 (leV (l.take 8) : Nat)) ∧ TakeN w b lv bv l 8 w' := by
  have m4 : bits .and .i64 8 4 = 0 := by decide
  have m2 : bits .and .i64 8 2 = 0 := by decide
  have m1 : bits .and .i64 8 1 = 0 := by decide
  have HL := hide hl
  have HN := hide hn
  have H0 := hide h
  have hw0 := Kept.refl [b] w
  have ho0 : lv.ownBlock = lv.ownBlock := rfl
  clear h hl hn
  go_enter Try.func65, Try.ntmps65
  go_wp2_with fail
  refine (part64 (unhide H0) (unhide HL) (by have := unhide HN; omega)).mono ?_
  rintro e w1 ⟨v1, rfl, b1, V1, t1⟩
  obtain ⟨lv1, hr1, ho1, hw1⟩ := t1
  have H1 := hide hr1
  clear hr1
  go_wp2
  go_ret
  refine ⟨ret_int ?_, lv1, unhide H1, ho1, hw1⟩
  rw [unhide V1]

theorem takeFixed_ok {w : World} {b : Nat} {lv bv : Value} {l : List Nat} (h : Rd w b lv bv l) (hl : ∀ x ∈ l, x < 256) (size : Nat) (h1 : 1 ≤ size) (h8 : size ≤ 8) (hn : size ≤ l.length) :
    Calls Try.prog 65 #[.pointer (some ⟨b, 0, none⟩), .int .i64 size] w fun e w' => e = .returned (.int .u64 (leV (l.take size) : Nat)) ∧ TakeN w b lv bv l size w' := by
  match size, h1, h8, hn with
  | 1, _, _, hn => exact takeFixed1 h hl hn
  | 2, _, _, hn => exact takeFixed2 h hl hn
  | 3, _, _, hn => exact takeFixed3 h hl hn
  | 4, _, _, hn => exact takeFixed4 h hl hn
  | 5, _, _, hn => exact takeFixed5 h hl hn
  | 6, _, _, hn => exact takeFixed6 h hl hn
  | 7, _, _, hn => exact takeFixed7 h hl hn
  | 8, _, _, hn => exact takeFixed8 h hl hn
end Go.Proofs.Ytiabhgkndejigab
