/- What stands at the beginning of some bytes: numbers. -/
import Derived.Test.YtigmofbammofbabKLayR
namespace Go.Proofs.Ytigmofbammofbab
open Go.RowKit

theorem Sees.drop {w : World} {b off n cap : Nat} {bs : List Nat} (h : Sees w (.slice (some ⟨b, off, none⟩) n cap) bs) (k m : Nat) (hk : m + k = n) :
    Sees w (.slice (if cap = k then some ⟨b, off, none⟩ else some ⟨b, off + k, none⟩) m (cap - k)) (bs.drop k) ∧ (bs.drop k).length = m := by
  obtain ⟨a, c, hv, h1, h2, h3, h4⟩ := h
  cases hv
  have hl : (bs.drop k).length = m := by rw [List.length_drop]; omega
  refine ⟨⟨_, _, by rw [hl], by rw [hl]; omega, by omega, fun x hx => h3 x (List.mem_of_mem_drop hx), ?_⟩, hl⟩
  by_cases hm : m = 0
  · exact Or.inl (List.eq_nil_of_length_eq_zero (by omega))
  · rcases h4 with h4 | ⟨b', off', ha, h5, h6⟩
    · subst h4; simp at hk; omega
    · cases ha
      refine Or.inr ⟨b, off + k, by rw [if_neg (by omega)], h5, fun j hj => ?_⟩
      have := h6 (k + j) (by omega)
      rw [Nat.add_assoc, this]
      simp [List.getD, List.getElem?_drop]

theorem Sees.drop' {w : World} {b off n cap : Nat} {bs : List Nat} (h : Sees w (.slice (some ⟨b, off, none⟩) n cap) bs) (k m : Nat) (hk : m + k = n) (A : Option Addr) (C : Nat) (hA : A = if cap = k then some ⟨b, off, none⟩ else some ⟨b, off + k, none⟩) (hC : C = cap - k) : Sees w (.slice A m C) (bs.drop k) := by
  subst hA hC
  exact (h.drop k m hk).1

/-- an answer of three: a value, what is behind it, no fault; or zeros and the fault 40 -/
def Out {α : Type} (bo : Option Nat) (mk : α → Value) (zero : Value) (o : Option (α × List Nat)) (w : World) (e : Ending) : Prop :=
  match o with
  | some (x, r) => ∃ ra m rc, e = .returned (.tuple #[mk x, .slice ra m rc, .int .i64 0]) ∧ r.length = m ∧ Sees w (.slice ra m rc) r ∧ (Value.slice ra m rc).ownBlock = bo
  | none => e = .returned (.tuple #[zero, .slice none 0 0, .int .i64 40])

set_option maxRecDepth 100000 in
set_option maxHeartbeats 400000 in
theorem takeBool_any {w : World} {v : Value} {bs : List Nat} (hs : Sees w v bs) :
    Calls Try.prog 44 #[v] w fun e w' => Out v.ownBlock (fun b => .bool b) (.bool false) (takeB bs) w' e ∧ Kept [] w w' := by
  have HS := hide hs
  obtain ⟨a, cap, rfl, h1, h2, h3, h4⟩ := hs
  cases bs with
  | nil =>
    simp only [List.length_nil]
    go_enter Try.func44, Try.ntmps44
    go_wp2
    go_ret3
    exact ⟨rfl, Kept.refl _ _⟩
  | cons x bs =>
    rcases h4 with h4 | ⟨b, off, rfl, h5, h6⟩
    · simp at h4
    have hc := h6 0 (by simp)
    simp only [Nat.add_zero, List.getD_cons_zero] at hc
    have hx : x < 256 := h3 x (List.mem_cons_self ..)
    clear h6 h3
    unfold maxLen at h2
    simp only [List.length_cons] at *
    generalize hL : bs.length = L at *
    have HL := hide hL
    clear hL
    have t1 : ((L : Int) + 1 == 0) = false := by simp; omega
    simp only [takeB]
    by_cases hx1 : 1 < x
    · rw [if_pos hx1]
      have t2 : ((x : Int) > 1) = True := by simp; omega
      go_enter Try.func44, Try.ntmps44
      go_wp2
      go_ret3
      exact ⟨rfl, Kept.refl _ _⟩
    · rw [if_neg hx1]
      have t2 : ((x : Int) > 1) = False := by simp; omega
      rw [← show ((x : Int) == 1) = decide (x = 1) from bit_iff x 1]
      go_enter Try.func44, Try.ntmps44
      go_wp2
      go_region
      go_wp2
      all_goals go_ret3
      all_goals exact ⟨⟨_, L, _, rfl, unhide HL, ((unhide HS).drop' 1 L rfl _ _ (by simp [*]) (by omega)).kept (F := []) (Kept.refl [] w).drew (Or.inr (by simp)), rfl⟩, (Kept.refl [] w).drew⟩

theorem word_take (bs : List Nat) (k : Nat) (hk : k < bs.length) : word (bs.take (k + 1)) = word (bs.take k) * 256 + bs.getD k 0 := by
  unfold word
  rw [List.take_add_one, List.foldl_append, List.getElem?_eq_getElem hk, List.getD, List.getElem?_eq_getElem hk]
  rfl
theorem word_lt (bs : List Nat) (h : ∀ x ∈ bs, x < 256) : word bs < 256 ^ bs.length := by
  have : ∀ (l : List Nat) (a : Nat), (∀ x ∈ l, x < 256) → l.foldl (fun a b => a * 256 + b) a < (a + 1) * 256 ^ l.length := by
    intro l
    induction l with
    | nil => intro a _; simp
    | cons b r ih =>
      intro a hb
      rw [List.foldl_cons, List.length_cons, Nat.pow_succ]
      have h1 := ih (a * 256 + b) (fun x hx => hb x (List.mem_cons_of_mem _ hx))
      have h2 := hb b (List.mem_cons_self ..)
      have h3 : (a * 256 + b + 1) * 256 ^ r.length ≤ ((a + 1) * 256) * 256 ^ r.length := Nat.mul_le_mul_right _ (by omega)
      calc _ < _ := h1
        _ ≤ _ := h3
        _ = _ := by rw [Nat.mul_assoc, Nat.mul_comm 256]
  have h1 := this bs 0 h
  simpa [word] using h1
theorem or_low {m x : Nat} (hx : x < 256) : m * 256 ||| x = m * 256 + x := by
  have h := Nat.two_pow_add_eq_or_of_lt (i := 8) (b := x) hx m
  rw [show (2 : Nat) ^ 8 = 256 from rfl, Nat.mul_comm] at h
  exact h.symm

set_option maxRecDepth 100000 in
set_option maxHeartbeats 1000000 in
theorem takeWord_any {w : World} {v : Value} {bs : List Nat} (hs : Sees w v bs) :
    Calls Try.prog 57 #[v] w fun e w' => Out v.ownBlock (fun m : Nat => .int .u64 m) (.int .u64 0) (takeW bs) w' e ∧ Kept [] w w' := by
  have HS := hide hs
  obtain ⟨a, cap, rfl, h1, h2, h3, h4⟩ := hs
  unfold takeW
  by_cases hl8 : bs.length < 8
  · rw [if_pos hl8]
    generalize bs.length = L at *
    have t1 : ((L : Int) < 8) = True := by simp; omega
    go_enter Try.func57, Try.ntmps57
    go_wp2
    go_ret3
    exact ⟨rfl, Kept.refl _ _⟩
  · rw [if_neg hl8]
    rcases h4 with h4 | ⟨b, off, rfl, h5, h6⟩
    · subst h4; simp at hl8
    have H6 := hide h6
    have H3 := hide h3
    unfold maxLen at h2
    clear h3 h6
    generalize hL : bs.length = L at *
    have HL := hide hL
    clear hL
    have t1 : ((L : Int) < 8) = False := by simp; omega
    have t2 : (8 : Int) ≤ (cap : Int) := by omega
    have t3 : 8 ≤ cap := by omega
    have HD := hide ((unhide HS).drop 8 (L - 8) (by omega)).2
    go_enter Try.func57, Try.ntmps57
    go_wp2_with fail
    go_loop [5, 14] (fun r i => ∃ k : Nat, k ≤ 8 ∧ i = .int .i64 k ∧ r = .int .u64 (word (bs.take k) : Nat)) (fun _ i => 8 - (intOf i).toNat)
    case atStart => exact ⟨0, by omega, rfl, rfl⟩
    case round =>
      obtain ⟨k, hk, rfl, rfl⟩ := hrel
      by_cases hk8 : k < 8
      · have hc := unhide H6 k (by omega)
        have hx := getD_lt (unhide H3) (show k < bs.length by rw [unhide HL]; omega)
        have HW := hide (word_take bs k (by rw [unhide HL]; omega))
        have hm : word (bs.take k) < 72057594037927936 := by
          have h1 := word_lt (bs.take k) (fun x hx => unhide H3 x (List.mem_of_mem_take hx))
          rw [List.length_take, unhide HL, Nat.min_eq_left (by omega)] at h1
          have h2 : 256 ^ k ≤ 256 ^ 7 := Nat.pow_le_pow_right (by omega) (by omega)
          have h3 : (256 : Nat) ^ 7 = 72057594037927936 := by decide
          omega
        generalize bs.getD k 0 = x at *
        generalize word (bs.take k) = m at *
        have e1 : bits .or .u64 ((m : Int) * 256) (x : Int) = ((m * 256 + x : Nat) : Int) := by
          have h := u64_or_nat (m * 256) x (by omega) (by omega)
          rw [or_low hx] at h
          simpa using h
        go_wp2
        exact ⟨⟨k + 1, by omega, by simp, by rw [unhide HW]; simp⟩, by simp [intOf]; omega⟩
      · obtain rfl : k = 8 := by omega
        go_wp2
        go_region
        go_wp2
        all_goals go_ret3
        all_goals exact ⟨⟨_, L - 8, _, rfl, unhide HD, ((unhide HS).drop' 8 (L - 8) (by omega) _ _ (by simp [*]) (by omega)).kept (F := []) (Kept.refl [] w).drew (Or.inr (by simp)), rfl⟩, (Kept.refl [] w).drew⟩
set_option maxRecDepth 100000 in
set_option maxHeartbeats 400000 in
theorem intAt_any (m : Nat) (hm : m < 18446744073709551616) (w : World) : Calls Try.prog 58 #[.int .u64 (m : Int)] w fun e w' => e = .returned (.int .i64 (intA m)) ∧ w' = w := by
  have e2 : bits .xor .u64 (m : Int) 9223372036854775808 = ((m ^^^ 9223372036854775808 : Nat) : Int) := u64_xor_nat m 9223372036854775808 hm (by omega)
  have e3 : IntKind.i64.wrap ((m ^^^ 9223372036854775808 : Nat) : Int) = intA m := by
    unfold intA
    rw [IntKind.wrap_i64]
    by_cases h : m < 9223372036854775808
    · rw [xor_top h]; omega
    · rw [xor_top2 (by omega) hm]; omega
  generalize m ^^^ 9223372036854775808 = q at *
  generalize intA m = r at *
  go_enter Try.func58, Try.ntmps58
  go_wp2
  go_ret
  exact ⟨ret_int (by first | rfl | exact e3), rfl⟩

set_option maxRecDepth 100000 in
set_option maxHeartbeats 400000 in
theorem realAt_any (m : Nat) (hm : m < 18446744073709551616) (w : World) : Calls Try.prog 59 #[.int .u64 (m : Int)] w fun e w' => e = .returned (.float .f64 (backN m)) ∧ w' = w := by
  have hkf := kf
  by_cases ht : m < 9223372036854775808
  · have e1 : bits .and .u64 (m : Int) 9223372036854775808 = 0 := by
      have h := u64_and_nat m 9223372036854775808 hm (by omega)
      rw [and_top ht] at h; exact h
    have e2 : bits .xor .u64 IntKind.u64.max (m : Int) = ((18446744073709551615 - m : Nat) : Int) := by
      have h := u64_xor_nat 18446744073709551615 m (by omega) hm
      rw [xor_all hm] at h; exact h
    have HT : Hid (backN m = 18446744073709551615 - m) := by unfold Hid backN top; rw [if_pos ht]
    generalize 18446744073709551615 - m = q at *
    go_enter Try.func59, Try.ntmps59
    go_wp2
    go_ret
    rw [unhide HT]
    exact ⟨rfl, rfl⟩
  · have e1 : bits .and .u64 (m : Int) 9223372036854775808 = 9223372036854775808 := by
      have h := u64_and_nat m 9223372036854775808 hm (by omega)
      rw [and_top2 (by omega) hm] at h; exact h
    have e2 : bits .xor .u64 (m : Int) 9223372036854775808 = ((m - 9223372036854775808 : Nat) : Int) := by
      have h := u64_xor_nat m 9223372036854775808 hm (by omega)
      rw [xor_top2 (by omega) hm] at h; exact h
    have HT : Hid (backN m = m - 9223372036854775808) := by unfold Hid backN top; rw [if_neg ht]
    obtain ⟨q, hq⟩ : ∃ q, m - 9223372036854775808 = q := ⟨_, rfl⟩
    rw [hq] at e2 HT
    clear hq
    go_enter Try.func59, Try.ntmps59
    go_wp2
    go_ret
    rw [unhide HT]
    exact ⟨rfl, rfl⟩

theorem takeW_lt {bs r : List Nat} {m : Nat} (h : takeW bs = some (m, r)) (hb : ∀ x ∈ bs, x < 256) : m < 18446744073709551616 ∧ (∀ x ∈ r, x < 256) ∧ bs.length = r.length + 8 := by
  unfold takeW at h
  split at h
  · cases h
  · rename_i hl
    simp only [Option.some.injEq, Prod.mk.injEq] at h
    obtain ⟨rfl, rfl⟩ := h
    refine ⟨(be8_word _ (by rw [List.length_take]; omega) (fun x hx => hb x (List.mem_of_mem_take hx))).2, fun x hx => hb x (List.mem_of_mem_drop hx), by rw [List.length_drop]; omega⟩

set_option maxRecDepth 100000 in
set_option maxHeartbeats 400000 in
theorem takeInt_any {w : World} {v : Value} {bs : List Nat} (hs : Sees w v bs) :
    Calls Try.prog 45 #[v] w fun e w' => Out v.ownBlock (fun m : Nat => .int .i64 (intA m)) (.int .i64 0) (takeW bs) w' e ∧ Kept [] w w' := by
  have HTW := hide (takeWord_any hs)
  obtain ⟨a, cap, rfl, h1, h2, h3, h4⟩ := hs
  generalize bs.length = L at *
  cases hw : takeW bs with
  | none =>
    rw [hw] at HTW
    go_enter Try.func45, Try.ntmps45
    go_wp2_with (first | (go_at_call 57; refine (unhide HTW).mono ?_; rintro e w1 ⟨rfl, hk1⟩; have HK1 := hide hk1; clear hk1))
    go_ret3
    exact ⟨rfl, unhide HK1⟩
  | some mr =>
    obtain ⟨m, r⟩ := mr
    rw [hw] at HTW
    have hlt := (takeW_lt hw h3).1
    have HIA := hide (intAt_any m hlt)
    clear h3 h4 hw
    go_enter Try.func45, Try.ntmps45
    go_wp2_with (first | (go_at_call 57; refine (unhide HTW).mono ?_; rintro e w1 ⟨⟨ra, mm, rc, rfl, hl1, hs1⟩, hk1⟩; have HK1 := hide hk1; have HS1 := hide (⟨hl1, hs1⟩ : _ ∧ _); clear hk1 hl1 hs1) | (go_at_call 58; refine (unhide HIA _).mono ?_; rintro e w' ⟨rfl, hq⟩; have hq' := hq.symm; subst hq'))
    go_ret3
    exact ⟨⟨ra, mm, rc, rfl, (unhide HS1).1, (unhide HS1).2⟩, unhide HK1⟩

end Go.Proofs.Ytigmofbammofbab
