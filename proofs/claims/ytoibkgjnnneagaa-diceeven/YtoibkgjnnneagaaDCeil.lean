/- A quotient rounded up, bit by bit; what a Roll answers at once. -/
import Derived.Test.YtoibkgjnnneagaaDJump
namespace Go.Proofs.Ytoibkgjnnneagaa
open Go.RowKit

/-- the upper bits of high and low, from j on -/
def pre (h l j : Nat) : Nat := h * 2 ^ (64 - j) + l / 2 ^ j
theorem pre_all (h : Nat) {l : Nat} (hl : l < 18446744073709551616) : pre h l 64 = h := by
  unfold pre; rw [Nat.div_eq_of_lt (show l < 2 ^ 64 from hl)]; simp
theorem pre_zero (h l : Nat) : pre h l 0 = h * 18446744073709551616 + l := by
  unfold pre; simp
theorem pre_succ {h l m : Nat} (hm : m < 64) : pre h l m = 2 * pre h l (m + 1) + l / 2 ^ m % 2 := by
  unfold pre
  have e1 : 64 - m = (64 - (m + 1)) + 1 := by omega
  rw [e1, Nat.pow_succ, Nat.pow_succ, ← Nat.div_div_eq_div_mul, ← Nat.mul_assoc]
  generalize h * 2 ^ (64 - (m + 1)) = a
  omega
theorem pre_lt {h l n j : Nat} (hh : h < n) (hl : l < 18446744073709551616) (hj : j ≤ 64) : pre h l j / n < 2 ^ (64 - j) := by
  rw [Nat.div_lt_iff_lt_mul (by omega)]
  unfold pre
  have h2 : l / 2 ^ j < 2 ^ (64 - j) := by
    rw [Nat.div_lt_iff_lt_mul (Nat.two_pow_pos _), ← Nat.pow_add, show 64 - j + j = 64 by omega]; exact hl
  have h3 : (h + 1) * 2 ^ (64 - j) ≤ n * 2 ^ (64 - j) := Nat.mul_le_mul_right _ hh
  rw [Nat.add_mul, Nat.one_mul, Nat.mul_comm n] at h3
  omega

/-- what is reckoned of the quotient at j, and what is left -/
def quo (h l n j : Nat) : Nat := pre h l j / n * 2 ^ j
def lef (h l n j : Nat) : Nat := pre h l j % n

theorem lef_lt (h l j : Nat) {n : Nat} (hn : 1 ≤ n) : lef h l n j < n := Nat.mod_lt _ hn
theorem quo_lt {h l n j : Nat} (hh : h < n) (hl : l < 18446744073709551616) (hj : j ≤ 64) : quo h l n j + 2 ^ j ≤ 18446744073709551616 := by
  unfold quo
  have := pre_lt hh hl hj
  have h2 : (pre h l j / n + 1) * 2 ^ j ≤ 2 ^ (64 - j) * 2 ^ j := Nat.mul_le_mul_right _ this
  rw [← Nat.pow_add, show 64 - j + j = 64 by omega, Nat.add_mul, Nat.one_mul] at h2
  exact h2
theorem pow_two (m : Nat) : 2 ^ (m + 1) = 2 * 2 ^ m := by rw [Nat.pow_succ, Nat.mul_comm]

theorem div_of {a b n q r : Nat} (h : a = n * q + r) (hr : r < n) (hb : b = n) : a / b = q ∧ a % b = r := by
  subst hb; subst h
  have hn : 0 < b := by omega
  exact ⟨by rw [Nat.mul_add_div hn, Nat.div_eq_of_lt hr, Nat.add_zero], by rw [Nat.mul_add_mod, Nat.mod_eq_of_lt hr]⟩

theorem bit_le (x : Nat) : x % 2 ≤ 1 := by omega
theorem round_ge {h l n m : Nat} (hn : 1 ≤ n) (hm : m < 64) (hc : n ≤ 2 * lef h l n (m + 1) + l / 2 ^ m % 2) :
    quo h l n m = quo h l n (m + 1) + 2 ^ m ∧ lef h l n m = 2 * lef h l n (m + 1) + l / 2 ^ m % 2 - n := by
  have e := pre_succ (h := h) (l := l) hm
  have hd := Nat.div_add_mod (pre h l (m + 1)) n
  have hl := lef_lt h l (m + 1) hn
  have hbt := bit_le (l / 2 ^ m)
  unfold quo lef at *
  generalize l / 2 ^ m % 2 = bt at *
  generalize pre h l (m + 1) / n = q at *
  generalize pre h l (m + 1) % n = r at *
  have e2 : n * (2 * q + 1) = 2 * (n * q) + n := by rw [Nat.mul_add, Nat.mul_one, Nat.mul_left_comm]
  obtain ⟨h1, h2⟩ := div_of (a := pre h l m) (b := n) (n := n) (q := 2 * q + 1) (r := 2 * r + bt - n) (by rw [e, ← hd, e2]; omega) (by omega) rfl
  rw [h1, h2, pow_two, Nat.add_mul, Nat.one_mul, Nat.mul_comm 2 q, Nat.mul_assoc]
  exact ⟨rfl, rfl⟩
theorem round_lt {h l n m : Nat} (hm : m < 64) (hc : ¬ n ≤ 2 * lef h l n (m + 1) + l / 2 ^ m % 2) :
    quo h l n m = quo h l n (m + 1) ∧ lef h l n m = 2 * lef h l n (m + 1) + l / 2 ^ m % 2 := by
  have e := pre_succ (h := h) (l := l) hm
  have hd := Nat.div_add_mod (pre h l (m + 1)) n
  unfold quo lef at *
  generalize l / 2 ^ m % 2 = bt at *
  generalize pre h l (m + 1) / n = q at *
  generalize pre h l (m + 1) % n = r at *
  have e2 : n * (2 * q) = 2 * (n * q) := by rw [Nat.mul_left_comm]
  obtain ⟨h1, h2⟩ := div_of (a := pre h l m) (b := n) (n := n) (q := 2 * q) (r := 2 * r + bt) (by rw [e, ← hd, e2]; omega) (by omega) rfl
  rw [h1, h2, pow_two, Nat.mul_comm 2 q, Nat.mul_assoc]
  exact ⟨rfl, rfl⟩

/-- the quotient, rounded up -/
def ceilN (V n : Nat) : Nat := V / n + (if V % n = 0 then 0 else 1)

theorem and_bit' {a : Nat} (ha : a < 18446744073709551616) (m : Nat) : bits .and .u64 ((a : Int) / 2 ^ m) 1 = ((a / 2 ^ m % 2 : Nat) : Int) := by
  have := u64_and_nat (a / 2 ^ m) 1 (div_lt' m ha) (by omega)
  rw [Nat.and_one_is_mod] at this
  rw [← this]
  simp
theorem pow_wrap {m : Nat} (hm : m < 64) : IntKind.u64.wrap (2 ^ m) = ((2 ^ m : Nat) : Int) := by
  have h1 : 2 ^ m ≤ 2 ^ 63 := Nat.pow_le_pow_right (by omega) (by omega)
  have e : ((2 : Int) ^ m) = ((2 ^ m : Nat) : Int) := by simp
  rw [e]
  exact wrap_nat (by omega)

set_option maxRecDepth 100000 in
set_option maxHeartbeats 1000000 in
theorem ceil_any (w : World) (h l n : Nat) (hh : h < n) (hl : l < 18446744073709551616) (hn : n ≤ 9223372036854775807) (hc : (h * 18446744073709551616 + l) / n + 1 < 18446744073709551616) :
    Calls Try.prog 26 #[.int .u64 h, .int .u64 l, .int .u64 n] w fun e w' => e = .returned (.tuple #[.int .u64 ((ceilN (h * 18446744073709551616 + l) n : Nat) : Int), .bool false]) ∧ w' = w := by
  have hn1 : 1 ≤ n := by omega
  have a0 := pre_all h hl
  have s0 : quo h l n 64 = 0 ∧ lef h l n 64 = h := by
    unfold quo lef; rw [a0, Nat.div_eq_of_lt hh, Nat.mod_eq_of_lt hh]; simp
  have z0 : quo h l n 0 = (h * 18446744073709551616 + l) / n ∧ lef h l n 0 = (h * 18446744073709551616 + l) % n := by
    unfold quo lef; rw [pre_zero]; simp
  unfold ceilN
  rw [← z0.1] at hc ⊢
  rw [← z0.2]
  clear z0 a0
  have HL := fun j => lef_lt h l j hn1
  have HQ := fun j hj => quo_lt (n := n) (j := j) hh hl hj
  have HG := fun m hm => @round_ge h l n m hn1 hm
  have HT := fun m hm => @round_lt h l n m hm
  have HB := fun m => and_bit' hl m
  have hle := fun m => bit_le (l / 2 ^ m)
  generalize quo h l n = Q at *
  generalize lef h l n = L at *
  go_enter Try.func26, Try.ntmps26
  go_wp2_with fail
  go_loop [8, 9, 10] (fun q x i => ∃ j : Nat, j ≤ 64 ∧ i = .int .i64 ((j : Int) - 1) ∧ q = .int .u64 (Q j : Nat) ∧ x = .int .u64 (L j : Nat)) (fun _ _ i => (intOf i + 1).toNat)
  case atStart => exact ⟨64, by omega, rfl, by rw [s0.1]; rfl, by rw [s0.2]⟩
  case round =>
    obtain ⟨j, hj, rfl, rfl, rfl⟩ := hrel
    cases j with
    | zero =>
      have h1 := HL 0
      clear HL HQ HG HT HB hle s0
      obtain ⟨q, hq⟩ : ∃ q, Q 0 = q := ⟨_, rfl⟩
      obtain ⟨x, hx⟩ : ∃ x, L 0 = x := ⟨_, rfl⟩
      rw [hq] at hc
      rw [hq, hx]
      have ew : IntKind.u64.wrap ((q : Int) + 1) = ((q + 1 : Nat) : Int) := wrap_nat hc
      by_cases h0 : x = 0
      · subst h0
        go_wp2
        refine bodyPost_ret (results_tmp2 rfl _ _ _) rfl ?_
        exact ⟨rfl, rfl⟩
      · have tx : ((0 : Int) < (x : Int)) = True := by simp; omega
        have tq : (((q + 1 : Nat) : Int) == 0) = false := by simp; omega
        go_wp2
        · refine bodyPost_ret (results_tmp2 rfl _ _ _) rfl ?_
          refine ⟨?_, rfl⟩
          show Ending.returned (.tuple #[.int .u64 ((q : Int) + 1), .bool ((q : Int) + 1 == 0)]) = _
          have tz : ((q : Int) + 1 == 0) = false := by simp; omega
          rw [tz]
    | succ m =>
      have em : ((m + 1 : Nat) : Int) - 1 = (m : Int) := by omega
      rw [em]
      have b1 := HL (m + 1)
      have b2 := HQ (m + 1) hj
      have b3 := HG m (by omega)
      have b4 := HT m (by omega)
      have b5 := HB m
      have b6 := hle m
      have b7 := pow_wrap (m := m) (by omega)
      rw [pow_two] at b2
      clear HL HQ HG HT HB hle s0 hc
      generalize Q (m + 1) = q at *
      generalize L (m + 1) = x at *
      generalize l / 2 ^ m % 2 = bt at *
      have e1 : IntKind.u64.wrap (2 * (x : Int)) = ((2 * x : Nat) : Int) := by rw [IntKind.wrap_u64]; omega
      have e2 : IntKind.u64.wrap (((2 * x : Nat) : Int) + (bt : Int)) = ((2 * x + bt : Nat) : Int) := by rw [IntKind.wrap_u64]; omega
      have e4 : IntKind.u64.wrap ((q : Int) + ((2 ^ m : Nat) : Int)) = ((q + 2 ^ m : Nat) : Int) := by rw [← Int.natCast_add]; exact wrap_nat (by have := Nat.two_pow_pos m; omega)
      have t1 : ((9223372036854775808 : Int) ≤ (x : Int)) = False := by simp; omega
      by_cases hge : n ≤ 2 * x + bt
      · obtain ⟨c1, c2⟩ := b3 hge
        clear b3 b4
        have e3 : IntKind.u64.wrap (((2 * x + bt : Nat) : Int) - (n : Int)) = ((2 * x + bt - n : Nat) : Int) := by rw [IntKind.wrap_u64]; omega
        have t2 : ((n : Int) ≤ ((2 * x + bt : Nat) : Int)) = True := by simp; omega
        go_wp2_with (first | rw [b5] | rw [e1] | rw [e2] | rw [b7] | rw [e3] | rw [e4])
        refine ⟨⟨m, by omega, rfl, by first | (rw [c1]; done) | (rw [c1]; congr 1 <;> simp), by first | (rw [c2]; done) | (rw [c2]; congr 1 <;> omega)⟩, by simp [intOf]⟩
      · obtain ⟨c1, c2⟩ := b4 hge
        clear b3 b4
        have t2 : ((n : Int) ≤ ((2 * x + bt : Nat) : Int)) = False := by simp; omega
        go_wp2_with (first | rw [b5] | rw [e1] | rw [e2] | rw [b7] | rw [e4])
        refine ⟨⟨m, by omega, rfl, by first | (rw [c1]; done) | (rw [c1]; congr 1 <;> simp), by first | (rw [c2]; done) | (rw [c2]; congr 1 <;> omega)⟩, by simp [intOf]⟩

/-- what a Roll answers when it draws v first, and whether at once -/
def onceN (v n : Nat) : Nat × Bool := ((rollK 16 n (bef v)).1, decide ((rollK 16 n (bef v)).2 = 1))
theorem once_yes {v n : Nat} (hv : v < 18446744073709551616) (h : restN n ≤ v * n % 18446744073709551616) : onceN v n = (v * n / 18446744073709551616, true) := by
  unfold onceN
  have e : rollK 16 n (bef v) = (v * n / 18446744073709551616, 1) := by
    rw [show (16 : Nat) = 15 + 1 from rfl, rollK_succ, mix_bef hv, if_pos (Or.inl h)]
  rw [e]; rfl
theorem once_no {v n : Nat} (hv : v < 18446744073709551616) (h : ¬ restN n ≤ v * n % 18446744073709551616) : (onceN v n).2 = false := by
  unfold onceN
  have e : (rollK 16 n (bef v)).2 = (rollK 15 n (on (bef v) 1)).2 + 1 := by
    rw [show (16 : Nat) = 15 + 1 from rfl, rollK_succ, mix_bef hv, if_neg (by rintro (h1 | h1); exact h h1; omega)]
  have := rollK_pos 14 n (on (bef v) 1)
  rw [show 14 + 1 = 15 from rfl] at this
  rw [e]
  exact decide_eq_false (by omega)

set_option maxRecDepth 100000 in
set_option maxHeartbeats 1000000 in
theorem once_any (w : World) (v n : Nat) (hv : v < 18446744073709551616) (h1 : 1 ≤ n) (h2 : n ≤ 9223372036854775807) :
    Calls Try.prog 27 #[.int .u64 v, .int .u64 n] w fun e w' => e = .returned (.tuple #[.int .i64 (((onceN v n).1 : Nat) : Int), .bool (onceN v n).2]) ∧ Kept [] w w' := by
  have H1 := hide (before_any w v hv)
  have HR := fun w1 b1 (h : Dc w1 b1 (bef v)) => hide (roll_any h n h1 h2)
  have HT := fun w => hide (stepsAt_any w (bef v) (on (bef v) (rollK 16 n (bef v)).2) (bef_lt v) (on_lt _ _))
  rw [steps_on (bef_lt v), Nat.mod_eq_of_lt (by have := rollK_le 16 n (bef v); omega)] at HT
  unfold onceN
  generalize bef v = s at *
  generalize rollK 16 n s = R at *
  obtain ⟨k, m⟩ := R
  simp only at *
  have et := bit_iff m 1
  rw [← et]
  go_enter Try.func27, Try.ntmps27
  go_wp2_with (first
    | (go_at_call 22; refine (unhide H1).mono ?_; rintro e w1 ⟨b, rfl, hd, hb, hk⟩; clear H1; have HS := hide (state_any hd); have HQ := HR _ _ hd; replace hk := hide hk; clear hd HR)
    | (go_at_call 23; refine (unhide HS).mono ?_; rintro e w2 ⟨rfl, hq⟩; have hq' := hq.symm; subst hq'; clear HS)
    | (go_at_call 25; refine (unhide HQ).mono ?_; rintro e w2 ⟨rfl, hd, hk2⟩; clear HQ; have HS := hide (state_any hd); replace hk := hide ((unhide hk).push hk2 hb); clear hk2 hd)
    | (go_at_call 19; refine (unhide (HT _)).mono ?_; rintro e w3 ⟨rfl, hq⟩; have hq' := hq.symm; subst hq'; clear HT))
  refine bodyPost_ret (results_tmp2 rfl _ _ _) rfl ?_
  exact ⟨rfl, unhide hk⟩
end Go.Proofs.Ytoibkgjnnneagaa
