/- The document's own reckoning: Step, times, Steps, Join, Turn, unstep, Tail. -/
import Derived.Test.YtlcepoomjnpfpaaJoin
namespace Go.Proofs.Ytlcepoomjnpfpaa
open Go.RowKit

set_option maxRecDepth 100000 in
set_option maxHeartbeats 400000 in
theorem rstep_any (v : Nat) (hv : v < 4294967296) (w : World) :
    Calls Try.prog 26 #[.int .u32 v] w fun e w' => e = .returned (.int .u32 (stp v : Nat)) ∧ w' = w := by
  have ha := and_one v hv
  go_enter Try.func26, Try.ntmps26
  go_wp2
  · rename_i hb
    go_ret
    exact ⟨by rw [← stp_of_one hv hb]; rfl, rfl⟩
  · rename_i hb
    go_ret
    exact ⟨by rw [← stp_of_zero hb]; rfl, rfl⟩

set_option maxRecDepth 100000 in
set_option maxHeartbeats 400000 in
theorem runstep_any (v : Nat) (hv : v < 4294967296) (w : World) :
    Calls Try.prog 17 #[.int .u32 v] w fun e w' => e = .returned (.int .u32 (unst v : Nat)) ∧ w' = w := by
  go_enter Try.func17, Try.ntmps17
  go_wp2
  · rename_i hb
    go_ret
    have h2 : (v : Int) / 2147483648 = 1 := by rw [beq_iff_eq] at hb; exact hb
    have := unst_of_one hv hb
    rw [h2] at this
    exact ⟨by rw [← this]; rfl, rfl⟩
  · rename_i hb
    go_ret
    have h2 : ¬ v / 2147483648 = 1 := by rw [beq_eq_false_iff_ne] at hb; omega
    refine ⟨?_, rfl⟩
    unfold unst
    rw [if_neg h2]
    rfl

set_option maxRecDepth 100000 in
set_option maxHeartbeats 400000 in
theorem times_walk (a b : Nat) (ha : a < 4294967296) (hb : b < 4294967296) (w : World) :
    Calls Try.prog 22 #[.int .u32 a, .int .u32 b] w fun e w' => e = .returned (.int .u32 (tms 32 a b 0 : Nat)) ∧ w' = w := by
  go_enter Try.func22, Try.ntmps22
  go_wp2_with fail
  go_loop [0, 1, 5, 6] (fun va vb vo i => ∃ k x y o : Nat, k ≤ 32 ∧ i = .int .i64 k ∧ va = .int .u32 x ∧ vb = .int .u32 y ∧ vo = .int .u32 o ∧ x < 4294967296 ∧ y < 4294967296 ∧ o < 4294967296 ∧ Hid (tms (32 - k) x y o = tms 32 a b 0)) (fun _ _ _ i => 32 - (intOf i).toNat)
  case atStart => exact ⟨0, a, b, 0, by omega, rfl, rfl, rfl, rfl, ha, hb, by omega, rfl⟩
  case round =>
    obtain ⟨k, x, y, o, hk, rfl, rfl, rfl, rfl, hx, hy, ho, HT⟩ := hrel
    by_cases hlt : k < 32
    · have HST := hide (rstep_any y hy)
      have hxo := u32_xor_nat o y ho hy
      have hxl : o ^^^ y < 4294967296 := Nat.xor_lt_two_pow (n := 32) ho hy
      have HU : Hid (tms (32 - (k + 1)) (x * 2 % 4294967296) (stp y) (if x / 2147483648 = 1 then o ^^^ y else o) = tms 32 a b 0) := by
        have := unhide HT
        rw [show 32 - k = 32 - (k + 1) + 1 by omega, tms] at this
        exact this
      have hsl := stp_lt hy
      generalize stp y = z at HST HU hsl
      generalize o ^^^ y = o2 at hxo hxl HU
      by_cases hbit : x / 2147483648 = 1
      · have hb2 : ((x : Int) / 2147483648 == 1) = true := by rw [beq_iff_eq]; omega
        rw [if_pos hbit] at HU
        go_wp2_with (first | (go_at_call 26; refine (unhide HST _).mono ?_; rintro e w' ⟨rfl, rfl⟩))
        exact ⟨⟨k + 1, x * 2 % 4294967296, z, o2, by omega, by simp, by first | (simp; done) | (simp; omega), rfl, rfl, by omega, hsl, hxl, HU⟩, by simp [intOf]; omega⟩
      · have hb2 : ((x : Int) / 2147483648 == 1) = false := by rw [beq_eq_false_iff_ne]; omega
        rw [if_neg hbit] at HU
        go_wp2_with (first | (go_at_call 26; refine (unhide HST _).mono ?_; rintro e w' ⟨rfl, rfl⟩))
        exact ⟨⟨k + 1, x * 2 % 4294967296, z, o, by omega, by simp, by first | (simp; done) | (simp; omega), rfl, rfl, by omega, hsl, ho, HU⟩, by simp [intOf]; omega⟩
    · obtain rfl : k = 32 := by omega
      go_wp2
      go_ret
      refine ⟨?_, rfl⟩
      rw [← unhide HT]
      rfl

/-- the product with m steps of 1 -/
theorem times_any (m a : Nat) (ha : a < 4294967296) (w : World) :
    Calls Try.prog 22 #[.int .u32 a, .int .u32 (stps m 2147483648 : Nat)] w fun e w' => e = .returned (.int .u32 (stps m a : Nat)) ∧ w' = w := by
  have := times_walk a (stps m 2147483648) ha (stps_lt m (by omega)) w
  rwa [tms_all m ha] at this

theorem steps_half {c m x : Nat} (h : c % 2 = 1) : stps (c / 2 * (m + m)) (stps m x) = stps (c * m) x := by
  rw [← stps_add]
  congr 1
  obtain ⟨d, rfl⟩ : ∃ d, c = 2 * d + 1 := ⟨c / 2, by omega⟩
  rw [show (2 * d + 1) / 2 = d by omega, Nat.mul_add, Nat.add_mul, Nat.one_mul, Nat.mul_assoc, Nat.two_mul]
  omega
theorem steps_half0 {c m : Nat} (h : ¬ c % 2 = 1) : c / 2 * (m + m) = c * m := by
  obtain ⟨d, rfl⟩ : ∃ d, c = 2 * d := ⟨c / 2, by omega⟩
  rw [show (2 * d) / 2 = d by omega, Nat.mul_add, Nat.mul_assoc, Nat.two_mul]

set_option maxRecDepth 100000 in
set_option maxHeartbeats 400000 in
theorem rsteps_any (v : Nat) (hv : v < 4294967296) (n : Int) (hn : n ≤ 9223372036854775807) (hn0 : -9223372036854775808 ≤ n) (w : World) :
    Calls Try.prog 16 #[.int .u32 v, .int .i64 n] w fun e w' => e = .returned (.int .u32 (stps (8 * n.toNat) v : Nat)) ∧ w' = w := by
  go_enter Try.func16, Try.ntmps16
  go_wp2_with fail
  go_loop [0, 1, 5] (fun vv i vp => ∃ (c m x : Nat) (i0 : Int), i = .int .i64 i0 ∧ vv = .int .u32 x ∧ vp = .int .u32 (stps m 2147483648 : Nat) ∧ i0 ≤ 9223372036854775807 ∧ -9223372036854775808 ≤ i0 ∧ i0.toNat = c ∧ x < 4294967296 ∧ Hid (stps (c * m) x = stps (8 * n.toNat) v)) (fun _ i _ => (intOf i).toNat)
  case atStart => exact ⟨n.toNat, 8, v, n, rfl, rfl, rfl, hn, hn0, rfl, hv, by rw [Nat.mul_comm]; rfl⟩
  case round =>
    obtain ⟨c, m, x, i0, rfl, rfl, rfl, hi1, hi2, hc, hx, HT⟩ := hrel
    by_cases hpos : 0 < i0
    · obtain rfl : i0 = (c : Int) := by omega
      clear hc
      have t3 : (0 : Int) < (c : Int) := hpos
      have HP1 := hide (times_any m x hx)
      have HP2 := hide (times_any m _ (stps_lt m (show 2147483648 < 4294967296 by omega)))
      have hl1 := stps_lt m hx
      have HD : Hid (stps m (stps m 2147483648) = stps (m + m) 2147483648) := (stps_add m m _).symm
      by_cases hodd : c % 2 = 1
      · have t2 : ((c : Int) % 2 == 1) = true := by rw [beq_iff_eq]; omega
        have HU : Hid (stps (c / 2 * (m + m)) (stps m x) = stps (8 * n.toNat) v) := (steps_half hodd).trans (unhide HT)
        generalize stps m x = x2 at HP1 HU hl1
        generalize stps m (stps m 2147483648) = p2 at HP2 HD
        generalize hpw : stps m 2147483648 = p1 at HP1 HP2
        clear hpw
        go_wp2_with (first | (go_at_call_of 22 x; refine (unhide HP1 _).mono ?_; rintro e w' ⟨rfl, rfl⟩) | (go_at_call 22; refine (unhide HP2 _).mono ?_; rintro e w' ⟨rfl, rfl⟩))
        exact ⟨⟨c / 2, m + m, x2, (c : Int) / 2, rfl, rfl, by rw [unhide HD], by omega, by omega, by omega, hl1, HU⟩, by simp [intOf]; omega⟩
      · have t2 : ((c : Int) % 2 == 1) = false := by rw [beq_eq_false_iff_ne]; omega
        have HU : Hid (stps (c / 2 * (m + m)) x = stps (8 * n.toNat) v) := by rw [steps_half0 hodd]; exact unhide HT
        generalize stps m (stps m 2147483648) = p2 at HP2 HD
        generalize hpw : stps m 2147483648 = p1 at HP1 HP2
        clear hpw
        go_wp2_with (first | (go_at_call 22; refine (unhide HP2 _).mono ?_; rintro e w' ⟨rfl, rfl⟩))
        exact ⟨⟨c / 2, m + m, x, (c : Int) / 2, rfl, rfl, by rw [unhide HD], by omega, by omega, by omega, hx, HU⟩, by simp [intOf]; omega⟩
    · have h0 : c = 0 := by omega
      clear hc
      go_wp2
      go_ret
      refine ⟨?_, rfl⟩
      rw [← unhide HT, h0, Nat.zero_mul]
      rfl
end Go.Proofs.Ytlcepoomjnpfpaa
