/- The document's jump. -/
import Derived.Test.YtiafnfjgmfnnoaaJRef
namespace Go.Proofs.Ytiafnfjgmfnnoaa
open Go.RowKit

theorem high_is (n m : Nat) : n * (m / 4294967296) + n * (m % 4294967296) / 4294967296 = n * m / 2 ^ 0 / 4294967296 := by
  have e : n * m = 4294967296 * (n * (m / 4294967296)) + n * (m % 4294967296) := by
    conv => lhs; rw [← Nat.div_add_mod m 4294967296]
    rw [Nat.mul_add, Nat.mul_left_comm]
  rw [Nat.pow_zero, Nat.div_one, e, Nat.mul_add_div (by omega)]
theorem low_is (n m : Nat) : n * (m % 4294967296) % 4294967296 = n * m / 2 ^ 0 % 4294967296 := by
  rw [Nat.pow_zero, Nat.div_one, Nat.mul_mod n m, Nat.mul_mod n (m % 4294967296), Nat.mod_mod]
theorem low_next (Y : Nat) : Y % 4294967296 / 2 + Y / 4294967296 % 2 * 2147483648 = Y / 2 % 4294967296 := by omega
theorem high_next (Y : Nat) : Y / 4294967296 / 2 = Y / 2 / 4294967296 := by omega
theorem half_next (X k : Nat) : X / 2 ^ k % 4294967296 % 2 = halfN X (k + 1) := by simp only [halfN]; omega

set_option maxRecDepth 100000 in
set_option maxHeartbeats 400000 in
theorem rleap_any (w : World) (n m p : Nat) (h1 : 1 ≤ n) (h2 : n ≤ 1048576) (m1 : 4503599627370496 ≤ m) (m2 : m < 9007199254740992) (p1 : 21 ≤ p) (p2 : p ≤ 52) :
    Calls Try.prog 33 #[.int .u64 n, .int .u64 m, .int .i64 p] w fun e w' => e = .returned (.int .i64 (rhd (n * m) (2 ^ ct n m) / 2 ^ (p - ct n m) : Nat)) ∧ w' = w := by
  obtain ⟨c1, c2, c3, c4⟩ := ct_bounds h1 h2 m1 m2
  have HC : Hid (∀ k, 2097152 ≤ n * m / 2 ^ k / 4294967296 ↔ k < ct n m) := fun k => cut_ge h1 h2 m1 m2
  have HB : Hid (∀ k, n * m / 2 ^ k < 9444732965739290427392) := fun k => cut_lt h2 m2
  have HR := hide (round_is (n * m) (ct n m))
  have HX1 := hide (high_is n m)
  have HX2 := hide (low_is n m)
  have hlo : n * (m % 4294967296) < 4503599627370496 := by
    have : n * (m % 4294967296) ≤ 1048576 * (m % 4294967296) := Nat.mul_le_mul_right _ h2
    omega
  have hhi : n * (m / 4294967296) < 2199023255552 := by
    have : n * (m / 4294967296) ≤ 1048576 * (m / 4294967296) := Nat.mul_le_mul_right _ h2
    omega
  have C3 := hide c3
  have C4 := hide c4
  clear c1 c3 c4
  generalize ct n m = c at *
  generalize n * m = X at *
  generalize hRR : rhd X (2 ^ c) / 2 ^ (p - c) = R
  have HRR := hide hRR
  clear hRR
  have e1 : (n : Int) * ((m : Int) % 4294967296) = ((n * (m % 4294967296) : Nat) : Int) := by simp
  have e2 : (n : Int) * ((m : Int) / 4294967296) = ((n * (m / 4294967296) : Nat) : Int) := by simp
  generalize n * (m % 4294967296) = lo at *
  generalize n * (m / 4294967296) = hi at *
  go_enter Try.func33, Try.ntmps33
  go_wp2_with (simp only [e1, e2])
  clear e1 e2
  go_loop [7, 8, 9, 10, 11] (fun lo hi k ha be => ∃ j : Nat, j ≤ c ∧ k = .int .i64 j ∧ lo = .int .u64 (X / 2 ^ j % 4294967296 : Nat) ∧ hi = .int .u64 (X / 2 ^ j / 4294967296 : Nat) ∧ ha = .int .u64 (halfN X j : Nat) ∧ be = .int .u64 (belowN X j : Nat)) (fun _ _ k _ _ => c - (intOf k).toNat)
  case atStart =>
    refine ⟨0, by omega, rfl, ?_, ?_, rfl, rfl⟩
    · exact congrArg (Value.int .u64) (by rw [← unhide HX2]; omega)
    · exact congrArg (Value.int .u64) (by rw [← unhide HX1]; omega)
  case round =>
    obtain ⟨j, hj, rfl, rfl, rfl, rfl, rfl⟩ := hrel
    by_cases hjc : j < c
    · have ht := (unhide HC j).2 hjc
      have hY := unhide HB j
      have l1 := halfN_le X j
      have l2 := belowN_le X j
      have eo := u64_or_nat (belowN X j) (halfN X j) (by omega) (by omega)
      rw [← below_next] at eo
      have HN := hide (half_next X j)
      have HL := hide (low_next (X / 2 ^ j))
      have HH := hide (high_next (X / 2 ^ j))
      have HE := hide (cut_next X j)
      generalize hbn : belowN X (j + 1) = b2 at eo
      have HBN := hide hbn
      clear hbn
      generalize belowN X j = be at *
      generalize halfN X j = ha at *
      generalize X / 2 ^ j = Y at *
      have hti : (2097152 : Int) ≤ (Y : Int) / 4294967296 := by omega
      go_wp2
      refine ⟨⟨j + 1, by omega, by simp, ?_, ?_, ?_, ?_⟩, ?_⟩
      · exact congrArg (Value.int .u64) (by rw [unhide HE, ← unhide HL]; omega)
      · exact congrArg (Value.int .u64) (by rw [unhide HE, ← unhide HH]; omega)
      · exact congrArg (Value.int .u64) (by rw [← unhide HN]; omega)
      · rw [unhide HBN]
      · show c - ((j : Int) + 1).toNat < c - (j : Int).toNat
        omega
    · obtain rfl : j = c := by omega
      have ht : ¬ (2097152 ≤ X / 2 ^ j / 4294967296) := fun g => hjc ((unhide HC j).1 g)
      have l1 := halfN_le X j
      have l2 := belowN_le X j
      have HR2 := hide (unhide HR)
      have C42 := hide (unhide C4)
      clear HR C3 C4 HC HB
      generalize rhd X (2 ^ j) = V at *
      generalize belowN X j = be at *
      generalize halfN X j = ha at *
      generalize X / 2 ^ j = Y at *
      have hti : ¬ ((2097152 : Int) ≤ (Y : Int) / 4294967296) := by omega
      have e5 : (Y : Int) / 4294967296 * 4294967296 + (Y : Int) % 4294967296 = (Y : Int) := by omega
      have hVl : V ≤ 9007199254740992 := unhide C42
      have tc : ¬ ((j : Int) > (p : Int)) := by omega
      have hcases : (ha = 1 ∧ be = 1 ∧ V = Y + 1) ∨ (ha = 1 ∧ be = 0 ∧ Y % 2 = 1 ∧ V = Y + 1) ∨ (ha = 1 ∧ be = 0 ∧ Y % 2 = 0 ∧ V = Y) ∨ (ha = 0 ∧ V = Y) := by
        have := unhide HR2
        by_cases g : ha = 1 ∧ (be = 1 ∨ Y % 2 = 1)
        · rw [if_pos g] at this; omega
        · rw [if_neg g] at this; omega
      clear HR2 C42
      rcases hcases with ⟨rfl, rfl, hV⟩ | ⟨rfl, rfl, g3, hV⟩ | ⟨rfl, rfl, g3, hV⟩ | ⟨rfl, hV⟩
      · have e6 : (Y : Int) + 1 = (V : Int) := by omega
        clear hV
        go_wp2_with fail
        go_loop [9, 12] (fun k v => k = .int .i64 j ∧ v = .int .u64 (V : Nat)) (fun _ _ => 0)
        case atStart => exact ⟨rfl, rfl⟩
        case round =>
          obtain ⟨rfl, rfl⟩ := hrel
          clear e5 ht hti
          go_wp2_with fail
          go_loop [2, 12] (fun q v => ∃ i : Nat, i ≤ p - j ∧ q = .int .i64 ((p - i : Nat) : Int) ∧ v = .int .u64 (V / 2 ^ i : Nat)) (fun q _ => (intOf q).toNat)
          case atStart => exact ⟨0, by omega, rfl, by simp⟩
          case round =>
            obtain ⟨i, hi, rfl, rfl⟩ := hrel
            have HE := hide (cut_next V i)
            have hVi : V / 2 ^ i ≤ V := Nat.div_le_self _ _
            by_cases hip : i < p - j
            · generalize V / 2 ^ i = U at *
              obtain ⟨q, hq⟩ : ∃ q, p - i = q + 1 := ⟨p - i - 1, by omega⟩
              rw [hq]
              have t1 : (((q + 1 : Nat) : Int) > (j : Int)) := by omega
              go_wp2
              refine ⟨⟨i + 1, by omega, ?_, ?_⟩, ?_⟩
              · exact congrArg (Value.int .i64) (by omega)
              · exact congrArg (Value.int .u64) (by rw [unhide HE]; omega)
              · show (q : Int).toNat < ((q + 1 : Nat) : Int).toNat
                omega
            · have hie : i = p - j := by omega
              have hW : V / 2 ^ i = R := by rw [← unhide HRR, hie]
              clear HRR
              generalize V / 2 ^ i = U at *
              subst hW
              have t1 : ¬ (((p - i : Nat) : Int) > (j : Int)) := by omega
              go_wp2
              go_ret
              exact ⟨rfl, rfl⟩
      · have e6 : (Y : Int) + 1 = (V : Int) := by omega
        have g4 : (Y : Int) % 2 = 1 := by omega
        clear hV
        go_wp2_with fail
        go_loop [9, 12] (fun k v => k = .int .i64 j ∧ v = .int .u64 (V : Nat)) (fun _ _ => 0)
        case atStart => exact ⟨rfl, rfl⟩
        case round =>
          obtain ⟨rfl, rfl⟩ := hrel
          clear e5 ht hti
          go_wp2_with fail
          go_loop [2, 12] (fun q v => ∃ i : Nat, i ≤ p - j ∧ q = .int .i64 ((p - i : Nat) : Int) ∧ v = .int .u64 (V / 2 ^ i : Nat)) (fun q _ => (intOf q).toNat)
          case atStart => exact ⟨0, by omega, rfl, by simp⟩
          case round =>
            obtain ⟨i, hi, rfl, rfl⟩ := hrel
            have HE := hide (cut_next V i)
            have hVi : V / 2 ^ i ≤ V := Nat.div_le_self _ _
            by_cases hip : i < p - j
            · generalize V / 2 ^ i = U at *
              obtain ⟨q, hq⟩ : ∃ q, p - i = q + 1 := ⟨p - i - 1, by omega⟩
              rw [hq]
              have t1 : (((q + 1 : Nat) : Int) > (j : Int)) := by omega
              go_wp2
              refine ⟨⟨i + 1, by omega, ?_, ?_⟩, ?_⟩
              · exact congrArg (Value.int .i64) (by omega)
              · exact congrArg (Value.int .u64) (by rw [unhide HE]; omega)
              · show (q : Int).toNat < ((q + 1 : Nat) : Int).toNat
                omega
            · have hie : i = p - j := by omega
              have hW : V / 2 ^ i = R := by rw [← unhide HRR, hie]
              clear HRR
              generalize V / 2 ^ i = U at *
              subst hW
              have t1 : ¬ (((p - i : Nat) : Int) > (j : Int)) := by omega
              go_wp2
              go_ret
              exact ⟨rfl, rfl⟩
      · subst hV
        have g4 : ¬ ((V : Int) % 2 = 1) := by omega
        go_wp2_with fail
        go_loop [9, 12] (fun k v => k = .int .i64 j ∧ v = .int .u64 (V : Nat)) (fun _ _ => 0)
        case atStart => exact ⟨rfl, rfl⟩
        case round =>
          obtain ⟨rfl, rfl⟩ := hrel
          clear e5 ht hti
          go_wp2_with fail
          go_loop [2, 12] (fun q v => ∃ i : Nat, i ≤ p - j ∧ q = .int .i64 ((p - i : Nat) : Int) ∧ v = .int .u64 (V / 2 ^ i : Nat)) (fun q _ => (intOf q).toNat)
          case atStart => exact ⟨0, by omega, rfl, by simp⟩
          case round =>
            obtain ⟨i, hi, rfl, rfl⟩ := hrel
            have HE := hide (cut_next V i)
            have hVi : V / 2 ^ i ≤ V := Nat.div_le_self _ _
            by_cases hip : i < p - j
            · generalize V / 2 ^ i = U at *
              obtain ⟨q, hq⟩ : ∃ q, p - i = q + 1 := ⟨p - i - 1, by omega⟩
              rw [hq]
              have t1 : (((q + 1 : Nat) : Int) > (j : Int)) := by omega
              go_wp2
              refine ⟨⟨i + 1, by omega, ?_, ?_⟩, ?_⟩
              · exact congrArg (Value.int .i64) (by omega)
              · exact congrArg (Value.int .u64) (by rw [unhide HE]; omega)
              · show (q : Int).toNat < ((q + 1 : Nat) : Int).toNat
                omega
            · have hie : i = p - j := by omega
              have hW : V / 2 ^ i = R := by rw [← unhide HRR, hie]
              clear HRR
              generalize V / 2 ^ i = U at *
              subst hW
              have t1 : ¬ (((p - i : Nat) : Int) > (j : Int)) := by omega
              go_wp2
              go_ret
              exact ⟨rfl, rfl⟩
      · subst hV
        go_wp2_with fail
        go_loop [9, 12] (fun k v => k = .int .i64 j ∧ v = .int .u64 (V : Nat)) (fun _ _ => 0)
        case atStart => exact ⟨rfl, rfl⟩
        case round =>
          obtain ⟨rfl, rfl⟩ := hrel
          clear e5 ht hti
          go_wp2_with fail
          go_loop [2, 12] (fun q v => ∃ i : Nat, i ≤ p - j ∧ q = .int .i64 ((p - i : Nat) : Int) ∧ v = .int .u64 (V / 2 ^ i : Nat)) (fun q _ => (intOf q).toNat)
          case atStart => exact ⟨0, by omega, rfl, by simp⟩
          case round =>
            obtain ⟨i, hi, rfl, rfl⟩ := hrel
            have HE := hide (cut_next V i)
            have hVi : V / 2 ^ i ≤ V := Nat.div_le_self _ _
            by_cases hip : i < p - j
            · generalize V / 2 ^ i = U at *
              obtain ⟨q, hq⟩ : ∃ q, p - i = q + 1 := ⟨p - i - 1, by omega⟩
              rw [hq]
              have t1 : (((q + 1 : Nat) : Int) > (j : Int)) := by omega
              go_wp2
              refine ⟨⟨i + 1, by omega, ?_, ?_⟩, ?_⟩
              · exact congrArg (Value.int .i64) (by omega)
              · exact congrArg (Value.int .u64) (by rw [unhide HE]; omega)
              · show (q : Int).toNat < ((q + 1 : Nat) : Int).toNat
                omega
            · have hie : i = p - j := by omega
              have hW : V / 2 ^ i = R := by rw [← unhide HRR, hie]
              clear HRR
              generalize V / 2 ^ i = U at *
              subst hW
              have t1 : ¬ (((p - i : Nat) : Int) > (j : Int)) := by omega
              go_wp2
              go_ret
              exact ⟨rfl, rfl⟩
end Go.Proofs.Ytiafnfjgmfnnoaa
