/- The document's order: signs, ranks, real numbers, texts. -/
import Derived.Test.YtigmofbammofbaaKRefE
import Derived.Deep.QuietTactic
namespace Go.Proofs.Ytigmofbammofbaa
open Go.RowKit

def sgn (l m : Bool) : Int := if l then -1 else if m then 1 else 0
set_option maxRecDepth 100000 in
set_option maxHeartbeats 400000 in
theorem sign_any (l m : Bool) (w : World) : Calls Try.prog 47 #[.bool l, .bool m] w fun e w' => e = .returned (.int .i64 (sgn l m)) ∧ w' = w := by
  cases l with
  | true =>
    go_enter Try.func47, Try.ntmps47
    go_wp2
    go_ret
    exact ⟨rfl, rfl⟩
  | false =>
    cases m with
    | true =>
      go_enter Try.func47, Try.ntmps47
      go_wp2
      go_ret
      exact ⟨rfl, rfl⟩
    | false =>
      go_enter Try.func47, Try.ntmps47
      go_wp2
      go_ret
      exact ⟨rfl, rfl⟩
theorem sgn_cmp (x y : Int) : sgn (decide (x < y)) (decide (y < x)) = cmpI x y := by
  unfold sgn cmpI
  by_cases h : x < y
  · simp [h]
  · by_cases h2 : y < x
    · simp [h, h2]
    · simp [h, h2]
theorem cmpI_shift (x y c : Int) : cmpI (x - c) (y - c) = cmpI x y := by
  unfold cmpI
  have h1 : (x - c < y - c) = (x < y) := propext (by omega)
  have h2 : (y - c < x - c) = (y < x) := propext (by omega)
  simp only [h1, h2]
theorem sgn_ne (x y : Int) (h : x ≠ y) : sgn (decide (x < y)) true = cmpI x y := by
  unfold sgn cmpI
  by_cases h1 : x < y
  · simp [h1]
  · have h2 : y < x := by omega
    simp [h1, h2]

set_option maxRecDepth 100000 in
set_option maxHeartbeats 400000 in
theorem rank_any (x : Nat) (hx : x < 18446744073709551616) (w : World) : Calls Try.prog 74 #[.int .u64 (x : Int)] w fun e w' => e = .returned (.int .i64 ((placeR x : Int) - 9223372036854775808)) ∧ w' = w := by
  have HC := hide (rclean_any x hx w)
  have hc := canon_lt hx
  have HP : Hid (placeR x = turnN (canon x)) := rfl
  generalize canon x = c at *
  by_cases h1 : c < 9223372036854775808
  · have HQ : Hid (turnN c = c + 9223372036854775808) := (by unfold Hid turnN top; rw [if_pos h1])
    have t1 : ((c : Int) ≥ 9223372036854775808) = False := by simp; omega
    have t2 : ((9223372036854775808 : Int) ≤ (c : Int)) = False := by simp; omega
    go_enter Try.func74, Try.ntmps74
    go_wp2_with (first | (go_at_call 50; refine (unhide HC).mono ?_; rintro e w1 ⟨rfl, hq⟩; have hq' := hq.symm; subst hq'))
    go_ret
    refine ⟨?_, rfl⟩
    rw [unhide HP, unhide HQ, show (((c + 9223372036854775808 : Nat) : Int) - 9223372036854775808) = (c : Int) by omega]
    first | rfl | (congr 2; go_num) | (congr 2; rw [IntKind.wrap_i64]; omega)
  · have HQ : Hid (turnN c = 18446744073709551615 - c) := (by unfold Hid turnN top; rw [if_neg h1])
    have t1 : ((c : Int) ≥ 9223372036854775808) = True := by simp; omega
    have t2 : ((9223372036854775808 : Int) ≤ (c : Int)) = True := by simp; omega
    go_enter Try.func74, Try.ntmps74
    go_wp2_with (first | (go_at_call 50; refine (unhide HC).mono ?_; rintro e w1 ⟨rfl, hq⟩; have hq' := hq.symm; subst hq'))
    go_ret
    refine ⟨?_, rfl⟩
    rw [unhide HP, unhide HQ, show (((18446744073709551615 - c : Nat) : Int) - 9223372036854775808) = -1 - ((c : Int) - 9223372036854775808) by omega]
    first | rfl | (congr 2; go_num) | (congr 2; rw [IntKind.wrap_i64]; omega)

set_option maxRecDepth 100000 in
set_option maxHeartbeats 400000 in
theorem reals_any (x y : Nat) (hx : x < 18446744073709551616) (hy : y < 18446744073709551616) (w : World) : Calls Try.prog 62 #[.int .u64 (x : Int), .int .u64 (y : Int)] w fun e w' => e = .returned (.int .i64 (cmpI (placeR x) (placeR y))) ∧ w' = w := by
  have HX := hide (rank_any x hx w)
  have HY := hide (rank_any y hy w)
  have hpx := placeR_lt hx
  have hpy := placeR_lt hy
  have HE : Hid (cmpI (placeR x) (placeR y) = cmpI ((placeR x : Int) - 9223372036854775808) ((placeR y : Int) - 9223372036854775808)) := (cmpI_shift _ _ _).symm
  generalize hu : (placeR x : Int) - 9223372036854775808 = u at *
  generalize hv : (placeR y : Int) - 9223372036854775808 = v at *
  have HS := hide (sign_any (decide (u < v)) (decide (v < u)) w)
  rw [sgn_cmp] at HS
  rw [unhide HE]
  clear hu hv hpx hpy
  go_enter Try.func62, Try.ntmps62
  go_wp2_with (first
    | (go_at_call_of 74 (Value.int .u64 (x : Int)); refine (unhide HX).mono ?_; rintro e w1 ⟨rfl, hq⟩; have hq' := hq.symm; subst hq'; clear hq)
    | (go_at_call 74; refine (unhide HY).mono ?_; rintro e w1 ⟨rfl, hq⟩; have hq' := hq.symm; subst hq'; clear hq)
    | (go_at_call 47; refine (unhide HS).mono ?_; rintro e w1 ⟨rfl, hq⟩; have hq' := hq.symm; subst hq'; clear hq))
  go_ret
  exact ⟨rfl, rfl⟩

set_option maxRecDepth 100000 in
set_option maxHeartbeats 1000000 in
theorem texts_any {w : World} {v1 v2 : Value} {p q : List Nat} (h1 : Sees w v1 p) (h2 : Sees w v2 q) :
    Calls Try.prog 63 #[v1, v2] w fun e w' => e = .returned (.int .i64 (cmpL p q)) ∧ Kept [] w w' := by
  obtain ⟨a1, c1, rfl, hm1, hb1, g1⟩ := sees_open h1
  obtain ⟨a2, c2, rfl, hm2, hb2, g2⟩ := sees_open h2
  have HG1 := hide g1
  have HG2 := hide g2
  have HSG := hide sign_any
  clear h1 h2 g1 g2 hb1 hb2
  generalize hP : p.length = LP at *
  generalize hQ : q.length = LQ at *
  have HP := hide hP
  have HQ := hide hQ
  clear hP hQ
  go_enter Try.func63, Try.ntmps63
  go_wp2_with fail
  go_loopw [5] (fun i wr => ∃ k m : Nat, k ≤ LP ∧ k ≤ LQ ∧ i = .int .i64 k ∧ wr = w.drewN m ∧ cmpL p q = cmpL (p.drop k) (q.drop k)) (fun i _ => LP - (intOf i).toNat)
  case atStart => exact ⟨0, 0, by omega, by omega, rfl, rfl, rfl⟩
  case round =>
    obtain ⟨k, m, hk1, hk2, rfl, rfl, hcm⟩ := hrel
    have HCM := hide hcm
    clear hcm
    by_cases hk : k < LP ∧ k < LQ
    · obtain ⟨hkp, hkq⟩ := hk
      obtain ⟨b, off, rfl, hc1⟩ := unhide HG1 k hkp
      obtain ⟨b2, off2, rfl, hc2⟩ := unhide HG2 k hkq
      rw [cmpL_step p q k (by rw [unhide HP]; exact hkp) (by rw [unhide HQ]; exact hkq)] at HCM
      generalize p.getD k 0 = x at *
      generalize q.getD k 0 = y at *
      have t1 : (k : Int) < (LP : Int) := by omega
      have t2 : (k : Int) < (LQ : Int) := by omega
      by_cases hxy : x = y
      · subst hxy
        rw [if_neg (by omega), if_neg (by omega)] at HCM
        go_wp2
        go_region
        go_wp2
        exact ⟨⟨k + 1, m + 1, by omega, by omega, by simp, rfl, unhide HCM⟩, by simp [intOf]; omega⟩
      · have hz : cmpL p q = sgn (decide (x < y)) true := by
          rw [unhide HCM]
          unfold sgn
          by_cases h : x < y
          · have h' : (x : Int) < (y : Int) := by omega
            simp [h]
          · have h' : ¬ (x : Int) < (y : Int) := by omega
            have h2 : y < x := by omega
            simp [h, h2]
        have HZ := hide hz
        have t3 : ((x : Int) = (y : Int)) = False := by simp; omega
        have t4 : ((x : Int) != (y : Int)) = true := by simp; omega
        clear hz
        go_wp2
        go_region
        have HS := hide (fun w => sign_any (decide (x < y)) true w)
        go_wp2_with fail
        go_region_with (first | (go_at_call 47; refine (unhide HS _).mono ?_; rintro e w1 ⟨rfl, rfl⟩))
        all_goals
          go_wp2
          go_ret
          exact ⟨by rw [unhide HZ]; rfl, ((Kept.refl [] w).drewN m).drew.drew⟩
    · by_cases hp : k < LP
      · obtain rfl : k = LQ := by omega
        have t1 : (k : Int) < (LP : Int) := by omega
        have t2 : ((k : Int) < (k : Int)) = False := by simp
        have t3 : ((LP : Int) < (k : Int)) = False := by simp; omega
        have hd : cmpL p q = 1 := by
          rw [unhide HCM, drop_at p k (by rw [unhide HP]; exact hp), (show q.drop k = [] from List.drop_eq_nil_of_le (by rw [unhide HQ]; omega))]; rfl
        have HD := hide hd
        have HS := hide (sign_any false true)
        clear hd hk
        go_wp2_with (first | (go_at_call 47; refine (unhide HS _).mono ?_; rintro e w1 ⟨rfl, rfl⟩))
        go_ret
        exact ⟨by rw [unhide HD]; rfl, (Kept.refl [] w).drewN m⟩
      · obtain rfl : k = LP := by omega
        have t1 : ((k : Int) < (k : Int)) = False := by simp
        by_cases hq : k < LQ
        · have t2 : (k : Int) < (LQ : Int) := by omega
          have t3 : ((LQ : Int) < (k : Int)) = False := by simp; omega
          have hd : cmpL p q = -1 := by
            rw [unhide HCM, drop_at q k (by rw [unhide HQ]; exact hq), (show p.drop k = [] from List.drop_eq_nil_of_le (by rw [unhide HP]; omega))]; rfl
          have HD := hide hd
          have HS := hide (sign_any true false)
          clear hd hk
          go_wp2_with (first | (go_at_call 47; refine (unhide HS _).mono ?_; rintro e w1 ⟨rfl, rfl⟩))
          go_ret
          exact ⟨by rw [unhide HD]; rfl, (Kept.refl [] w).drewN m⟩
        · obtain rfl : k = LQ := by omega
          have hd : cmpL p q = 0 := by
            rw [unhide HCM, (show p.drop k = [] from List.drop_eq_nil_of_le (by rw [unhide HP]; omega)), (show q.drop k = [] from List.drop_eq_nil_of_le (by rw [unhide HQ]; omega))]; rfl
          have HD := hide hd
          have HS := hide (sign_any false false)
          clear hd hk
          go_wp2_with (first | (go_at_call 47; refine (unhide HS _).mono ?_; rintro e w1 ⟨rfl, rfl⟩))
          go_ret
          exact ⟨by rw [unhide HD]; rfl, (Kept.refl [] w).drewN m⟩
end Go.Proofs.Ytigmofbammofbaa
