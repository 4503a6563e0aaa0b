/- JumpLittle, walked. -/
import Derived.Test.YtiafnfjgmfnnoaaJLit
import Derived.Deep.DeepCutAuto
namespace Go.Proofs.Ytiafnfjgmfnnoaa
open Go.RowKit

set_option maxRecDepth 100000 in
set_option maxHeartbeats 1000000 in
/-- no such number of buckets -/
theorem little_none (w : World) (h : Nat) (n m : Int) (hh : h < 18446744073709551616) (hn : n < 1 ∨ n > 1048575) :
    Calls Try.prog 6 #[.int .u64 h, .int .i64 n, .int .i64 m] w fun e w' => e = .returned (.bool true) ∧ Kept [] w w' := by
  have HKN := hide (known_any w)
  by_cases he : n = 1048576
  · subst he
    go_enter Try.func6, Try.ntmps6
    go_wp2_with (first | (go_at_call 28; refine (unhide HKN).mono ?_; rintro e w1 ⟨rfl, hk1⟩; have HK := hide hk1; clear hk1))
    go_ret
    exact ⟨rfl, unhide HK⟩
  · have hb := (buckets_not (n := n) (by omega)).2
    have HJ : Hid (∀ w, Calls Try.prog 9 #[.int .u64 h, .int .i64 n] w fun e w' => e = .returned (.int .i64 (-1)) ∧ w' = w) := fun w => by
      have := jump_any w h n hh
      rw [hb, wayOf_none] at this
      exact this
    have HW : Hid (∀ w, Calls Try.prog 12 #[.int .u64 h, .int .i64 n] w fun e w' => ∃ a cap, e = .returned (.slice a 0 cap) ∧ Kept [] w w') := fun w => by
      have := way_any w h n hh
      rw [hb, wayOf_none] at this
      refine this.mono ?_
      rintro e w' ⟨v, rfl, ho, hk⟩
      obtain ⟨a, cap, rfl⟩ := own_len ho
      exact ⟨a, cap, rfl, hk⟩
    clear hb
    have he2 : (n == 1048576) = false := by simpa using he
    by_cases h1 : n < 1
    · go_enter Try.func6, Try.ntmps6
      go_wp2_with (first
        | (go_at_call 28; refine (unhide HKN).mono ?_; rintro e w1 ⟨rfl, hk1⟩; have HK := hide hk1; clear hk1)
        | (go_at_call 9; refine (unhide HJ _).mono ?_; rintro e w2 ⟨rfl, hq⟩; have hq' := hq.symm; subst hq')
        | (go_at_call 12; refine (unhide HW _).mono ?_; rintro e w2 ⟨a, cap, rfl, hk2⟩; have HK2 := hide hk2; clear hk2))
      go_ret
      exact ⟨rfl, (unhide HK).trans (unhide HK2) (by simp)⟩
    · have h2 : n > 1048575 := by omega
      go_enter Try.func6, Try.ntmps6
      go_wp2_with (first
        | (go_at_call 28; refine (unhide HKN).mono ?_; rintro e w1 ⟨rfl, hk1⟩; have HK := hide hk1; clear hk1)
        | (go_at_call 9; refine (unhide HJ _).mono ?_; rintro e w2 ⟨rfl, hq⟩; have hq' := hq.symm; subst hq')
        | (go_at_call 12; refine (unhide HW _).mono ?_; rintro e w2 ⟨a, cap, rfl, hk2⟩; have HK2 := hide hk2; clear hk2))
      go_ret
      exact ⟨rfl, (unhide HK).trans (unhide HK2) (by simp)⟩

set_option maxRecDepth 100000 in
set_option maxHeartbeats 4000000 in
/-- some number of buckets -/
theorem little_some (w : World) (h N : Nat) (m : Int) (hh : h < 18446744073709551616) (hm : -9223372036854775808 ≤ m ∧ m ≤ 9223372036854775807) (h1 : 1 ≤ N) (h2 : N ≤ 1048575) :
    Calls Try.prog 6 #[.int .u64 h, .int .i64 (N : Int), .int .i64 m] w fun e w' => e = .returned (.bool true) ∧ Kept [] w w' := by
  have HKN := hide (known_any w)
  obtain ⟨M, hMN, hML, hmore⟩ : ∃ M : Nat, N ≤ M ∧ M ≤ 1048576 ∧ ((0 < m ∧ m ≤ 1048576 - (N : Int) ∧ (N : Int) + m = (M : Int)) ∨ (0 < m ∧ ¬ m ≤ 1048576 - (N : Int) ∧ M = N) ∨ (¬ 0 < m ∧ M = N)) := by
    by_cases c1 : 0 < m
    · by_cases c2 : m ≤ 1048576 - (N : Int)
      · exact ⟨((N : Int) + m).toNat, by omega, by omega, Or.inl ⟨c1, c2, by omega⟩⟩
      · exact ⟨N, by omega, by omega, Or.inr (Or.inl ⟨c1, c2, rfl⟩)⟩
    · exact ⟨N, by omega, by omega, Or.inr (Or.inr ⟨c1, rfl⟩)⟩
  have hbN : buckets (N : Int) = N := by rw [buckets_of (by omega)]; omega
  have hbM : buckets (M : Int) = M := by rw [buckets_of (by omega)]; omega
  have hbN1 : buckets ((N : Int) + 1) = N + 1 := by rw [buckets_of (by omega)]; omega
  have HJ1 : Hid (∀ w, Calls Try.prog 9 #[.int .u64 h, .int .i64 (N : Int)] w fun e w' => e = .returned (.int .i64 (lastI (wayOf h N))) ∧ w' = w) := fun w => by
    have := jump_any w h N hh
    rwa [hbN] at this
  have HJ2 : Hid (∀ w, Calls Try.prog 9 #[.int .u64 h, .int .i64 ((N : Int) + 1)] w fun e w' => e = .returned (.int .i64 (lastI (wayOf h (N + 1)))) ∧ w' = w) := fun w => by
    have := jump_any w h ((N : Int) + 1) hh
    rwa [hbN1] at this
  have HJ3 : Hid (∀ w, Calls Try.prog 9 #[.int .u64 h, .int .i64 1] w fun e w' => e = .returned (.int .i64 0) ∧ w' = w) := fun w => by
    have := jump_any w h 1 hh
    have h3 := last_in (h := h) (n := 1) (by omega) (by omega)
    have h4 : lastI (wayOf h (buckets 1)) = 0 := by rw [show buckets 1 = 1 from rfl]; omega
    rwa [h4] at this
  have HW1 : Hid (∀ w, Calls Try.prog 12 #[.int .u64 h, .int .i64 (N : Int)] w fun e w' => ∃ a cap, e = .returned (.slice a (wayOf h N).length cap) ∧ SeesI w' (.slice a (wayOf h N).length cap) (zn (wayOf h N)) ∧ Kept [] w w') := fun w => by
    have := way_any w h N hh
    rw [hbN] at this
    refine this.mono ?_
    rintro e w' ⟨v, rfl, ho, hk⟩
    have hs := SeesI.of_own ho
    obtain ⟨a, cap, rfl⟩ := own_len ho
    rw [zn_length] at hs ⊢
    exact ⟨a, cap, rfl, hs, hk⟩
  have HW2 : Hid (∀ (w : World) (X : Int), X = (M : Int) → Calls Try.prog 12 #[.int .u64 h, .int .i64 X] w fun e w' => ∃ a cap, e = .returned (.slice a (wayOf h M).length cap) ∧ SeesI w' (.slice a (wayOf h M).length cap) (zn (wayOf h M)) ∧ Kept [] w w') := fun w X hX => by
    rw [hX]
    have := way_any w h M hh
    rw [hbM] at this
    refine this.mono ?_
    rintro e w' ⟨v, rfl, ho, hk⟩
    have hs := SeesI.of_own ho
    obtain ⟨a, cap, rfl⟩ := own_len ho
    rw [zn_length] at hs ⊢
    exact ⟨a, cap, rfl, hs, hk⟩
  obtain ⟨T, hT1, hT2⟩ := wayOf_more (h := h) hML hMN
  have hri := wayOf_rises (h := h) hML
  have hlt : ∀ y ∈ wayOf h M, y < M := fun y hy => wayOf_lt hML hy
  obtain ⟨l0, hl0⟩ := wayOf_head (h := h) (N := N) (by omega) h1
  obtain ⟨ha0, haN⟩ := last_in (h := h) (n := N) (by omega) h1
  have hb := one_more (h := h) (n := N) (by omega)
  have hlast := lastI_getD (wayOf h N) (by rw [hl0]; simp)
  clear hbN hbM hbN1
  generalize lastI (wayOf h (N + 1)) = b at *
  generalize lastI (wayOf h N) = a at *
  generalize wayOf h M = B at *
  generalize wayOf h N = A at *
  have hA0 : 0 < A.length := by rw [hl0]; simp
  have hBA : A.length ≤ B.length := by rw [hT1]; simp
  have hAg0 : (zn A).getD 0 0 = 0 := by rw [hl0]; rfl
  have HF : Hid (∀ i, 1 ≤ i → i < B.length → (zn B).getD (i - 1) 0 < (zn B).getD i 0 ∧ (zn B).getD i 0 < (M : Int) ∧ (A.length ≤ i → (N : Int) ≤ (zn B).getD i 0)) := by
    intro i hi1 hi2
    rw [zn_getD, zn_getD]
    have q1 := getD_rises hri (show i - 1 < i by omega) hi2
    have q2 := hlt _ (getD_mem hi2)
    refine ⟨by omega, by omega, fun hAi => ?_⟩
    have q3 : B.getD i 0 = T.getD (i - A.length) 0 := by
      rw [hT1, List.getD, List.getD, List.getElem?_append_right hAi]
    have hTl : i - A.length < T.length := by rw [hT1, List.length_append] at hi2; omega
    have q4 := hT2 _ (getD_mem hTl)
    rw [q3]; omega
  have HT1 := hide hT1
  clear hT1 hT2 hri hlt hl0
  generalize hLA : A.length = LA at *
  generalize hLB : B.length = LB at *
  have HLA := hide hLA
  have HLB := hide hLB
  have HLST := hide hlast
  have HAG := hide hAg0
  clear hLA hLB hlast hAg0
  have t1 : ((N : Int) < 1) = False := by simp; omega
  have t2 : ((N : Int) > 1048575) = False := by simp; omega
  have t3 : (a < 0) = False := by simp; omega
  have t4 : (a ≥ (N : Int)) = False := by simp; omega
  have hb1 : b = a ∨ (¬ b = a ∧ b = (N : Int)) := by omega
  have HBB := hide hb1
  have HMO := hide hmore
  clear hb hb1 hmore
  go_enter Try.func6, Try.ntmps6
  go_wp2_with fail
  refine (unhide HKN).mono ?_
  rintro e w1 ⟨rfl, hk1⟩
  have HK := hide hk1
  clear hk1
  go_wp2_with fail
  refine (unhide HJ1 _).mono ?_
  rintro e w2 ⟨rfl, hq⟩
  have hq' := hq.symm
  subst hq'
  go_wp2_with fail
  refine (unhide HJ2 _).mono ?_
  rintro e w2 ⟨rfl, hq⟩
  have hq' := hq.symm
  subst hq'
  go_upto_region 6 with fail
  go_cut [64] (fun t wc => t = .bool false ∧ Hid (wc = w1))
  case first =>
    rcases unhide HBB with hb | ⟨hb1, hb2⟩
    · subst hb
      go_wp2_with (first | (go_at_call 9; refine (unhide HJ3 _).mono ?_; rintro e w2 ⟨rfl, hq⟩; have hq' := hq.symm; subst hq'))
      go_meet
      case rel => exact ⟨rfl, rfl⟩
    · subst hb2
      go_wp2_with (first | (go_at_call 9; refine (unhide HJ3 _).mono ?_; rintro e w2 ⟨rfl, hq⟩; have hq' := hq.symm; subst hq'))
      go_meet
      case rel => exact ⟨rfl, rfl⟩
  case rest =>
    obtain ⟨rfl, hwc⟩ := hcut
    have hwc' := (unhide hwc).symm
    subst hwc'
    go_upto_region 9 with fail
    go_cut [73] (fun t wc => t = .bool (decide (0 < m ∧ m ≤ 1048576 - (N : Int))) ∧ Hid (wc = w1))
    case first =>
      by_cases c1 : m > 0
      · by_cases c2 : m ≤ 1048576 - (N : Int)
        · have hd : decide (0 < m ∧ m ≤ 1048576 - (N : Int)) = true := by simp; omega
          go_wp2_with fail
          go_meet
          case rel => exact ⟨by rw [hd], rfl⟩
        · have hd : decide (0 < m ∧ m ≤ 1048576 - (N : Int)) = false := by simp; omega
          go_wp2_with fail
          go_meet
          case rel => exact ⟨by rw [hd], rfl⟩
      · have hd : decide (0 < m ∧ m ≤ 1048576 - (N : Int)) = false := by simp; omega
        go_wp2_with fail
        go_meet
        case rel => exact ⟨by rw [hd], rfl⟩
    case rest =>
      obtain ⟨rfl, hwc2⟩ := hcut
      have hwc' := (unhide hwc2).symm
      subst hwc'
      go_upto_if 73 with fail
      go_cut [9] (fun t wc => t = .int .i64 (M : Int) ∧ Hid (wc = w1))
      case first =>
        rcases unhide HMO with ⟨c1, c2, c3⟩ | ⟨c1, c2, c3⟩ | ⟨c1, c3⟩
        · rw [decide_eq_true (⟨c1, c2⟩ : 0 < m ∧ m ≤ 1048576 - (N : Int))]
          have c4 : IntKind.i64.wrap ((N : Int) + m) = (M : Int) := by rw [c3, IntKind.wrap_i64]; omega
          go_wp2_with fail
          go_meet
          case rel => exact ⟨rfl, rfl⟩
        · rw [decide_eq_false (fun h : 0 < m ∧ m ≤ 1048576 - (N : Int) => by omega)]
          go_wp2_with fail
          go_meet
          case rel => exact ⟨by rw [c3], rfl⟩
        · rw [decide_eq_false (fun h : 0 < m ∧ m ≤ 1048576 - (N : Int) => by omega)]
          go_wp2_with fail
          go_meet
          case rel => exact ⟨by rw [c3], rfl⟩
      case rest =>
        obtain ⟨rfl, hwc3⟩ := hcut
        have hwc' := (unhide hwc3).symm
        subst hwc'
        go_wp2_with fail
        refine (unhide HW1 _).mono ?_
        rintro e w2 ⟨a1, p1, rfl, hs1, hk2⟩
        have HK2 : Hid (Kept [] w w2) := (unhide HK).trans hk2 (by simp)
        have HS1 := hide hs1
        clear hs1 hk2
        go_wp2_with fail
        refine (unhide HW2 _ _ rfl).mono ?_
        rintro e w3 ⟨a2, p2, rfl, hs2, hk3⟩
        have HK3 : Hid (Kept [] w w3) := (unhide HK2).trans hk3 (by simp)
        have HS2 := hide hs2
        have HS1b : Hid (SeesI w3 (.slice a1 LA p1) (zn A)) := (unhide HS1).kept hk3 (Or.inr (by simp))
        clear hs2 hk3
        have HBG : Hid (SeesI w3 (.slice a2 LA p2) (zn A)) := by
          have := unhide HS2
          rw [unhide HT1, zn_append] at this
          exact this.begin (by rw [zn_length]; exact unhide HLA)
        have HSM := hide (same_any (unhide HS1b) (unhide HBG))
        obtain ⟨a1', p1', hv1, hc1, hc2, h4⟩ := unhide HS1b
        have e1 : a1' = a1 := by cases hv1; rfl
        have e2 : p1' = p1 := by cases hv1; rfl
        obtain ⟨a2', p2', hv2, hd1, hd2, g4⟩ := unhide HS2
        have e3 : a2' = a2 := by cases hv2; rfl
        have e4 : p2' = p2 := by cases hv2; rfl
        rw [zn_length, unhide HLB] at hd1
        rw [zn_length, unhide HLA] at hc1
        subst e1 e2 e3 e4
        clear hv1 hv2
        have G4 := hide g4
        obtain ⟨b1, off1, hb1, hce0⟩ := at_int (k := 0) (show (zn A).length = LA by rw [zn_length]; exact unhide HLA) h4 (by omega)
        subst hb1
        obtain ⟨b1', off1', hb1', hce1⟩ := at_int (k := LA - 1) (show (zn A).length = LA by rw [zn_length]; exact unhide HLA) h4 (by omega)
        cases hb1'
        rw [unhide HAG] at hce0
        rw [← unhide HLST] at hce1
        have hml : LB ≤ 9223372036854775807 := by unfold maxLen at hd2; omega
        clear h4 g4 hc2 hd2
        obtain ⟨q, hq⟩ : ∃ q, LA = q + 1 := ⟨LA - 1, by omega⟩
        have eq1 : LA - 1 = q := by omega
        rw [eq1] at hce1
        rw [Nat.add_zero] at hce0
        subst hq
        clear eq1
        have t5 : ((q : Int) + 1 = 0) = False := by simp; omega
        have t5b : ((q : Int) + 1 == 0) = false := by simp; omega
        have t6 : ((q : Int) + 1 ≤ (LB : Int)) = True := by simp; omega
        have t7 : ((q : Int) + 1 ≤ (p2' : Int)) = True := by simp; omega
        have t7b : ((0 : Int) ≤ (q : Int) + 1) = True := by simp; omega
        have e0 : ((q : Int) + 1).toNat = q + 1 := by omega
        have t8 : q + 1 ≤ p2' := by omega
        go_wp2_with (first
          | (go_at_call 11; refine (unhide HSM).mono ?_; rintro e w4 ⟨rfl, m4, hq4⟩; subst hq4))
        go_loopw [12] (fun i wr => ∃ k : Nat, 1 ≤ k ∧ k ≤ LB ∧ i = .int .i64 k ∧ ∃ m, wr = w3.drewN m) (fun i _ => LB - (intOf i).toNat)
        case atStart => exact ⟨1, by omega, by omega, rfl, m4, rfl⟩
        case round =>
          obtain ⟨k, hk1, hk, rfl, m5, hq5⟩ := hrel
          subst hq5
          by_cases hkl : k < LB
          · obtain ⟨f1, f2, f3⟩ := unhide HF k hk1 hkl
            have hBl : (zn B).length = LB := by rw [zn_length]; exact unhide HLB
            obtain ⟨b2, off2, hb2, cc1⟩ := at_int (k := k) hBl (unhide G4) hkl
            subst hb2
            obtain ⟨b3, off3, hb3, cc2⟩ := at_int (k := k - 1) hBl (unhide G4) (by omega)
            cases hb3
            generalize (zn B).getD k 0 = y at *
            generalize (zn B).getD (k - 1) 0 = z at *
            obtain ⟨j, hj⟩ : ∃ j, k = j + 1 := ⟨k - 1, by omega⟩
            have ej : k - 1 = j := by omega
            rw [ej] at cc2
            subst hj
            clear ej hBl
            have u1 : (y ≤ z) = False := by simp; omega
            have u2 : ((M : Int) ≤ y) = False := by simp; omega
            have u3 : ((j : Int) + 1 < (LB : Int)) = True := by simp; omega
            have u4 : ((j : Int) < (LB : Int)) = True := by simp; omega
            have u5 : ((j : Int) + 1).toNat = j + 1 := by omega
            have u6 : ((0 : Int) ≤ (j : Int) + 1) = True := by simp; omega
            have HK3' := HK3
            clear hBA t5 t5b t6 t7 t7b t8 e0
            by_cases hqj : q ≤ j
            · have v1 : ((q : Int) + 1 ≤ (j : Int) + 1) = True := by simp; omega
              have v2 : ((q : Int) ≤ (j : Int)) = True := by simp; omega
              have v3 : (y < (N : Int)) = False := by have := f3 (by omega); simp; omega
              clear f1 f2 f3
              go_wp2
              go_quiet (fail)
              go_wp2
              go_roundw
              case rel => exact ⟨j + 1 + 1, by omega, by omega, by simp, _, rfl⟩
              case measure => simp [intOf]; omega
            · have v1 : ((q : Int) + 1 ≤ (j : Int) + 1) = False := by simp; omega
              have v2 : ((q : Int) ≤ (j : Int)) = False := by simp; omega
              clear f1 f2 f3
              go_wp2
              go_quiet (fail)
              go_wp2
              go_roundw
              case rel => exact ⟨j + 1 + 1, by omega, by omega, by simp, _, rfl⟩
              case measure => simp [intOf]; omega
          · obtain rfl : k = LB := by omega
            go_wp2
            go_ret
            exact ⟨rfl, (unhide HK3).drewN _⟩
end Go.Proofs.Ytiafnfjgmfnnoaa
