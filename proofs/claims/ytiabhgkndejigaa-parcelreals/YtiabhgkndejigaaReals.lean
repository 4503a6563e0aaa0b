/- The law ParcelReals, walked. -/
import Derived.Test.YtiabhgkndejigaaRrealB
namespace Go.Proofs.Ytiabhgkndejigaa
open Go.RowKit

theorem be8_get (n k : Nat) (hk : k < 8) (hn : n < 18446744073709551616) : (be8 n).getD k 0 = n / 2 ^ (56 - 8 * k) % 256 := by
  match k, hk with
  | 0, _ => show n / 72057594037927936 = n / 2 ^ 56 % 256; omega
  | 1, _ => rfl
  | 2, _ => rfl
  | 3, _ => rfl
  | 4, _ => rfl
  | 5, _ => rfl
  | 6, _ => rfl
  | 7, _ => show n % 256 = n / 2 ^ 0 % 256; simp

theorem be8_take (n k : Nat) (hk : k < 8) (hn : n < 18446744073709551616) : (be8 n).take (k + 1) = (be8 n).take k ++ [n / 2 ^ (56 - 8 * k) % 256] := by
  rw [← be8_get n k hk hn, List.take_succ_eq_append_getElem (by simpa [be8] using hk)]
  simp [List.getD, List.getElem?_eq_getElem (show k < (be8 n).length by simpa [be8] using hk)]

set_option maxRecDepth 100000 in
set_option maxHeartbeats 1000000 in
theorem reals_num (n : Nat) (hn : n < 18446744073709551616) (hc : nanB n = false) (w : World) :
    Calls Try.prog 7 #[.int .u64 n] w fun e w' => e = .returned (.bool true) ∧ Below w.heap.size w w' := by
  obtain ⟨i0, hi, hz0, hz1, hz2⟩ := info_parts Try.info5
  have h29 := fb29
  have h32 := fb32
  have HC := hide hc
  have hord : (FloatKind.f64.format.order n n != some .eq) = false := hc
  have ecan : canon n = n := by unfold canon; rw [if_neg (by rw [hc]; simp)]
  have HCAN := hide ecan
  clear hc ecan
  go_enter Try.func7, Try.ntmps7
  go_wp2_with fail
  refine (new_any 8 _ (by omega)).mono ?_
  rintro e w1 ⟨b, rfl, hb, hw1, hk1⟩
  have HW1 := hide hw1
  clear hw1
  go_wp2_with fail
  refine (wreal_fits (unhide HW1) rfl n hn (by simp [newWS]) (by simp [newWS])).mono ?_
  rintro e w2 ⟨rfl, v2, hw2, hk2, hx2⟩
  rw [unhide HCAN] at hw2
  have HW2 : Hid (Wr w2 b ⟨8, be8 n, [], 0⟩ v2 nilS) := hw2
  clear hw2 hx2
  go_wp2_with fail
  refine (wdone_ok (unhide HW2) rfl rfl).mono ?_
  rintro e w4 ⟨ca, cc, rfl, ho4, hk4⟩
  have hsee : Sees w4 (.slice ca 8 cc) (be8 n) := Sees.of_own ho4
  have HK : Hid (Kept [] w w4) := hide ((hk1.trans hk2 (fun x hx => by simp [foot, nilS, Value.ownBlock] at hx; right; omega)).trans hk4 (by simp))
  obtain ⟨cb, co, hca, hc0⟩ := hsee.at 0 (by simp [be8])
  subst hca
  have kf : ∀ j, j < 8 → w4.cell? ⟨cb, co + j, none⟩ = some (.int .u8 (n / 2 ^ (56 - 8 * j) % 256 : Nat)) := by
    intro j hj
    obtain ⟨bk', off', ha, kj⟩ := hsee.at j (by simpa [be8] using hj)
    cases ha
    rw [kj, be8_get n j hj hn]
  have HS := hide hsee
  have HKF := hide kf
  clear ho4 hsee kf hc0 hk1 hk2 hk4 HW1 HW2
  show _
  go_wp2_with fail
  go_loop [8] (fun i => ∃ k : Nat, k ≤ 8 ∧ i = .int .i64 k) (fun i => 8 - (intOf i).toNat)
  case atStart => exact ⟨0, by omega, rfl⟩
  case round =>
    obtain ⟨k, hk, rfl⟩ := hrel
    by_cases hlt : k < 8
    · have kk := unhide HKF k hlt
      go_wp2
      go_round
      case rel => exact ⟨k + 1, by omega, by go_num⟩
      case measure => simp [intOf]; omega
    · clear HKF
      obtain ⟨x0, x1, x2, x3, x4, x5, x6, x7, hx⟩ : ∃ x0 x1 x2 x3 x4 x5 x6 x7, be8 n = [x0, x1, x2, x3, x4, x5, x6, x7] := ⟨_, _, _, _, _, _, _, _, rfl⟩
      have HX := hide hx
      have HLT : Hid (∀ x ∈ [x0, x1, x2, x3, x4, x5, x6, x7], x < 256) := by rw [← hx]; exact hide (be8_lt n hn)
      have HOF : Hid (of8 [x0, x1, x2, x3, x4, x5, x6, x7] = n) := by rw [← hx]; exact hide (be8_of8 n hn)
      clear hx
      go_wp2_with fail
      refine (read_any (unhide HS) (by simp [be8])).mono ?_
      rintro e w5 ⟨rb, rlv, rfl, hrd5, hrb5, hrl5, hk5⟩
      rw [unhide HX] at hrd5
      have HR5 := hide hrd5
      clear hrd5
      go_wp2_with fail
      refine (rreal_ok (unhide HR5) (unhide HLT) n (unhide HOF) (Or.inl (unhide HC))).mono ?_
      rintro e w6 ⟨rfl, ⟨lv6, hrd6, ho6⟩, hk6⟩
      have HR6 := hide hrd6
      clear hrd6
      go_wp2_with fail
      refine (rdone_ok (unhide HR6) 0 rfl).mono ?_
      rintro e w' ⟨rfl, rfl⟩
      have HK6 : Hid (Kept [] w w6) := by
        have k5 := (unhide HK).trans hk5 (by simp)
        exact hide (k5.trans hk6 (fun x hx => by simp at hx; subst hx; right; exact Nat.le_trans (unhide HK).size hrb5))
      clear hk5 hk6 hrb5 hrl5 HK HR5 HR6 ho6 HS
      go_wp2_with fail
      go_loopw [11, 12] (fun v i wr => ∃ k : Nat, k ≤ 8 ∧ i = .int .i64 k ∧ wr.ownsRow w.heap.size 5 1 v ((be8 n).take k).length (u8s ((be8 n).take k)) ∧ Kept [] w wr) (fun _ i _ => 8 - (intOf i).toNat)
      case atStart => exact ⟨0, by omega, rfl, World.ownsRow_nil _ _ _ _, unhide HK6⟩
      case round =>
        obtain ⟨k, hk, rfl, hown, hkw⟩ := hrel
        have hks := hkw.size
        by_cases hlt : k < 8
        · obtain ⟨y, hy⟩ : ∃ y, y = n / 2 ^ (56 - 8 * k) % 256 := ⟨_, rfl⟩
          have HT := hide (be8_take n k hlt hn)
          rw [← hy] at HT
          have HY := hide hy
          clear hy
          have hlk : ((be8 n).take k).length ≤ 8 := by simp [be8]; omega
          go_wp2_with (at_builtin; refine wpList_append_sees _ rfl _ _ 25 rfl w.heap.size 5 i0 (.int .u8 0) Try.underlying25 hi hz0 hz1 hz2 rfl _ ((be8 n).take k) rfl (hown.alloc _) _ [y] rfl ?c0 ?c1 ?c2 ?_)
          case c0 =>
            have e : ((n : Int) / 2 ^ (56 - 8 * k) % 256) = ((y : Nat) : Int) := by rw [unhide HY]; simp
            rw [e]; exact news_one _ _
          case c1 => first | omega | (simp; omega)
          case c2 => simp; omega
          intro v' w7 hown7 hg7 hat7
          have HO7 := hide hown7
          obtain ⟨a7, c7, hv7⟩ := own_len hown7
          subst hv7
          clear hown7
          go_wp2
          go_roundw
          case rel => exact ⟨k + 1, by omega, by go_num, by rw [unhide HT]; simpa using unhide HO7, (hkw.alloc _).grown hg7 (fun j hj => Or.inr (hown.lt j hj).1)⟩
          case measure => simp [intOf]; omega
        · have hk8 : k = 8 := by omega
          subst hk8
          have hs8 : Sees wr u11 (be8 n) := Sees.of_own hown
          have HS8 := hide hs8
          obtain ⟨ra, rc, hv8⟩ := sees_len hs8
          subst hv8
          clear hown hs8
          go_wp2_with fail
          refine (read_any (unhide HS8) (by simp [be8])).mono ?_
          rintro e w8 ⟨sb, slv, rfl, hrd8, hsb8, hsl8, hk8⟩
          rw [unhide HX] at hrd8
          have HR8 := hide hrd8
          clear hrd8
          go_wp2_with fail
          refine (rreal_ok (unhide HR8) (unhide HLT) n (unhide HOF) (Or.inl (unhide HC))).mono ?_
          rintro e w9 ⟨rfl, ⟨lv9, hrd9, ho9⟩, hk9⟩
          have HR9 := hide hrd9
          clear hrd9
          go_wp2_with fail
          refine (rdone_ok (unhide HR9) 0 rfl).mono ?_
          rintro e w' ⟨rfl, rfl⟩
          go_wp2
          go_ret
          refine ⟨rfl, Kept.below (F := []) ?_ _ (Nat.le_refl _) (by simp)⟩
          exact (hkw.trans hk8 (by simp)).trans hk9 (fun x hx => by simp at hx; subst hx; right; omega)

set_option maxRecDepth 100000 in
set_option maxHeartbeats 1000000 in
theorem reals_nan (n : Nat) (hn : n < 18446744073709551616) (hc : nanB n = true) (w : World) :
    Calls Try.prog 7 #[.int .u64 n] w fun e w' => e = .returned (.bool true) ∧ Below w.heap.size w w' := by
  obtain ⟨i0, hi, hz0, hz1, hz2⟩ := info_parts Try.info5
  have h29 := fb29
  have h32 := fb32
  have HC := hide hc
  have hord : (FloatKind.f64.format.order n n != some .eq) = true := hc
  have ecan : canon n = oneNaN := by unfold canon; rw [if_pos hc]
  have hone : oneNaN < 18446744073709551616 := by decide
  have HCAN := hide ecan
  clear hc ecan
  go_enter Try.func7, Try.ntmps7
  go_wp2_with fail
  refine (new_any 8 _ (by omega)).mono ?_
  rintro e w1 ⟨b, rfl, hb, hw1, hk1⟩
  have HW1 := hide hw1
  clear hw1
  go_wp2_with fail
  refine (wreal_fits (unhide HW1) rfl n hn (by simp [newWS]) (by simp [newWS])).mono ?_
  rintro e w2 ⟨rfl, v2, hw2, hk2, hx2⟩
  rw [unhide HCAN] at hw2
  have HW2 : Hid (Wr w2 b ⟨8, be8 oneNaN, [], 0⟩ v2 nilS) := hw2
  clear hw2 hx2
  go_wp2_with fail
  refine (wdone_ok (unhide HW2) rfl rfl).mono ?_
  rintro e w4 ⟨ca, cc, rfl, ho4, hk4⟩
  have hsee : Sees w4 (.slice ca 8 cc) (be8 oneNaN) := Sees.of_own ho4
  have HK : Hid (Kept [] w w4) := hide ((hk1.trans hk2 (fun x hx => by simp [foot, nilS, Value.ownBlock] at hx; right; omega)).trans hk4 (by simp))
  obtain ⟨cb, co, hca, hc0⟩ := hsee.at 0 (by simp [be8])
  subst hca
  have kf : ∀ j, j < 8 → w4.cell? ⟨cb, co + j, none⟩ = some (.int .u8 (9221120237041090560 / 2 ^ (56 - 8 * j) % 256 : Nat)) := by
    intro j hj
    obtain ⟨bk', off', ha, kj⟩ := hsee.at j (by simpa [be8] using hj)
    cases ha
    rw [kj, be8_get oneNaN j hj hone]; rfl
  have HS := hide hsee
  have HKF := hide kf
  clear ho4 hsee kf hc0 hk1 hk2 hk4 HW1 HW2
  show _
  go_wp2_with fail
  go_loop [8] (fun i => ∃ k : Nat, k ≤ 8 ∧ i = .int .i64 k) (fun i => 8 - (intOf i).toNat)
  case atStart => exact ⟨0, by omega, rfl⟩
  case round =>
    obtain ⟨k, hk, rfl⟩ := hrel
    by_cases hlt : k < 8
    · have kk := unhide HKF k hlt
      go_wp2
      go_round
      case rel => exact ⟨k + 1, by omega, by go_num⟩
      case measure => simp [intOf]; omega
    · clear HKF
      obtain ⟨x0, x1, x2, x3, x4, x5, x6, x7, hx⟩ : ∃ x0 x1 x2 x3 x4 x5 x6 x7, be8 n = [x0, x1, x2, x3, x4, x5, x6, x7] := ⟨_, _, _, _, _, _, _, _, rfl⟩
      have HX := hide hx
      have HLT : Hid (∀ x ∈ [x0, x1, x2, x3, x4, x5, x6, x7], x < 256) := by rw [← hx]; exact hide (be8_lt n hn)
      have HOF : Hid (of8 [x0, x1, x2, x3, x4, x5, x6, x7] = n) := by rw [← hx]; exact hide (be8_of8 n hn)
      clear hx
      go_wp2_with fail
      refine (read_any (unhide HS) (by simp [be8])).mono ?_
      rintro e w5 ⟨rb, rlv, rfl, hrd5, hrb5, hrl5, hk5⟩
      have e8 : be8 oneNaN = [127, 248, 0, 0, 0, 0, 0, 0] := by decide
      rw [e8] at hrd5
      clear e8
      have HR5 := hide hrd5
      clear hrd5
      go_wp2_with fail
      refine (rreal_ok (unhide HR5) (by decide) oneNaN (by decide) (Or.inr ⟨nan_one, rfl⟩)).mono ?_
      rintro e w6 ⟨rfl, ⟨lv6, hrd6, ho6⟩, hk6⟩
      have HR6 := hide hrd6
      clear hrd6
      go_wp2_with fail
      refine (rdone_ok (unhide HR6) 0 rfl).mono ?_
      rintro e w' ⟨rfl, rfl⟩
      have HK6 : Hid (Kept [] w w6) := by
        have k5 := (unhide HK).trans hk5 (by simp)
        exact hide (k5.trans hk6 (fun x hx => by simp at hx; subst hx; right; exact Nat.le_trans (unhide HK).size hrb5))
      clear hk5 hk6 hrb5 hrl5 HK HR5 HR6 ho6 HS
      go_wp2_with fail
      go_loopw [11, 12] (fun v i wr => ∃ k : Nat, k ≤ 8 ∧ i = .int .i64 k ∧ wr.ownsRow w.heap.size 5 1 v ((be8 n).take k).length (u8s ((be8 n).take k)) ∧ Kept [] w wr) (fun _ i _ => 8 - (intOf i).toNat)
      case atStart => exact ⟨0, by omega, rfl, World.ownsRow_nil _ _ _ _, unhide HK6⟩
      case round =>
        obtain ⟨k, hk, rfl, hown, hkw⟩ := hrel
        have hks := hkw.size
        by_cases hlt : k < 8
        · obtain ⟨y, hy⟩ : ∃ y, y = n / 2 ^ (56 - 8 * k) % 256 := ⟨_, rfl⟩
          have HT := hide (be8_take n k hlt hn)
          rw [← hy] at HT
          have HY := hide hy
          clear hy
          have hlk : ((be8 n).take k).length ≤ 8 := by simp [be8]; omega
          go_wp2_with (at_builtin; refine wpList_append_sees _ rfl _ _ 25 rfl w.heap.size 5 i0 (.int .u8 0) Try.underlying25 hi hz0 hz1 hz2 rfl _ ((be8 n).take k) rfl (hown.alloc _) _ [y] rfl ?c0 ?c1 ?c2 ?_)
          case c0 =>
            have e : ((n : Int) / 2 ^ (56 - 8 * k) % 256) = ((y : Nat) : Int) := by rw [unhide HY]; simp
            rw [e]; exact news_one _ _
          case c1 => first | omega | (simp; omega)
          case c2 => simp; omega
          intro v' w7 hown7 hg7 hat7
          have HO7 := hide hown7
          obtain ⟨a7, c7, hv7⟩ := own_len hown7
          subst hv7
          clear hown7
          go_wp2
          go_roundw
          case rel => exact ⟨k + 1, by omega, by go_num, by rw [unhide HT]; simpa using unhide HO7, (hkw.alloc _).grown hg7 (fun j hj => Or.inr (hown.lt j hj).1)⟩
          case measure => simp [intOf]; omega
        · have hk8 : k = 8 := by omega
          subst hk8
          have hs8 : Sees wr u11 (be8 n) := Sees.of_own hown
          have HS8 := hide hs8
          obtain ⟨ra, rc, hv8⟩ := sees_len hs8
          subst hv8
          clear hown hs8
          go_wp2_with fail
          refine (read_any (unhide HS8) (by simp [be8])).mono ?_
          rintro e w8 ⟨sb, slv, rfl, hrd8, hsb8, hsl8, hk8⟩
          rw [unhide HX] at hrd8
          have HR8 := hide hrd8
          clear hrd8
          by_cases hone' : n = oneNaN
          · have g1 : ((n : Int) != 9221120237041090560) = false := by rw [bne_eq_false_iff_eq, hone']; rfl
            have g2 : ((n : Int) == 9221120237041090560) = true := by rw [beq_iff_eq, hone']; rfl
            have H1 := hide hone'
            clear hone'
            go_wp2_with fail
            refine (rreal_ok (unhide HR8) (unhide HLT) n (unhide HOF) (Or.inr ⟨unhide HC, unhide H1⟩)).mono ?_
            rintro e w9 ⟨rfl, ⟨lv9, hrd9, ho9⟩, hk9⟩
            have HR9 := hide hrd9
            clear hrd9
            go_wp2_with fail
            refine (rdone_ok (unhide HR9) 0 rfl).mono ?_
            rintro e w' ⟨rfl, rfl⟩
            go_wp2
            go_ret
            refine ⟨rfl, Kept.below (F := []) ?_ _ (Nat.le_refl _) (by simp)⟩
            exact (hkw.trans hk8 (by simp)).trans hk9 (fun x hx => by simp at hx; subst hx; right; omega)
          · have g1 : ((n : Int) != 9221120237041090560) = true := by
              rw [bne_iff_ne]; intro e; apply hone'; unfold oneNaN; omega
            have H1 := hide hone'
            clear hone'
            go_wp2_with fail
            refine (rreal_odd (unhide HR8) (unhide HLT) n (unhide HOF) (unhide HC) (unhide H1)).mono ?_
            rintro e w9 ⟨rfl, hrd9, hk9⟩
            have HR9 := hide hrd9
            clear hrd9
            go_wp2_with fail
            refine (rdone_fault (unhide HR9) (by omega)).mono ?_
            rintro e w' ⟨rfl, rfl⟩
            go_wp2
            go_ret
            refine ⟨rfl, Kept.below (F := []) ?_ _ (Nat.le_refl _) (by simp)⟩
            exact (hkw.trans hk8 (by simp)).trans hk9 (fun x hx => by simp at hx; subst hx; right; omega)

theorem reals_walk (n : Nat) (hn : n < 18446744073709551616) (w : World) :
    Calls Try.prog 7 #[.int .u64 n] w fun e w' => e = .returned (.bool true) ∧ Below w.heap.size w w' := by
  cases hc : nanB n with
  | false => exact reals_num n hn hc w
  | true => exact reals_nan n hn hc w
end Go.Proofs.Ytiabhgkndejigaa
