/- The law ParcelNums, walked. -/
import Derived.Test.YtiabhgkndejigaaPureN
import Derived.Test.YtiabhgkndejigaaWfail
import Derived.Test.YtiabhgkndejigaaRbyte
namespace Go.Proofs.Ytiabhgkndejigaa
open Go.RowKit

set_option maxRecDepth 100000 in
set_option maxHeartbeats 1000000 in
theorem nums_walk (n : Nat) (hn : n < 18446744073709551616) (w : World) :
    Calls Try.prog 5 #[.int .u64 n] w fun e w' => e = .returned (.bool true) ∧ Below w.heap.size w w' := by
  obtain ⟨i0, hi, hz0, hz1, hz2⟩ := info_parts Try.info5
  have hl10 := form_le10 n hn
  have hl1 := form_pos n
  go_enter Try.func5, Try.ntmps5
  go_wp2_with fail
  refine (num_ok n 10 hn (by omega) hl10 _).mono ?_
  rintro e w1 ⟨ca, cc, rfl, ho1, hk1⟩
  have hs1 := Sees.of_own ho1
  obtain ⟨cb, co, hca, hc0⟩ := hs1.at 0 (by omega)
  subst hca
  have HO := hide ho1
  have HS := hide hs1
  clear ho1 hs1 hc0
  go_wp2_with fail
  go_loop [5, 6] (fun r i => ∃ k : Nat, k ≤ (form n).length ∧ i = .int .i64 k ∧ r = .int .u64 (n / 128 ^ k : Nat)) (fun _ i => (form n).length - (intOf i).toNat)
  case atStart => exact ⟨0, by omega, rfl, by simp⟩
  case round =>
    obtain ⟨k, hk, rfl, rfl⟩ := hrel
    have hlt64 : n / 128 ^ k < 18446744073709551616 := Nat.lt_of_le_of_lt (Nat.div_le_self _ _) hn
    by_cases hlt : k < (form n).length
    · have HN : Hid (n / 128 ^ (k + 1) = n / 128 ^ k / 128) := by rw [Nat.pow_succ, ← Nat.div_div_eq_div_mul]; exact hide rfl
      have hck : w1.cell? ⟨cb, co + k, none⟩ = some (.int .u8 ((form n).getD k 0 : Nat)) := by
        obtain ⟨cb', co', hca, hc1⟩ := (unhide HS).at k hlt
        cases hca; exact hc1
      by_cases hx : n / 128 ^ k < 128
      · obtain ⟨e1, e2⟩ := form_at_last n k hlt hx
        rw [e1] at hck
        generalize n / 128 ^ k = x at *
        have b1 : ((k : Int) == (form n).length - 1) = true := by rw [beq_iff_eq]; omega
        have b2 : ((x : Int) % 128 != (x : Int) % 128) = false := by simp
        have b3 : decide ((x : Int) < 128) = true := by simp; omega
        clear e1 e2
        go_wp2
        go_round
        case rel => exact ⟨k + 1, by omega, by go_num, by rw [unhide HN]; go_num⟩
        case measure => simp [intOf]; omega
      · obtain ⟨e1, e2⟩ := form_at_more n k hlt hx
        rw [e1] at hck
        generalize n / 128 ^ k = x at *
        have b1 : ((k : Int) == (form n).length - 1) = false := by rw [beq_eq_false_iff_ne]; omega
        obtain ⟨y, hy⟩ : ∃ y : Nat, y = x % 128 + 128 := ⟨_, rfl⟩
        rw [← hy] at hck
        have b2 : ((y : Int) % 128 != (x : Int) % 128) = false := by rw [bne_eq_false_iff_eq]; omega
        have b3 : decide ((y : Int) < 128) = false := by simp; omega
        have hyl : y < 256 := by omega
        clear e1 e2 hy
        go_wp2
        go_round
        case rel => exact ⟨k + 1, by omega, by go_num, by rw [unhide HN]; go_num⟩
        case measure => simp [intOf]; omega
    · have hkl : k = (form n).length := by omega
      subst hkl
      rw [form_end]
      clear hlt64 hlt hk
      have hlast : 1 < (form n).length → ∃ y : Nat, 0 < y ∧ y < 256 ∧ w1.cell? ⟨cb, co + ((form n).length - 1), none⟩ = some (.int .u8 (y : Nat)) := by
        intro h1
        obtain ⟨cb', co', hca, hc1⟩ := (unhide HS).at ((form n).length - 1) (by omega)
        cases hca
        refine ⟨_, Nat.pos_of_ne_zero (form_last n h1), ?_, hc1⟩
        exact form_get_lt n _ (by omega)
      have hcase : (decide (1 < ((form n).length : Int)) = false) ∨ (decide (1 < ((form n).length : Int)) = true ∧ ∃ y : Nat, y < 256 ∧ ((y : Int) == 0) = false ∧ w1.cell? ⟨cb, co + ((form n).length - 1), none⟩ = some (.int .u8 (y : Nat))) := by
        by_cases h1 : 1 < (form n).length
        · obtain ⟨y, hy0, hy1, hcy⟩ := hlast h1
          exact Or.inr ⟨by simp; omega, y, hy1, by rw [beq_eq_false_iff_ne]; omega, hcy⟩
        · exact Or.inl (by simp; omega)
      clear hlast
      have HSD : Hid (∀ wx, Kept [] w1 wx → Sees wx (.slice (some ⟨cb, co, none⟩) (form n).length cc) (form n)) := by
        intro wx hk; exact (unhide HS).kept hk (by simp)
      have hcap : (form n).length ≤ cc ∧ cc ≤ 9223372036854775807 := by
        rcases (unhide HS) with ⟨h, _⟩ | ⟨_, _, _, h, hc, hm, _⟩
        · cases h
        · cases h; unfold maxLen at hm; omega
      obtain ⟨hcap1, hcap2⟩ := hcap
      clear HO HS
      rcases hcase with b5 | ⟨b5, y, hy1, b6, hcy⟩
      all_goals
        go_wp2_with fail
        have e0 : ((form n).length : Int) - 1 = (((form n).length - 1 : Nat) : Int) := by omega
        rw [e0]
        refine (num_few n _ hn (by omega) (by omega) _).mono ?_
        rintro e w2 ⟨rfl, hk2⟩
        clear e0
        go_wp2_with fail
        refine (num_ok n _ hn (by omega) (Nat.le_refl _) _).mono ?_
        rintro e w3 ⟨ja, jc, rfl, hoj, hk3⟩
        have HJ := hide (Sees.of_own hoj)
        clear hoj
        go_wp2_with fail
        refine (same_yes (unhide HJ) (unhide HSD _ (hk2.trans hk3 (by simp))) (by omega)).mono ?_
        rintro e w4 ⟨rfl, m4, rfl⟩
        clear HJ
        go_wp2_with fail
        have HK : Hid (Kept [] w1 (w3.drewN m4)) := hide ((hk2.trans hk3 (by simp)).drewN m4)
        clear hk2 hk3
        generalize w3.drewN m4 = w4 at *
        go_loopw [12] (fun i wr => ∃ k : Nat, k ≤ (form n).length ∧ i = .int .i64 k ∧ Kept [] w1 wr) (fun i _ => (form n).length - (intOf i).toNat)
        case atStart => exact ⟨0, by omega, rfl, unhide HK⟩
        case round =>
          obtain ⟨k, hk, rfl, hkw⟩ := hrel
          by_cases hlt : k < (form n).length
          · have i1 : (0 : Int) ≤ (k : Int) := by omega
            have i2 : (k : Int) ≤ (cc : Int) := by omega
            have hpart : Sees wr (.slice (some ⟨cb, co, none⟩) k cc) ((form n).take k) := by
              have := (unhide HSD wr hkw).part 0 k co cc (by omega) (by omega) (by omega) (Or.inl rfl)
              simpa using this
            have HP := hide hpart
            have HRS := hide (read_short0 n k hn hlt)
            have hks := hkw.size
            have htl : ((form n).take k).length ≤ 140737488355328 := by simp; omega
            clear hpart
            go_wp2_with fail
            refine (read_any (unhide HP) htl).mono ?_
            rintro e w5 ⟨rb, rlv, rfl, hrd5, hrb5, hrl5, hk5⟩
            have HR5 := hide hrd5
            clear hrd5 HP htl
            go_wp2_with fail
            refine (rnum_err (unhide HR5) (fun x hx => form_byte n x (List.mem_of_mem_take hx)) (unhide HRS)).mono ?_
            rintro e w6 ⟨rfl, hrf, hk6⟩
            have HRF := hide hrf
            clear hrf
            go_wp2_with (first | (go_at_call 20; refine (rdone_fault (unhide HRF) (by omega)).mono ?_; rintro e w' ⟨rfl, rfl⟩) | (go_at_call 24; refine (rest_fault (unhide HRF) (by omega)).mono ?_; rintro e w' ⟨rfl, rfl⟩))
            refine ⟨⟨k + 1, by omega, by go_num, ?_⟩, by simp [intOf]; omega⟩
            exact (hkw.trans hk5 (by simp)).trans hk6 (fun x hx => by simp at hx; subst hx; right; omega)
          · have hseeb := unhide HSD wr hkw
            have HSB := hide hseeb
            have hks := hkw.size
            clear hseeb
            go_wp2_with (first
              | (at_builtin; refine wpList_append_sees _ rfl (.tmp 140) (.tmp 141) 25 rfl wr.heap.size 5 i0 (.int .u8 0) Try.underlying25 hi hz0 hz1 hz2 rfl _ [] rfl (World.ownsRow_made wr #[] 0 (Nat.le_refl _) (Nat.zero_le _) rfl) _ (form n) rfl (sees_alloc _ (unhide HSB)) (by simp; omega) (by simp) ?_; intro v5 w5 hown5 hg5 hat5; simp only [List.nil_append] at hown5; obtain ⟨a5, c5, hv5⟩ := own_len hown5; subst hv5; have HO5 := hide hown5; have HG5 := hide hg5; have HA5 := hide hat5; clear hown5 hg5 hat5)
              | (at_builtin; refine wpList_append_sees _ rfl (.tmp 142) (.tmp 143) 25 rfl wr.heap.size 5 i0 (.int .u8 0) Try.underlying25 hi hz0 hz1 hz2 rfl _ (form n) rfl ((unhide HO5).alloc _) _ [5] rfl (news_one _ 5) (by simp; omega) (by have := (unhide HG5).size; simp at this ⊢; omega) ?_; intro v6 w6 hown6 hg6 hat6; obtain ⟨a6, c6, hv6⟩ := own_len hown6; subst hv6; have HO6 := hide hown6; have HG6 := hide hg6; clear hown6 hg6 hat6))
            have HS6 := hide (Sees.of_own (unhide HO6))
            have HB6 : Hid (∀ x ∈ form n ++ [5], x < 256) := by
              intro x hx; simp at hx; rcases hx with hx | rfl
              · exact form_byte n x hx
              · omega
            have HN6 := hide (read_form0 n [5] hn)
            have hk6 : Kept [] w1 w6 := by
              have k5 := (hkw.alloc (.cells #[] 5)).grown (unhide HG5) (fun k hk => by cases hk; exact Or.inr hks)
              exact (k5.alloc _).grown (unhide HG6) (fun k hk => by exact Or.inr (Nat.le_trans hks ((unhide HO5).lt k hk).1))
            refine (read_any (bs := form n ++ [5]) (by simpa using unhide HS6) (by simp; omega)).mono ?_
            rintro e w7 ⟨rb, rlv, rfl, hrd7, hrb7, hrl7, hk7⟩
            have HR7 := hide hrd7
            clear hrd7 HO5 HG5 HA5 HO6 HG6 HS6
            go_wp2_with fail
            refine (rnum_ok (unhide HR7) (unhide HB6) (unhide HN6)).mono ?_
            rintro e w8 ⟨rfl, ⟨lv8, hrd8, ho8⟩, hk8⟩
            have HR8 := hide hrd8
            clear hrd8 HR7
            go_wp2_with fail
            refine (rest_ok (unhide HR8)).mono ?_
            rintro e w' ⟨rfl, rfl⟩
            go_wp2_with fail
            refine (rdone_ok (unhide HR8) 12 (by simp)).mono ?_
            rintro e w' ⟨rfl, rfl⟩
            go_wp2_with fail
            refine (rbyte_ok (unhide HR8) (by omega)).mono ?_
            rintro e w9 ⟨rfl, ⟨lv9, hrd9, ho9⟩, hk9⟩
            have HR9 := hide hrd9
            clear hrd9 HR8
            go_wp2_with fail
            refine (rdone_ok (unhide HR9) 0 rfl).mono ?_
            rintro e w' ⟨rfl, rfl⟩
            go_wp2
            go_ret
            refine ⟨rfl, Kept.below (F := []) ?_ _ (Nat.le_refl _) (by simp)⟩
            have k6 := hk1.trans hk6 (by simp)
            have hk6s := k6.size
            have k7 := k6.trans hk7 (by simp)
            have k8 := k7.trans hk8 (fun x hx => by simp at hx; subst hx; right; omega)
            exact k8.trans hk9 (fun x hx => by simp at hx; subst hx; right; omega)
end Go.Proofs.Ytiabhgkndejigaa
