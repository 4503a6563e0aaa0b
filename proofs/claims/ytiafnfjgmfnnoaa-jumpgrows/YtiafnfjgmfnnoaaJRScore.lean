/- The document's Score. -/
import Derived.Test.YtiafnfjgmfnnoaaJRank
namespace Go.Proofs.Ytiafnfjgmfnnoaa
open Go.RowKit

theorem be_join (n m s j : Nat) (hj : j < 256 ^ n) : be (m + n) (s * 256 ^ n + j) = be m s ++ be n j := by
  induction n generalizing s j with
  | zero =>
    have : j = 0 := by simpa using hj
    subst this
    simp [be]
  | succ n ih =>
    rw [← Nat.add_assoc, be_succ, be_succ]
    have e1 : (s * 256 ^ (n + 1) + j) / 256 = s * 256 ^ n + j / 256 := by
      rw [Nat.pow_succ, ← Nat.mul_assoc]
      omega
    have e2 : (s * 256 ^ (n + 1) + j) % 256 = j % 256 := by
      rw [Nat.pow_succ, ← Nat.mul_assoc]
      omega
    rw [e1, e2, ih s (j / 256) (by rw [Nat.pow_succ] at hj; omega), List.append_assoc]
theorem be_mark {s j : Nat} (hj : j < 4294967296) : be 8 (s * 4294967296 + j) = be 4 s ++ be 4 j := be_join 4 4 s j (by simpa using hj)

set_option maxRecDepth 100000 in
theorem rcan_any (w : World) (s wt : Int) :
    Calls Try.prog 40 #[.int .i64 s, .int .i64 wt] w fun e w' => e = .returned (.bool (decide (fits s wt))) ∧ w' = w := by
  by_cases h1 : 1 ≤ wt
  · by_cases h2 : wt ≤ 64
    · by_cases h3 : 0 ≤ s
      · by_cases h4 : s < 65536
        · have hd : decide (fits s wt) = true := decide_eq_true ⟨h1, h2, h3, h4⟩
          rw [hd]
          go_enter Try.func40, Try.ntmps40
          go_wp2
          go_ret
          exact ⟨rfl, rfl⟩
        · rw [decide_eq_false (fun h : fits s wt => h4 h.2.2.2)]
          go_enter Try.func40, Try.ntmps40
          go_wp2
          go_ret
          exact ⟨rfl, rfl⟩
      · rw [decide_eq_false (fun h : fits s wt => h3 h.2.2.1)]
        go_enter Try.func40, Try.ntmps40
        go_wp2
        go_ret
        exact ⟨rfl, rfl⟩
    · rw [decide_eq_false (fun h : fits s wt => h2 h.2.1)]
      go_enter Try.func40, Try.ntmps40
      go_wp2
      go_ret
      exact ⟨rfl, rfl⟩
  · rw [decide_eq_false (fun h : fits s wt => h1 h.1)]
    go_enter Try.func40, Try.ntmps40
    go_wp2
    go_ret
    exact ⟨rfl, rfl⟩

set_option maxRecDepth 100000 in
set_option maxHeartbeats 2000000 in
theorem rscore_any (w : World) (h : Nat) (s wt : Int) (hh : h < 18446744073709551616) :
    Calls Try.prog 23 #[.int .u64 h, .int .i64 s, .int .i64 wt] w fun e w' => e = .returned (.int .u64 (score h s wt : Nat)) ∧ Kept [] w w' := by
  have HW := hide (fun w => rcan_any w s wt)
  by_cases hf : fits s wt
  · obtain ⟨f1, f2, f3, f4⟩ := hf
    obtain ⟨s', rfl⟩ := Int.eq_ofNat_of_zero_le f3
    obtain ⟨n, rfl⟩ := Int.eq_ofNat_of_zero_le (show 0 ≤ wt by omega)
    have HR : Hid (score h s' n = best h s' n) := by unfold Hid score; rw [if_pos ⟨f1, f2, f3, f4⟩]; simp
    have hd : decide (fits (s' : Int) (n : Int)) = true := decide_eq_true ⟨f1, f2, f3, f4⟩
    rw [hd] at HW
    clear hd
    obtain ⟨i0, hi, hz0, hz1, hz2⟩ := info_parts info5p
    have HI := hide (⟨hi, hz0, hz1, hz2⟩ : _ ∧ _ ∧ _ ∧ _)
    clear hi hz0 hz1 hz2
    have H8 : Hid (∀ w, Calls Try.prog 37 #[.int .u64 h, .int .i64 8] w fun e w' => ∃ a cap, e = .returned (.slice a 8 cap) ∧ w'.ownsRow w.heap.size 5 1 (.slice a 8 cap) 8 (u8s (be 8 h)) ∧ Kept [] w w') := fun w => rbytes_any w 8 h (by omega) hh
    have H4 : Hid (∀ w, Calls Try.prog 37 #[.int .u64 (s' : Int), .int .i64 4] w fun e w' => ∃ a cap, e = .returned (.slice a 4 cap) ∧ w'.ownsRow w.heap.size 5 1 (.slice a 4 cap) 4 (u8s (be 4 s')) ∧ Kept [] w w') := fun w => rbytes_any w 4 s' (by omega) (by omega)
    have H4j : Hid (∀ (w : World) (j : Nat), j < 18446744073709551616 → Calls Try.prog 37 #[.int .u64 (j : Int), .int .i64 4] w fun e w' => ∃ a cap, e = .returned (.slice a 4 cap) ∧ w'.ownsRow w.heap.size 5 1 (.slice a 4 cap) 4 (u8s (be 4 j)) ∧ Kept [] w w') := fun w j hj => rbytes_any w 4 j (by omega) hj
    have e3 : IntKind.u64.wrap (s' : Int) = (s' : Int) := by rw [IntKind.wrap_u64]; omega
    have hn64 : n ≤ 64 := by omega
    clear f1 f2 f3 f4
    go_enter Try.func23, Try.ntmps23
    go_wp2_with fail
    go_loopw [7, 8] (fun r i wr => ∃ k : Nat, k ≤ n ∧ i = .int .i64 k ∧ r = .int .u64 (best h s' k : Nat) ∧ Kept [] w wr) (fun _ i _ => n - (intOf i).toNat)
    case atStart => exact ⟨0, by omega, rfl, rfl, Kept.refl _ _⟩
    case round =>
      obtain ⟨k, hk, rfl, rfl, hkp⟩ := hrel
      have HK := hide hkp
      clear hkp
      by_cases hkn : k < n
      · have HS := hide (best_succ h s' k)
        have HMK : Hid (mk h s' k = marks fnv0 (be 8 h ++ be 4 s' ++ be 4 k)) := by unfold Hid mk; rw [be_mark (by omega), List.append_assoc]
        generalize hbb : best h s' (k + 1) = B2 at HS
        have HBB := hide hbb
        clear hbb
        generalize mk h s' k = M at HS HMK
        generalize best h s' k = B at HS
        have t3 : (k : Int) < (n : Int) := by omega
        have e4 : IntKind.u64.wrap (k : Int) = (k : Int) := by rw [IntKind.wrap_u64]; omega
        go_wp2_with (first
          | (go_at_call 40; refine (unhide HW _).mono ?_; rintro e w1 ⟨rfl, hq⟩; have hq' := hq.symm; subst hq'))
        refine (unhide H8 _).mono ?_
        rintro e w1 ⟨a1, c1, rfl, ho1, hk1⟩
        have HO1 := hide ho1
        have HK1 : Hid (Kept [] w w1) := (unhide HK).trans hk1 (by simp)
        clear ho1 hk1
        go_wp2_with fail
        refine (unhide H4 _).mono ?_
        rintro e w2 ⟨a2, c2, rfl, ho2, hk2⟩
        have HO2 : Hid (Sees w2 (.slice a2 4 c2) (be 4 s')) := Sees.of_own (base := w1.heap.size) (by rw [be_length]; exact ho2) (be_bytes 4 _)
        have HO1b : Hid (w2.ownsRow wr.heap.size 5 1 (.slice a1 8 c1) (be 8 h).length (u8s (be 8 h))) := by
          unfold Hid
          rw [be_length]
          exact own_kept (unhide HO1) hk2 (by simp)
        have HK2 : Hid (Kept [] w w2) := (unhide HK1).trans hk2 (by simp)
        have hle2 : wr.heap.size ≤ w2.heap.size := Nat.le_trans (by rcases (unhide HO1).2 with ⟨h0, _⟩ | ⟨g, _, _, _, hg, hb, _⟩; cases h0; have := (Array.getElem?_eq_some_iff.1 hb).1; omega) hk2.size
        have HLE := hide hle2
        clear ho2 hk2 HO1 HK1 hle2
        go_wp2_with (at_builtin; refine wpList_append_sees _ rfl _ _ 28 rfl wr.heap.size 5 i0 (.int .u8 0) Try.underlying28 (unhide HI).1 (unhide HI).2.1 (unhide HI).2.2.1 (unhide HI).2.2.2 rfl _ (be 8 h) rfl (unhide HO1b) _ (be 4 s') rfl (unhide HO2) (by rw [be_length, be_length]; omega) (unhide HLE) ?_)
        intro v3 w3 ho3 hg3 hat3
        have hn12 : (be 8 h).length + (be 4 s').length = 12 := by rw [be_length, be_length]
        rw [hn12] at ho3
        obtain ⟨a3, c3, rfl⟩ := own_len ho3
        have HO3 := hide ho3
        have HK3 : Hid (Kept [] w w3) := (unhide HK2).grown hg3 (fun q hq => Or.inr (Nat.le_trans (unhide HK).size ((unhide HO1b).lt q hq).1))
        have HLE3 : Hid (wr.heap.size ≤ w3.heap.size) := Nat.le_trans (unhide HLE) hg3.size
        clear ho3 hg3 hat3 hn12 HO1b HO2 HK2 HLE
        go_wp2_with fail
        refine (unhide H4j _ k (by omega)).mono ?_
        rintro e w4 ⟨a4, c4, rfl, ho4, hk4⟩
        have HO4 : Hid (Sees w4 (.slice a4 4 c4) (be 4 k)) := Sees.of_own (base := w3.heap.size) (by rw [be_length]; exact ho4) (be_bytes 4 _)
        have HO3b : Hid (w4.ownsRow wr.heap.size 5 1 (.slice a3 12 c3) (be 8 h ++ be 4 s').length (u8s (be 8 h ++ be 4 s'))) := by
          unfold Hid
          rw [List.length_append, be_length, be_length]
          exact own_kept (unhide HO3) hk4 (by simp)
        have HK4 : Hid (Kept [] w w4) := (unhide HK3).trans hk4 (by simp)
        have HLE4 : Hid (wr.heap.size ≤ w4.heap.size) := Nat.le_trans (unhide HLE3) hk4.size
        clear ho4 hk4 HO3 HK3 HLE3
        go_wp2_with (at_builtin; refine wpList_append_sees _ rfl _ _ 28 rfl wr.heap.size 5 i0 (.int .u8 0) Try.underlying28 (unhide HI).1 (unhide HI).2.1 (unhide HI).2.2.1 (unhide HI).2.2.2 rfl _ (be 8 h ++ be 4 s') rfl (unhide HO3b) _ (be 4 k) rfl (unhide HO4) (by rw [List.length_append, be_length, be_length, be_length]; omega) (unhide HLE4) ?_)
        intro v5 w5 ho5 hg5 hat5
        have hs5 : Sees w5 v5 (be 8 h ++ be 4 s' ++ be 4 k) := Sees.of_own (base := wr.heap.size) (by rw [List.length_append]; exact ho5) (by
          intro b hb
          rcases List.mem_append.1 hb with hb | hb
          · rcases List.mem_append.1 hb with hb | hb
            · exact be_bytes _ _ b hb
            · exact be_bytes _ _ b hb
          · exact be_bytes _ _ b hb)
        have HH := hide (rhash_any hs5)
        rw [← unhide HMK] at HH
        have HK5 : Hid (Kept [] w w5) := (unhide HK4).grown hg5 (fun q hq => Or.inr (Nat.le_trans (unhide HK).size ((unhide HO3b).lt q hq).1))
        obtain ⟨a5, c5, hv5, -⟩ := hs5
        have hl16 : (be 8 h ++ be 4 s' ++ be 4 k).length = 16 := by rw [List.length_append, List.length_append, be_length, be_length, be_length]
        rw [hl16] at hv5
        subst hv5
        clear ho5 hg5 hat5 hl16 HO3b HO4 HK4 HLE4 HMK
        go_wp2_with fail
        refine (unhide HH).mono ?_
        rintro e w6 ⟨rfl, hk6⟩
        have HK6 : Hid (Kept [] w w6) := (unhide HK5).trans hk6 (by simp)
        clear hk6 HK5 HH
        by_cases hbm : B < M
        · have t5 : ((M : Int) > (B : Int)) = True := by simp; omega
          go_wp2
          exact ⟨⟨k + 1, by omega, by simp, by rw [unhide HBB, unhide HS, Nat.max_eq_right (by omega)], unhide HK6⟩, by simp [intOf]; omega⟩
        · have t5 : ((B : Int) < (M : Int)) = False := by simp; omega
          go_wp2
          exact ⟨⟨k + 1, by omega, by simp, by rw [unhide HBB, unhide HS, Nat.max_eq_left (by omega)], unhide HK6⟩, by simp [intOf]; omega⟩
      · obtain rfl : k = n := by omega
        have t3 : ((k : Int) < (k : Int)) = False := by simp
        go_wp2_with (first
          | (go_at_call 40; refine (unhide HW _).mono ?_; rintro e w1 ⟨rfl, hq⟩; have hq' := hq.symm; subst hq'))
        go_ret
        exact ⟨by rw [unhide HR]; rfl, unhide HK⟩
  · have HR : score h s wt = 0 := by unfold score; rw [if_neg hf]
    rw [HR]
    rw [decide_eq_false hf] at HW
    go_enter Try.func23, Try.ntmps23
    go_wp2_with fail
    refine wp_loop_rounds 1 ?_
    rw [rounds_succ]
    go_wp2_with (first
      | (go_at_call 40; refine (unhide HW _).mono ?_; rintro e w1 ⟨rfl, hq⟩; have hq' := hq.symm; subst hq'))
    go_ret
    exact ⟨rfl, Kept.refl _ _⟩
end Go.Proofs.Ytiafnfjgmfnnoaa
