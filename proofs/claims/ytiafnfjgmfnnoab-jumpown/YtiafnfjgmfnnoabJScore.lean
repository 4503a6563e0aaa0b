/- mark, weighs, Score. -/
import Derived.Test.YtiafnfjgmfnnoabJHome
import Derived.Deep.RegionWith
namespace Go.Proofs.Ytiafnfjgmfnnoab
open Go.RowKit

theorem Blk.rowOther {w : World} {b b2 : Nat} {cs cs2 : Array Value} {t : TypeId} (h : Blk w b cs t) (hn : b ≠ b2) : Blk (w.setRow b2 cs2) b cs t := by
  unfold Blk at h ⊢
  have : ¬ b2 = b := fun e => hn e.symm
  simp [World.setRow, Array.getElem?_modify, h, this]

/-- the mark of a slot -/
def mk (h s j : Nat) : Nat := marks fnv0 (be 8 h ++ be 8 (s * 4294967296 + j))
/-- the greatest mark of n slots -/
def best (h s : Nat) : Nat → Nat
  | 0 => 0
  | n + 1 => max (best h s n) (mk h s n)
theorem best_succ (h s n : Nat) : best h s (n + 1) = max (best h s n) (mk h s n) := rfl
theorem mk_lt (h s j : Nat) : mk h s j < 18446744073709551616 := mark_lt _
theorem best_lt (h s n : Nat) : best h s n < 18446744073709551616 := by
  induction n with
  | zero => unfold best; omega
  | succ n ih => rw [best_succ]; have := mk_lt h s n; omega
/-- has a server of this number and weight slots? -/
def fits (s wt : Int) : Prop := 1 ≤ wt ∧ wt ≤ 64 ∧ 0 ≤ s ∧ s < 65536
instance (s wt : Int) : Decidable (fits s wt) := by unfold fits; infer_instance
def score (h : Nat) (s wt : Int) : Nat := if fits s wt then best h s.toNat wt.toNat else 0
theorem score_lt (h : Nat) (s wt : Int) : score h s wt < 18446744073709551616 := by
  unfold score; split
  · exact best_lt _ _ _
  · omega

theorem or_join (s j : Nat) (hs : s < 65536) (hj : j < 4294967296) : bits .or .u64 ((s : Int) * 4294967296) (j : Int) = ((s * 4294967296 + j : Nat) : Int) := by
  have h := u64_or_nat (s * 4294967296) j (by omega) (by omega)
  rw [nat_join 32 _ _ (by omega) (by omega)] at h
  rw [← h, Int.natCast_mul]
  rfl

theorem Parts.two {w : World} {v1 v2 : Value} {b1 b2 : List Nat} (h1 : Sees w v1 b1) (h2 : Sees w v2 b2) (t : TypeId) : Parts (w.alloc (.cells #[v1, v2] t)) (.slice (some ⟨w.heap.size, 0, none⟩) 2 2) [(v1, b1), (v2, b2)] := by
  refine ⟨_, 2, rfl, by simp, by simp [maxLen], ?_, Or.inr ⟨w.heap.size, 0, rfl, by simp, ?_⟩⟩
  · intro p hp
    simp at hp
    rcases hp with rfl | rfl
    · exact h1.kept ((Kept.refl [] w).alloc _) (Or.inr (by simp))
    · exact h2.kept ((Kept.refl [] w).alloc _) (Or.inr (by simp))
  · intro j p hp
    have hj : j < 2 := by simpa using (List.getElem?_eq_some_iff.1 hp).1
    rw [(Blk.new w #[v1, v2] t).cell]
    rcases (show j = 0 ∨ j = 1 by omega) with rfl | rfl
    · simp at hp; subst hp; rfl
    · simp at hp; subst hp; rfl
theorem catP_two (v1 v2 : Value) (b1 b2 : List Nat) : catP [(v1, b1), (v2, b2)] = b1 ++ b2 := by simp [catP]
theorem Parts.drew {w : World} {v : Value} {ps : List (Value × List Nat)} (h : Parts w v ps) : Parts w.drew v ps := h

set_option maxRecDepth 100000 in
set_option maxHeartbeats 1000000 in
theorem mark_any (w : World) (h s j : Nat) (hh : h < 18446744073709551616) (hs : s < 65536) (hj : j < 4294967296) :
    Calls Try.prog 17 #[.int .u64 h, .int .i64 s, .int .i64 j] w fun e w' => e = .returned (.int .u64 (mk h s j : Nat)) ∧ Kept [] w w' := by
  have H8 := hide (fun w => eight_any w h hh)
  have H8b := hide (fun w => eight_any w (s * 4294967296 + j) (by omega))
  have HI : Hid (∀ n, (Try.prog.info? 50).map (·.size) = some (u8s (be 8 n)).toArray.size) := fun n => info8s (be_length 8 n)
  have HO : Hid (∀ n, (u8s (be 8 n)).toArray.all (·.oneCell') = true) := fun n => u8s_all _
  have HZ : Hid (∀ n, (u8s (be 8 n)).toArray.size = 8) := fun n => by simp [u8s, be_length]
  have HM : Hid (mk h s j = marks fnv0 (be 8 h ++ be 8 (s * 4294967296 + j))) := rfl
  have e1 : IntKind.u64.wrap ((s : Int) * 4294967296) = (s : Int) * 4294967296 := by rw [IntKind.wrap_u64]; omega
  have e3 : IntKind.u64.wrap (s : Int) = (s : Int) := by rw [IntKind.wrap_u64]; omega
  have e4 : IntKind.u64.wrap (j : Int) = (j : Int) := by rw [IntKind.wrap_u64]; omega
  have e2 : bits .or .u64 ((s : Int) * 4294967296) (j : Int) = ((s * 4294967296 + j : Nat) : Int) := or_join s j hs hj
  generalize hR : mk h s j = R at *
  generalize hT : s * 4294967296 + j = T at *
  clear hR hT
  go_enter Try.func17, Try.ntmps17
  go_wp2_with fail
  refine (unhide H8 _).mono ?_
  rintro e w1 ⟨rfl, hk1⟩
  have HK1 := hide hk1
  clear hk1 H8
  have HU : Hid (∃ X, X = (u8s (be 8 h)).toArray) := ⟨_, rfl⟩
  go_wp2_with fail
  refine (unhide H8b _).mono ?_
  rintro e w2 ⟨rfl, hk2⟩
  have HK2 : Hid (Kept [] w w2) := (unhide HK1).trans hk2 (by simp)
  clear hk2 H8b HK1 HU
  go_wp2_with (first
    | (guard_target =~ wpList _ _ _ _ _ _; refine wpList_store_arr _ _ 50 rfl rfl w2.heap.size _ (u8s (be 8 h)).toArray rfl rfl ((Blk.new _ _ _).alloc _) (unhide HI _) (by rw [unhide HZ]; rfl) (unhide HO _) rfl ?_)
    | (guard_target =~ wpList _ _ _ _ _ _; refine wpList_store_arr _ _ 50 rfl rfl (w2.heap.size + 1) _ (u8s (be 8 T)).toArray rfl rfl (Blk.rowOther (by simpa using Blk.new (w2.alloc _) _ 50) (by omega)) (unhide HI _) (by rw [unhide HZ]; rfl) (unhide HO _) rfl ?_))
  refine world_at (R := fun wr => Blk wr w2.heap.size (u8s (be 8 h)).toArray 50 ∧ Blk wr (w2.heap.size + 1) (u8s (be 8 T)).toArray 50 ∧ Kept [] w wr) ⟨?_, ?_, ?_⟩ ?_
  · exact (Blk.row ((Blk.new _ _ _).alloc _)).rowOther (by omega)
  · exact (Blk.rowOther (by simpa using Blk.new (w2.alloc _) _ 50) (by omega)).row
  · exact ((((unhide HK2).alloc _).alloc _).row (Or.inr (unhide HK2).size) _).row (Or.inr (by have := (unhide HK2).size; omega)) _
  rintro wr ⟨hb1, hb2, hk⟩
  have HK := hide hk
  have s1 : Sees wr (.slice (some ⟨w2.heap.size, 0, none⟩) 8 8) (be 8 h) := Sees.of_blk (be_length 8 _) hb1 (be_bytes 8 _) 8 (by omega) (by omega)
  have s2 : Sees wr (.slice (some ⟨w2.heap.size + 1, 0, none⟩) 8 8) (be 8 T) := Sees.of_blk (be_length 8 _) hb2 (be_bytes 8 _) 8 (by omega) (by omega)
  have HF := hide (fnv_any (Parts.two s1 s2 53).drew)
  rw [catP_two, ← unhide HM] at HF
  have HK3 : Hid (Kept [] w (wr.alloc (.cells #[.slice (some ⟨w2.heap.size, 0, none⟩) 8 8, .slice (some ⟨w2.heap.size + 1, 0, none⟩) 8 8] 53)).drew) := (hk.alloc _).drew
  clear s1 s2 hb1 hb2 hk HM HI HO HZ
  go_region_with (go_at_call 24; refine (unhide HF).mono ?_; rintro e w3 ⟨rfl, hq⟩; have hq' := hq.symm; subst hq')
  all_goals
    go_wp2
    go_ret
    exact ⟨rfl, unhide HK3⟩

set_option maxRecDepth 100000 in
theorem weighs_any (w : World) (wt : Int) :
    Calls Try.prog 11 #[.int .i64 wt] w fun e w' => e = .returned (.bool (decide (1 ≤ wt ∧ wt ≤ 64))) ∧ w' = w := by
  by_cases h1 : 1 ≤ wt
  · by_cases h2 : wt ≤ 64
    · rw [decide_eq_true (⟨h1, h2⟩ : 1 ≤ wt ∧ wt ≤ 64)]
      go_enter Try.func11, Try.ntmps11
      go_wp2
      go_ret
      exact ⟨rfl, rfl⟩
    · rw [decide_eq_false (fun h : 1 ≤ wt ∧ wt ≤ 64 => h2 h.2)]
      go_enter Try.func11, Try.ntmps11
      go_wp2
      go_ret
      exact ⟨rfl, rfl⟩
  · rw [decide_eq_false (fun h : 1 ≤ wt ∧ wt ≤ 64 => h1 h.1)]
    go_enter Try.func11, Try.ntmps11
    go_wp2
    go_ret
    exact ⟨rfl, rfl⟩

set_option maxRecDepth 100000 in
set_option maxHeartbeats 1000000 in
theorem score_any (w : World) (h : Nat) (s wt : Int) (hh : h < 18446744073709551616) :
    Calls Try.prog 12 #[.int .u64 h, .int .i64 s, .int .i64 wt] w fun e w' => e = .returned (.int .u64 (score h s wt : Nat)) ∧ Kept [] w w' := by
  have HW := hide (fun w => weighs_any w wt)
  by_cases hf : fits s wt
  · obtain ⟨f1, f2, f3, f4⟩ := hf
    obtain ⟨s', rfl⟩ := Int.eq_ofNat_of_zero_le f3
    obtain ⟨n, rfl⟩ := Int.eq_ofNat_of_zero_le (show 0 ≤ wt by omega)
    have HR : Hid (score h s' n = best h s' n) := by unfold Hid score; rw [if_pos ⟨f1, f2, f3, f4⟩]; simp
    rw [decide_eq_true (⟨f1, f2⟩ : 1 ≤ (n : Int) ∧ (n : Int) ≤ 64)] at HW
    have HM := hide (fun w j hj => mark_any w h s' j hh (by omega) hj)
    have t3 : ((s' : Int) < 0) = False := by simp
    have t4 : ((65536 : Int) ≤ (s' : Int)) = False := by simp; omega
    have hn64 : n ≤ 64 := by omega
    clear f1 f2 f3 f4
    go_enter Try.func12, Try.ntmps12
    go_wp2_with (first | (go_at_call 11; refine (unhide HW _).mono ?_; rintro e w1 ⟨rfl, hq⟩; have hq' := hq.symm; subst hq'))
    go_loopw [7, 21] (fun r i wr => ∃ k : Nat, k ≤ n ∧ i = .int .i64 k ∧ r = .int .u64 (best h s' k : Nat) ∧ Kept [] w wr) (fun _ i _ => n - (intOf i).toNat)
    case atStart => exact ⟨0, by omega, rfl, rfl, Kept.refl _ _⟩
    case round =>
      obtain ⟨k, hk, rfl, rfl, hkp⟩ := hrel
      have HK := hide hkp
      clear hkp
      by_cases hkn : k < n
      · have HS := hide (best_succ h s' k)
        have HMk := hide (unhide HM wr k (by omega))
        generalize hbb : best h s' (k + 1) = B2 at HS
        have HBB := hide hbb
        clear hbb
        generalize mk h s' k = M at HS HMk
        generalize best h s' k = B at HS
        have t3 : (k : Int) < (n : Int) := by omega
        go_wp2_with (first | (go_at_call 17; refine (unhide HMk).mono ?_; rintro e w1 ⟨rfl, hk1⟩; have HK1 := hide hk1; clear hk1))
        refine ⟨⟨k + 1, by omega, by simp, ?_, (unhide HK).trans (unhide HK1) (by simp)⟩, by simp [intOf]; omega⟩
        rw [unhide HBB, unhide HS]
        by_cases hbm : B < M
        · rw [if_pos hbm, Nat.max_eq_right (by omega)]
        · rw [if_neg hbm, Nat.max_eq_left (by omega)]
      · obtain rfl : k = n := by omega
        have t3 : ¬ ((k : Int) < (k : Int)) := by omega
        go_wp2
        go_ret
        exact ⟨by rw [unhide HR]; rfl, unhide HK⟩
  · have HR : score h s wt = 0 := by unfold score; rw [if_neg hf]
    rw [HR]
    by_cases f1 : 1 ≤ wt ∧ wt ≤ 64
    · rw [decide_eq_true f1] at HW
      by_cases f3 : s < 0
      · go_enter Try.func12, Try.ntmps12
        go_wp2_with (first | (go_at_call 11; refine (unhide HW _).mono ?_; rintro e w1 ⟨rfl, hq⟩; have hq' := hq.symm; subst hq'))
        go_ret
        exact ⟨rfl, Kept.refl _ _⟩
      · have f4 : s ≥ 65536 := by unfold fits at hf; omega
        go_enter Try.func12, Try.ntmps12
        go_wp2_with (first | (go_at_call 11; refine (unhide HW _).mono ?_; rintro e w1 ⟨rfl, hq⟩; have hq' := hq.symm; subst hq'))
        go_ret
        exact ⟨rfl, Kept.refl _ _⟩
    · rw [decide_eq_false f1] at HW
      go_enter Try.func12, Try.ntmps12
      go_wp2_with (first | (go_at_call 11; refine (unhide HW _).mono ?_; rintro e w1 ⟨rfl, hq⟩; have hq' := hq.symm; subst hq'))
      go_ret
      exact ⟨rfl, Kept.refl _ _⟩
end Go.Proofs.Ytiafnfjgmfnnoab
