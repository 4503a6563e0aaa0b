/- The document's words: eight bytes, where a real number stands. -/
import Derived.Test.YtigmofbammofbaaKRefE
import Derived.Test.YtigmofbammofbaaKLayW
namespace Go.Proofs.Ytigmofbammofbaa
open Go.RowKit

set_option maxRecDepth 100000 in
set_option maxHeartbeats 400000 in
theorem rturned_any (x : Nat) (hx : x < 18446744073709551616) (w : World) : Calls Try.prog 39 #[.int .u64 (x : Int)] w fun e w' => e = .returned (.int .u64 (placeR x : Nat)) ∧ w' = w := by
  have HC := hide (rclean_any x hx w)
  have hc := canon_lt hx
  have HP : Hid (placeR x = turnN (canon x)) := rfl
  generalize canon x = c at *
  by_cases h1 : c < 9223372036854775808
  · have HQ : Hid (turnN c = c + 9223372036854775808) := (by unfold Hid turnN top; rw [if_pos h1])
    have t1 : ((c : Int) < 9223372036854775808) = True := by simp; omega
    go_enter Try.func39, Try.ntmps39
    go_wp2_with (first | (go_at_call 50; refine (unhide HC).mono ?_; rintro e w1 ⟨rfl, hq⟩; have hq' := hq.symm; subst hq'))
    go_ret
    exact ⟨by rw [unhide HP, unhide HQ]; congr 2, rfl⟩
  · have HQ : Hid (turnN c = 18446744073709551615 - c) := (by unfold Hid turnN top; rw [if_neg h1])
    have t1 : ((c : Int) < 9223372036854775808) = False := by simp; omega
    go_enter Try.func39, Try.ntmps39
    go_wp2_with (first | (go_at_call 50; refine (unhide HC).mono ?_; rintro e w1 ⟨rfl, hq⟩; have hq' := hq.symm; subst hq'))
    go_ret
    exact ⟨by rw [unhide HP, unhide HQ, show ((18446744073709551615 - c : Nat) : Int) = 18446744073709551615 - (c : Int) by omega]; rfl, rfl⟩

theorem own_none (w : World) : w.ownsRow w.heap.size 5 1 (.slice none 0 0) 0 (u8s []) := ⟨rfl, Or.inl ⟨rfl, rfl⟩⟩

set_option maxRecDepth 100000 in
set_option maxHeartbeats 2000000 in
theorem eight_any (m : Nat) (w : World) :
    Calls Try.prog 38 #[.int .u64 (m : Int)] w fun e w' => ∃ a' cap', e = .returned (.slice a' 8 cap') ∧ LayS w.heap.size w (.slice none 0 0) w' (.slice a' 8 cap') (be8 m) := by
  have hB : w.heap.size ≤ w.heap.size := Nat.le_refl _
  go_enter Try.func38, Try.ntmps38
  go_wp2_with fail
  go_loopw [3, 4] (fun p i wr => ∃ (k : Nat) (a' : Option Addr) (cap' : Nat), k ≤ 8 ∧ i = .int .i64 ((7 : Int) - (k : Int)) ∧ p = .slice a' k cap' ∧ LayS w.heap.size w (.slice none 0 0) wr (.slice a' k cap') ((be8 m).take k)) (fun _ i _ => (intOf i + 1).toNat)
  case atStart => exact ⟨0, none, 0, by omega, rfl, rfl, LayS.refl (own_none w)⟩
  case round =>
    obtain ⟨k, a', cap', hk, rfl, rfl, hls⟩ := hrel
    have HLS := hide hls
    clear hls
    by_cases hk8 : k < 8
    · have t1 : (k : Int) ≤ 7 := by omega
      have HBT := hide (be8_take m k hk8)
      obtain ⟨q, hq0⟩ : ∃ q, q = m / 2 ^ (56 - 8 * k) % 256 := ⟨_, rfl⟩
      have hq : (m : Int) / 2 ^ (8 * (7 - k)) % 256 = (q : Int) := by rw [hq0, show 56 - 8 * k = 8 * (7 - k) by omega]; push_cast; rfl
      have hq1 : q < 256 := by rw [hq0]; omega
      rw [← hq0] at HBT
      clear hq0
      have HX : Hid (((be8 m).take k).length = k) := by unfold Hid; rw [List.length_take, be8_length]; omega
      have HX1 : Hid ((be8 m).take k ++ [q] = (be8 m).take (k + 1)) := by unfold Hid; rw [unhide HBT]
      have HX2 : Hid (((be8 m).take (k + 1)).length = k + 1) := by unfold Hid; rw [← unhide HX1, List.length_append, unhide HX]; rfl
      have HX3 : Hid (((be8 m).take k).length + [q].length ≤ 140737488355328) := by unfold Hid; rw [unhide HX]; simp; omega
      have HLA := hide ((unhide HLS).alloc (.cells #[.int .u8 (q : Int)] 5))
      have HS1 := hide (sees_one wr q hq1)
      go_wp2_with (at_builtin; refine wpList_append_lay _ rfl _ _ rfl rfl HLA rfl HS1 HX3 ((unhide HLA).hb hB) (k + 1) _ HX1 HX2 ?_)
      intro a2 c2 w2 HL2
      go_wp2
      exact ⟨⟨k + 1, a2, c2, by omega, by simp; omega, rfl, unhide HL2⟩, by simp [intOf]; omega⟩
    · obtain rfl : k = 8 := by omega
      go_wp2
      go_ret
      exact ⟨a', cap', rfl, unhide HLS⟩
end Go.Proofs.Ytigmofbammofbaa
