/- The law SealKnown, walked. -/
import Derived.Test.YtlcepoomjnpfpaaDoorKnown
import Derived.Test.YtlcepoomjnpfpaaDoorEq4
namespace Go.Proofs.YtlcepoomjnpfpaaDoor
open Go.RowKit

theorem num_ab : grown 0 [97, 98] = 3802278198 := by decide +kernel
theorem num_c : grown 3802278198 [99] = 910901175 := by decide +kernel
theorem num_j1 : stps (8 * (1 : Int).toNat) 3802278198 ^^^ 552285127 = 910901175 := by decide +kernel
theorem num_j2 : stps (8 * (0 : Int).toNat) 7 ^^^ 9 = 14 := by decide +kernel
theorem num_j3 : stps (8 * (-4 : Int).toNat) 7 ^^^ 9 = 14 := by decide +kernel
theorem num_t1 : stps (8 * (1 : Int).toNat) (stps 8 3) ^^^ 910901175 = 44865326 := by decide +kernel
theorem num_t2 : stps (8 * (0 : Int).toNat) (stps 8 1) ^^^ 0 = 4067132163 := by decide +kernel
theorem num_t3 : stps (8 * (-1 : Int).toNat) (stps 8 1) ^^^ 0 = 4067132163 := by decide +kernel
theorem num_tl : bytes4 (tailWord 910901175 0) = #[.int .u8 28, .int .u8 164, .int .u8 171, .int .u8 173] := by
  have : tailWord 910901175 0 = 2913707036 := by decide +kernel
  rw [this]; rfl
theorem num_bk : backs 16654208175385433931 [99] = 620445648566982762 := by decide +kernel

theorem kj1 (w : World) : Calls Tryd.prog 16 #[.int .u32 3802278198, .int .u32 552285127, .int .i64 1] w fun e w' => e = .returned (.int .u32 910901175) ∧ Kept [] w w' := by
  have := join_any 3802278198 552285127 (by omega) (by omega) 1 (by omega) (by omega) w
  rw [num_j1] at this; exact this
theorem kj2 (w : World) : Calls Tryd.prog 16 #[.int .u32 7, .int .u32 9, .int .i64 0] w fun e w' => e = .returned (.int .u32 14) ∧ Kept [] w w' := by
  have := join_any 7 9 (by omega) (by omega) 0 (by omega) (by omega) w
  rw [num_j2] at this; exact this
theorem kj3 (w : World) : Calls Tryd.prog 16 #[.int .u32 7, .int .u32 9, .int .i64 (-4)] w fun e w' => e = .returned (.int .u32 14) ∧ Kept [] w w' := by
  have := join_any 7 9 (by omega) (by omega) (-4) (by omega) (by omega) w
  rw [num_j3] at this; exact this
theorem kt1 (w : World) : Calls Tryd.prog 17 #[.int .u32 910901175, .int .i64 1, .int .u8 3] w fun e w' => e = .returned (.int .u32 44865326) ∧ Kept [] w w' := by
  have := turn_any 910901175 3 (by omega) (by omega) 1 (by omega) (by omega) w
  rw [num_t1] at this; exact this
theorem kt2 (w : World) : Calls Tryd.prog 17 #[.int .u32 0, .int .i64 0, .int .u8 1] w fun e w' => e = .returned (.int .u32 4067132163) ∧ Kept [] w w' := by
  have := turn_any 0 1 (by omega) (by omega) 0 (by omega) (by omega) w
  rw [num_t2] at this; exact this
theorem kt3 (w : World) : Calls Tryd.prog 17 #[.int .u32 0, .int .i64 (-1), .int .u8 1] w fun e w' => e = .returned (.int .u32 4067132163) ∧ Kept [] w w' := by
  have := turn_any 0 1 (by omega) (by omega) (-1) (by omega) (by omega) w
  rw [num_t3] at this; exact this
theorem ktl (w : World) : Calls Tryd.prog 18 #[.int .u32 910901175, .int .u32 0] w fun e w' => e = .returned (.agg #[.int .u8 28, .int .u8 164, .int .u8 171, .int .u8 173]) ∧ Kept [] w w' := by
  have := tail_any 910901175 0 (by omega) (by omega) w
  rw [num_tl] at this; exact this
theorem ktq (w : World) : (Op.equalIn 10000 44 (.agg #[.int .u8 28, .int .u8 164, .int .u8 171, .int .u8 173]) (.agg #[.int .u8 28, .int .u8 164, .int .u8 171, .int .u8 173])).run Tryd.prog w = .ok true w := by
  have := eql25_same (tailWord 910901175 0) w
  rw [num_tl] at this; exact this

set_option maxRecDepth 100000 in
set_option maxHeartbeats 1000000 in
theorem sealKnown_walk {w : World} (ht : Tab w) :
    Calls Tryd.prog 5 #[] w fun e w' => e = .returned (.bool true) ∧ Kept [] w w' := by
  have HT := hide ht
  clear ht
  go_enter Tryd.func5, Tryd.ntmps5
  go_wp2_with fail
  refine (write_nil _ _).mono ?_
  rintro e w1 ⟨rfl, rfl⟩
  go_wp2_with fail
  refine (newStream_any _).mono ?_
  rintro e w2 ⟨rfl, hs2, hk2, hb2⟩
  have HK2 : Hid (Kept [] w w2) := ((Kept.refl [] w).alloc _).trans hk2 (by simp)
  have HS2 := hide hs2
  clear hs2 hk2
  generalize hbq : (w.alloc _).heap.size = b at *
  have hbge : w.heap.size < b := by rw [← hbq]; simp
  clear hbq
  have h0w := (unhide HT).1
  have HT2 := hide ((unhide HT).kept (unhide HK2) (by simp))
  go_wp2_with fail
  refine (known_any (unhide HT2)).mono ?_
  rintro e w3 ⟨rfl, hk3⟩
  have HK3 := hide ((unhide HK2).trans hk3 (by simp))
  have HS3 : Hid (Str w3 b 0 0) := Blk.kept (unhide HS2) hk3 (by simp)
  have HT3 := hide ((unhide HT2).kept hk3 (by simp))
  have hb3 : b < w3.heap.size := Blk.lt (unhide HS3)
  clear hk3 HS2 HT2 HK2 hb2
  go_wp2_with fail
  refine (sum_nil _).mono ?_
  rintro e w' ⟨rfl, hq⟩
  have hq' := hq.symm
  subst hq'
  go_wp2_with fail
  refine (len_nil _).mono ?_
  rintro e w' ⟨rfl, hq⟩
  have hq' := hq.symm
  subst hq'
  go_wp2_with fail
  refine (sum_any (unhide HS3)).mono ?_
  rintro e w' ⟨rfl, hq⟩
  have hq' := hq.symm
  subst hq'
  go_wp2_with fail
  refine (len_any (unhide HS3)).mono ?_
  rintro e w' ⟨rfl, hq⟩
  have hq' := hq.symm
  subst hq'
  have hcv := conv1 w3
  go_wp2_with fail
  refine (write_any (bs := [97, 98]) (Blk.alloc (unhide HS3) _) ((unhide HT3).kept ((Kept.refl [] w3).alloc _) (by simp)) (Sees.of_row (n := 2) rfl (heap_alloc_new w3 _) (by decide) 2 (by omega) (by omega)) (by omega) (by simp)).mono ?_
  rintro e w4 ⟨rfl, hs4, hk4⟩
  rw [num_ab] at hs4
  have HS4 : Hid (Str w4 b 3802278198 2) := hs4
  have HK4 : Hid (Kept [] w w4) := ((unhide HK3).alloc _).trans hk4 (fun x hx => by simp at hx; subst hx; right; omega)
  have HT4 : Hid (Tab w4) := ((unhide HT3).kept ((Kept.refl [] w3).alloc _) (by simp)).kept hk4 (by simp; omega)
  clear hs4 hk4 hcv HS3 HT3 HK3 hb3
  go_wp2_with fail
  refine (sum_any (unhide HS4)).mono ?_
  rintro e w' ⟨rfl, hq⟩
  have hq' := hq.symm
  subst hq'
  have hcv := conv1 w4
  go_wp2_with fail
  refine (write_any (bs := [99]) (Blk.alloc (unhide HS4) _) ((unhide HT4).kept ((Kept.refl [] w4).alloc _) (by simp)) (Sees.of_row (n := 1) rfl (heap_alloc_new w4 _) (by decide) 1 (by omega) (by omega)) (by omega) (by simp)).mono ?_
  rintro e w5 ⟨rfl, hs5, hk5⟩
  rw [num_c] at hs5
  have HS5 : Hid (Str w5 b 910901175 3) := hs5
  have HK5 : Hid (Kept [] w w5) := ((unhide HK4).alloc _).trans hk5 (fun x hx => by simp at hx; subst hx; right; omega)
  clear hs5 hk5 hcv HS4 HT4 HK4
  go_wp2_with fail
  refine (sum_any (unhide HS5)).mono ?_
  rintro e w' ⟨rfl, hq⟩
  have hq' := hq.symm
  subst hq'
  go_wp2_with fail
  refine (len_any (unhide HS5)).mono ?_
  rintro e w' ⟨rfl, hq⟩
  have hq' := hq.symm
  subst hq'
  go_wp2_with fail
  refine (kj1 _).mono ?_
  rintro e w6 ⟨rfl, hk6⟩
  have HK6 := hide ((unhide HK5).trans hk6 (by simp))
  clear hk6 HK5 HS5
  go_wp2_with fail
  refine (kj2 _).mono ?_
  rintro e w7 ⟨rfl, hk7⟩
  have HK7 := hide ((unhide HK6).trans hk7 (by simp))
  clear hk7 HK6
  go_wp2_with fail
  refine (kj3 _).mono ?_
  rintro e w8 ⟨rfl, hk8⟩
  have HK8 := hide ((unhide HK7).trans hk8 (by simp))
  clear hk8 HK7
  go_wp2_with fail
  refine (kt1 _).mono ?_
  rintro e w9 ⟨rfl, hk9⟩
  have HK9 := hide ((unhide HK8).trans hk9 (by simp))
  clear hk9 HK8
  go_wp2_with fail
  refine (kt2 _).mono ?_
  rintro e w10 ⟨rfl, hk10⟩
  have HK10 := hide ((unhide HK9).trans hk10 (by simp))
  clear hk10 HK9
  go_wp2_with fail
  refine (kt3 _).mono ?_
  rintro e w11 ⟨rfl, hk11⟩
  have HK11 := hide ((unhide HK10).trans hk11 (by simp))
  clear hk11 HK10
  go_wp2_with fail
  refine (ktl _).mono ?_
  rintro e w12 ⟨rfl, hk12⟩
  have HK12 := hide ((unhide HK11).trans hk12 (by simp))
  clear hk12 HK11
  have hq4 := ktq w12
  have hcv := conv1 w12
  go_wp2_with fail
  refine (back_mark (bs := [99]) (Sees.of_row (n := 1) rfl (heap_alloc_new w12 _) (by decide) 1 (by omega) (by omega)) 16654208175385433931 (by omega)).mono ?_
  rintro e w' ⟨rfl, hq⟩
  have hq' := hq.symm
  subst hq'
  rw [num_bk]
  go_wp2
  go_ret
  exact ⟨rfl, (unhide HK12).alloc _⟩
end Go.Proofs.YtlcepoomjnpfpaaDoor
