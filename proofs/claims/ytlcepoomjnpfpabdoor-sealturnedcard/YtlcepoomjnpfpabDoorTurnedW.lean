/- The law SealTurned, walked. -/
import Derived.Test.YtlcepoomjnpfpabDoorRow
namespace Go.Proofs.YtlcepoomjnpfpabDoor
open Go.RowKit

theorem crc_lt {bs : List Nat} (h : ∀ b ∈ bs, b < 256) : crc bs < 4294967296 := cpl_lt (takes_lt (cpl_lt (by omega)) bs h)

/-- 'Turn' of a text's sum, at place k of L -/
theorem turn_at {bs : List Nat} {L k d : Nat} (hL : bs.length = L) (hb : ∀ b ∈ bs, b < 256) (hk : k < L) (hd : d < 256) (hl : L ≤ 9223372036854775807) (w : World) :
    Calls Tryd.prog 10 #[.int .u32 (crc bs : Nat), .int .i64 ((L : Int) - 1 - (k : Int)), .int .u8 (d : Nat)] w fun e w' => e = .returned (.int .u32 (crc (bs.set k (bs.getD k 0 ^^^ d)) : Nat)) ∧ Kept [] w w' := by
  have h1 := turn_any (crc bs) d (crc_lt hb) hd ((L : Int) - 1 - (k : Int)) (by omega) (by omega) w
  have e : ((L : Int) - 1 - (k : Int)).toNat = bs.length - 1 - k := by omega
  rw [crc_set (by omega), ← e]
  exact h1

set_option maxRecDepth 100000 in
set_option maxHeartbeats 1000000 in
theorem turned_walk {w : World} (ht : Tab w) {v : Value} {bs : List Nat} (hv : Sees w v bs) (hl : bs.length ≤ 140737488355328) (at' to' : Int) (d1 d2 : Nat) (hd1 : d1 < 256) (hd2 : d2 < 256) :
    Calls Tryd.prog 4 #[v, .int .i64 at', .int .u8 d1, .int .i64 to', .int .u8 d2] w fun e w' => e = .returned (.bool true) ∧ Kept [] w w' := by
  have HB0 : Hid (∀ b ∈ bs, b < 256) := by obtain ⟨_, _, _, _, _, h, _⟩ := hv; exact h
  have HT := hide ht
  have HV := hide hv
  have h0w := ht.1
  obtain ⟨p, pc, hpv, -⟩ := hv
  clear ht
  subst hpv
  go_enter Tryd.func4, Tryd.ntmps4
  go_wp2_with fail
  refine (known_any (unhide HT)).mono ?_
  rintro e w1 ⟨rfl, hk1⟩
  have HV1 : Hid (Sees w1 _ bs) := (unhide HV).kept hk1 (Or.inr (by simp))
  have HK1 := hide hk1
  clear hk1
  go_wp2_with fail
  refine (joined_any (unhide HV1) (Sees.nil w1) (by simpa using hl)).mono ?_
  rintro e w2 ⟨v2, rfl, ho2, hk2⟩
  rw [List.append_nil] at ho2
  obtain ⟨qa, qc, rfl⟩ := own_len ho2
  have HK0 := hide ((unhide HK1).trans hk2 (by simp))
  have hw1 := (unhide HK1).size
  clear hk2 HV HV1
  have hle : bs.length ≤ 9223372036854775807 := by omega
  generalize hL : bs.length = L at *
  have HL0 := hide hL
  have HO0 := hide ho2
  clear hL ho2
  have HT0 := hide ((unhide HT).kept (unhide HK0) (by simp))
  go_wp2_with fail
  refine (crc_any (unhide HT0) (Sees.of_own (by rw [unhide HL0]; exact unhide HO0) (unhide HB0))).mono ?_
  rintro e w' ⟨rfl, hq⟩
  have hq' := hq.symm
  subst hq'
  have hA : at' < 0 ∨ (∃ k : Nat, at' = (k : Int) ∧ k < L) ∨ (0 ≤ at' ∧ (L : Int) ≤ at') := by
    by_cases h : at' < 0
    · exact Or.inl h
    · by_cases h2 : at' < (L : Int)
      · exact Or.inr (Or.inl ⟨at'.toNat, by omega, by omega⟩)
      · exact Or.inr (Or.inr ⟨by omega, by omega⟩)
  have hB : to' < 0 ∨ (∃ k : Nat, to' = (k : Int) ∧ k < L) ∨ (0 ≤ to' ∧ (L : Int) ≤ to') := by
    by_cases h : to' < 0
    · exact Or.inl h
    · by_cases h2 : to' < (L : Int)
      · exact Or.inr (Or.inl ⟨to'.toNat, by omega, by omega⟩)
      · exact Or.inr (Or.inr ⟨by omega, by omega⟩)
  obtain ⟨BS0, hBS0⟩ : ∃ l, l = bs := ⟨_, rfl⟩
  subst hBS0
  rcases hA with hA | ⟨k, rfl, hk⟩ | ⟨hA1, hA2⟩
  · rcases hB with hB | ⟨j, rfl, hj⟩ | ⟨hB1, hB2⟩
    · go_wp2_with fail
      refine (crc_any (unhide HT0) (Sees.of_own (by rw [unhide HL0]; exact unhide HO0) (unhide HB0))).mono ?_
      rintro e w' ⟨rfl, hq⟩
      have hq' := hq.symm
      subst hq'
      go_wp2
      go_ret
      exact ⟨rfl, unhide HK0⟩
    · obtain ⟨g, cap, hqv, hge, hgl, hcap, hml⟩ := row_of_own (unhide HO0) (by omega)
      try cases hqv
      have hx := getD_lt (unhide HB0) (show j < BS0.length by rw [unhide HL0]; exact hj)
      have hce := own_cell (unhide HO0) (show j < BS0.length by rw [unhide HL0]; exact hj)
      have hfz := own_frozen (unhide HO0) j
      have HTU := hide (turn_at (unhide HL0) (unhide HB0) hj hd2 hle)
      have HOS := hide (own_set (unhide HO0) j (BS0.getD j 0 ^^^ d2))
      have HB5 : Hid (∀ b ∈ BS0.set j (BS0.getD j 0 ^^^ d2), b < 256) := set_bytes (unhide HB0) (Nat.xor_lt_two_pow (n := 8) hx hd2)
      have HL5 : Hid ((BS0.set j (BS0.getD j 0 ^^^ d2)).length = L) := by unfold Hid; rw [List.length_set]; exact unhide HL0
      generalize BS0.set j (BS0.getD j 0 ^^^ d2) = BS5 at HTU HOS HB5 HL5
      generalize BS0.getD j 0 = x at hx hce HOS
      have ex := u8_xor_nat x d2 hx hd2
      generalize x ^^^ d2 = y at ex HOS
      have hkl : (j : Int) < (L : Int) := by omega
      go_wp2_with fail
      refine (unhide HTU _).mono ?_
      rintro e W5 ⟨rfl, hkt⟩
      have HO5 := hide (own_kept (unhide HOS) hkt (by simp))
      have HK5 : Hid (Kept [] w W5) := ((unhide HK0).setCell (Or.inr (show w.heap.size ≤ g by omega)) _).trans hkt (by simp)
      have HT5 := hide ((unhide HT).kept (unhide HK5) (by simp))
      clear hkt hce hfz ex HOS hx HTU hkl
      go_wp2_with fail
      refine (crc_any (unhide HT5) (Sees.of_own (by rw [unhide HL5]; exact unhide HO5) (unhide HB5))).mono ?_
      rintro e w' ⟨rfl, hq⟩
      have hq' := hq.symm
      subst hq'
      go_wp2
      go_ret
      exact ⟨rfl, unhide HK5⟩
    · go_wp2_with fail
      refine (crc_any (unhide HT0) (Sees.of_own (by rw [unhide HL0]; exact unhide HO0) (unhide HB0))).mono ?_
      rintro e w' ⟨rfl, hq⟩
      have hq' := hq.symm
      subst hq'
      go_wp2
      go_ret
      exact ⟨rfl, unhide HK0⟩
  · obtain ⟨g, cap, hqv, hge, hgl, hcap, hml⟩ := row_of_own (unhide HO0) (by omega)
    try cases hqv
    have hx := getD_lt (unhide HB0) (show k < BS0.length by rw [unhide HL0]; exact hk)
    have hce := own_cell (unhide HO0) (show k < BS0.length by rw [unhide HL0]; exact hk)
    have hfz := own_frozen (unhide HO0) k
    have HTU := hide (turn_at (unhide HL0) (unhide HB0) hk hd1 hle)
    have HOS := hide (own_set (unhide HO0) k (BS0.getD k 0 ^^^ d1))
    have HB3 : Hid (∀ b ∈ BS0.set k (BS0.getD k 0 ^^^ d1), b < 256) := set_bytes (unhide HB0) (Nat.xor_lt_two_pow (n := 8) hx hd1)
    have HL3 : Hid ((BS0.set k (BS0.getD k 0 ^^^ d1)).length = L) := by unfold Hid; rw [List.length_set]; exact unhide HL0
    generalize BS0.set k (BS0.getD k 0 ^^^ d1) = BS3 at HTU HOS HB3 HL3
    generalize BS0.getD k 0 = x at hx hce HOS
    have ex := u8_xor_nat x d1 hx hd1
    generalize x ^^^ d1 = y at ex HOS
    have hkl : (k : Int) < (L : Int) := by omega
    go_wp2_with fail
    refine (unhide HTU _).mono ?_
    rintro e W3 ⟨rfl, hkt⟩
    have HO3 := hide (own_kept (unhide HOS) hkt (by simp))
    have HK3 : Hid (Kept [] w W3) := ((unhide HK0).setCell (Or.inr (show w.heap.size ≤ g by omega)) _).trans hkt (by simp)
    have HT3 := hide ((unhide HT).kept (unhide HK3) (by simp))
    clear hkt hce hfz ex HOS hx HTU hkl
    rcases hB with hB | ⟨j, rfl, hj⟩ | ⟨hB1, hB2⟩
    · go_wp2_with fail
      refine (crc_any (unhide HT3) (Sees.of_own (by rw [unhide HL3]; exact unhide HO3) (unhide HB3))).mono ?_
      rintro e w' ⟨rfl, hq⟩
      have hq' := hq.symm
      subst hq'
      go_wp2
      go_ret
      exact ⟨rfl, unhide HK3⟩
    · obtain ⟨g, cap, hqv, hge, hgl, hcap, hml⟩ := row_of_own (unhide HO3) (by omega)
      try cases hqv
      have hx := getD_lt (unhide HB3) (show j < BS3.length by rw [unhide HL3]; exact hj)
      have hce := own_cell (unhide HO3) (show j < BS3.length by rw [unhide HL3]; exact hj)
      have hfz := own_frozen (unhide HO3) j
      have HTU := hide (turn_at (unhide HL3) (unhide HB3) hj hd2 hle)
      have HOS := hide (own_set (unhide HO3) j (BS3.getD j 0 ^^^ d2))
      have HB5 : Hid (∀ b ∈ BS3.set j (BS3.getD j 0 ^^^ d2), b < 256) := set_bytes (unhide HB3) (Nat.xor_lt_two_pow (n := 8) hx hd2)
      have HL5 : Hid ((BS3.set j (BS3.getD j 0 ^^^ d2)).length = L) := by unfold Hid; rw [List.length_set]; exact unhide HL3
      generalize BS3.set j (BS3.getD j 0 ^^^ d2) = BS5 at HTU HOS HB5 HL5
      generalize BS3.getD j 0 = x at hx hce HOS
      have ex := u8_xor_nat x d2 hx hd2
      generalize x ^^^ d2 = y at ex HOS
      have hkl : (j : Int) < (L : Int) := by omega
      go_wp2_with fail
      refine (unhide HTU _).mono ?_
      rintro e W5 ⟨rfl, hkt⟩
      have HO5 := hide (own_kept (unhide HOS) hkt (by simp))
      have HK5 : Hid (Kept [] w W5) := ((unhide HK3).setCell (Or.inr (show w.heap.size ≤ g by omega)) _).trans hkt (by simp)
      have HT5 := hide ((unhide HT).kept (unhide HK5) (by simp))
      clear hkt hce hfz ex HOS hx HTU hkl
      go_wp2_with fail
      refine (crc_any (unhide HT5) (Sees.of_own (by rw [unhide HL5]; exact unhide HO5) (unhide HB5))).mono ?_
      rintro e w' ⟨rfl, hq⟩
      have hq' := hq.symm
      subst hq'
      go_wp2
      go_ret
      exact ⟨rfl, unhide HK5⟩
    · go_wp2_with fail
      refine (crc_any (unhide HT3) (Sees.of_own (by rw [unhide HL3]; exact unhide HO3) (unhide HB3))).mono ?_
      rintro e w' ⟨rfl, hq⟩
      have hq' := hq.symm
      subst hq'
      go_wp2
      go_ret
      exact ⟨rfl, unhide HK3⟩
  · rcases hB with hB | ⟨j, rfl, hj⟩ | ⟨hB1, hB2⟩
    · go_wp2_with fail
      refine (crc_any (unhide HT0) (Sees.of_own (by rw [unhide HL0]; exact unhide HO0) (unhide HB0))).mono ?_
      rintro e w' ⟨rfl, hq⟩
      have hq' := hq.symm
      subst hq'
      go_wp2
      go_ret
      exact ⟨rfl, unhide HK0⟩
    · obtain ⟨g, cap, hqv, hge, hgl, hcap, hml⟩ := row_of_own (unhide HO0) (by omega)
      try cases hqv
      have hx := getD_lt (unhide HB0) (show j < BS0.length by rw [unhide HL0]; exact hj)
      have hce := own_cell (unhide HO0) (show j < BS0.length by rw [unhide HL0]; exact hj)
      have hfz := own_frozen (unhide HO0) j
      have HTU := hide (turn_at (unhide HL0) (unhide HB0) hj hd2 hle)
      have HOS := hide (own_set (unhide HO0) j (BS0.getD j 0 ^^^ d2))
      have HB5 : Hid (∀ b ∈ BS0.set j (BS0.getD j 0 ^^^ d2), b < 256) := set_bytes (unhide HB0) (Nat.xor_lt_two_pow (n := 8) hx hd2)
      have HL5 : Hid ((BS0.set j (BS0.getD j 0 ^^^ d2)).length = L) := by unfold Hid; rw [List.length_set]; exact unhide HL0
      generalize BS0.set j (BS0.getD j 0 ^^^ d2) = BS5 at HTU HOS HB5 HL5
      generalize BS0.getD j 0 = x at hx hce HOS
      have ex := u8_xor_nat x d2 hx hd2
      generalize x ^^^ d2 = y at ex HOS
      have hkl : (j : Int) < (L : Int) := by omega
      go_wp2_with fail
      refine (unhide HTU _).mono ?_
      rintro e W5 ⟨rfl, hkt⟩
      have HO5 := hide (own_kept (unhide HOS) hkt (by simp))
      have HK5 : Hid (Kept [] w W5) := ((unhide HK0).setCell (Or.inr (show w.heap.size ≤ g by omega)) _).trans hkt (by simp)
      have HT5 := hide ((unhide HT).kept (unhide HK5) (by simp))
      clear hkt hce hfz ex HOS hx HTU hkl
      go_wp2_with fail
      refine (crc_any (unhide HT5) (Sees.of_own (by rw [unhide HL5]; exact unhide HO5) (unhide HB5))).mono ?_
      rintro e w' ⟨rfl, hq⟩
      have hq' := hq.symm
      subst hq'
      go_wp2
      go_ret
      exact ⟨rfl, unhide HK5⟩
    · go_wp2_with fail
      refine (crc_any (unhide HT0) (Sees.of_own (by rw [unhide HL0]; exact unhide HO0) (unhide HB0))).mono ?_
      rintro e w' ⟨rfl, hq⟩
      have hq' := hq.symm
      subst hq'
      go_wp2
      go_ret
      exact ⟨rfl, unhide HK0⟩
end Go.Proofs.YtlcepoomjnpfpabDoor
