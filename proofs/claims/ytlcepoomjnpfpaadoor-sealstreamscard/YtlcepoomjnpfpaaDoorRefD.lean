/- The document's own reckoning of CRC, FNV, Back. -/
import Derived.Test.YtlcepoomjnpfpaaDoorOwn
import Derived.Test.YtlcepoomjnpfpaaDoorLin
namespace Go.Proofs.YtlcepoomjnpfpaaDoor
open Go.RowKit

set_option maxRecDepth 100000 in
set_option maxHeartbeats 400000 in
theorem rstep_any (v : Nat) (hv : v < 4294967296) (w : World) :
    Calls Tryd.prog 27 #[.int .u32 v] w fun e w' => e = .returned (.int .u32 (stp v : Nat)) ∧ w' = w := by
  have ha := and_one v hv
  go_enter Tryd.func27, Tryd.ntmps27
  go_wp2
  · rename_i hb
    go_ret
    exact ⟨by rw [← stp_of_one hv hb]; rfl, rfl⟩
  · rename_i hb
    go_ret
    exact ⟨by rw [← stp_of_zero hb]; rfl, rfl⟩

set_option maxRecDepth 100000 in
set_option maxHeartbeats 1000000 in
theorem rcrc_any {w : World} {v : Value} {bs : List Nat} (hs : Sees w v bs) :
    Calls Tryd.prog 12 #[v] w fun e w' => e = .returned (.int .u32 (crc bs : Nat)) ∧ w' = w := by
  obtain ⟨a, cap, rfl, h1, h2, h3, h4⟩ := hs
  have hcl : (4294967295 : Nat) < 4294967296 := by omega
  have HG : Hid (crc bs = cpl (takes 4294967295 bs)) := by
    unfold Hid crc grown
    rw [show cpl 0 = 4294967295 by decide]
  have H3 := hide h3
  have H4 := hide h4
  have hml : bs.length ≤ 9223372036854775807 := by unfold maxLen at h2; omega
  clear h3 h4
  generalize hL : bs.length = L at h1 hml
  have HL := hide hL
  clear hL
  go_enter Tryd.func12, Tryd.ntmps12
  go_wp2_with fail
  go_loop [3, 4] (fun r i => ∃ k : Nat, k ≤ L ∧ i = .int .i64 k ∧ r = .int .u32 (takes 4294967295 (bs.take k) : Nat)) (fun _ i => L - (intOf i).toNat)
  case atStart => exact ⟨0, by omega, rfl, rfl⟩
  case round =>
    obtain ⟨k, hk, rfl, rfl⟩ := hrel
    have hlt := takes_lt hcl (bs.take k) (fun b hb => unhide H3 b (List.mem_of_mem_take hb))
    by_cases hkl : k < L
    · obtain ⟨b, off, rfl, hc⟩ := at_sees (unhide HL) (unhide H4) hkl
      have hx := getD_lt (unhide H3) (show k < bs.length by rw [unhide HL]; exact hkl)
      have HE : Hid (takes 4294967295 (bs.take (k + 1)) = take1 (takes 4294967295 (bs.take k)) (bs.getD k 0)) := takes_succ _ bs k (by rw [unhide HL]; exact hkl)
      generalize bs.getD k 0 = x at hc HE hx
      generalize takes 4294967295 (bs.take k) = r at hlt HE
      have e1 := u32_xor_nat r x hlt (by omega)
      have l1 : r ^^^ x < 4294967296 := Nat.xor_lt_two_pow (n := 32) hlt (by omega)
      have HE2 : Hid (takes 4294967295 (bs.take (k + 1)) = stps 8 (r ^^^ x)) := unhide HE
      clear HE
      generalize r ^^^ x = y at e1 l1 HE2
      go_wp2_with fail
      go_loop [3, 5] (fun r2 i2 => ∃ j : Nat, j ≤ 8 ∧ i2 = .int .i64 j ∧ r2 = .int .u32 (stps j y : Nat)) (fun _ i2 => 8 - (intOf i2).toNat)
      case atStart => exact ⟨0, by omega, rfl, rfl⟩
      case round =>
        obtain ⟨j, hj, rfl, rfl⟩ := hrel
        by_cases hjl : j < 8
        · have l2 := stps_lt j l1
          have HST := hide (rstep_any _ l2)
          rw [← stps_succ'] at HST
          generalize hz : stps (j + 1) y = z at HST
          have HZ := hide hz
          clear hz
          generalize stps j y = t at l2 HST
          go_wp2_with (first | (go_at_call 27; refine (unhide HST _).mono ?_; rintro e w' ⟨rfl, rfl⟩))
          exact ⟨⟨j + 1, by omega, by simp, by rw [unhide HZ]⟩, by simp [intOf]; omega⟩
        · obtain rfl : j = 8 := by omega
          go_wp2
          exact ⟨⟨k + 1, by omega, by simp, by rw [unhide HE2]⟩, by simp [intOf]; omega⟩
    · obtain rfl : k = L := by omega
      have hfull : bs.take k = bs := by rw [← unhide HL, List.take_length]
      rw [hfull] at hlt ⊢
      have e4 : bits .xor .u32 ((takes 4294967295 bs : Nat) : Int) 4294967295 = (cpl (takes 4294967295 bs) : Nat) := u32_xor_nat _ 4294967295 hlt (by omega)
      rw [← unhide HG] at e4
      generalize hgg : crc bs = g at e4
      have HGG := hide hgg
      clear hgg
      generalize takes 4294967295 bs = q at hlt e4
      go_wp2
      go_ret
      exact ⟨by rw [unhide HGG]; rfl, rfl⟩

set_option maxRecDepth 100000 in
set_option maxHeartbeats 400000 in
theorem rtaken_any {w : World} {v : Value} {bs : List Nat} (hs : Sees w v bs) (h : Nat) (hh : h < 18446744073709551616) :
    Calls Tryd.prog 31 #[.int .u64 h, v] w fun e w' => e = .returned (.int .u64 (marks h bs : Nat)) ∧ w' = w := by
  obtain ⟨a, cap, rfl, h1, h2, h3, h4⟩ := hs
  have H3 := hide h3
  have H4 := hide h4
  have hml : bs.length ≤ 9223372036854775807 := by unfold maxLen at h2; omega
  clear h3 h4
  generalize hL : bs.length = L at h1 hml
  have HL := hide hL
  clear hL
  go_enter Tryd.func31, Tryd.ntmps31
  go_wp2_with fail
  go_loop [0, 5] (fun r i => ∃ j : Nat, j ≤ L ∧ i = .int .i64 j ∧ r = .int .u64 (marks h (bs.take j) : Nat)) (fun _ i => L - (intOf i).toNat)
  case atStart => exact ⟨0, by omega, rfl, rfl⟩
  case round =>
    obtain ⟨j, hj, rfl, rfl⟩ := hrel
    have hl2 := marks_lt hh (bs.take j)
    by_cases hjl : j < L
    · obtain ⟨pb, poff, rfl, hpc⟩ := at_sees (unhide HL) (unhide H4) hjl
      have hx := getD_lt (unhide H3) (show j < bs.length by rw [unhide HL]; exact hjl)
      have HS := hide (marks_succ h bs j (by rw [unhide HL]; exact hjl))
      generalize bs.getD j 0 = x at hpc hx HS
      generalize marks h (bs.take j) = r at hl2 HS
      have e1 := u64_xor_nat r x hl2 (by omega)
      have HS2 : Hid (marks h (bs.take (j + 1)) = (r ^^^ x) * 1099511628211 % 18446744073709551616) := by
        have := unhide HS
        unfold mark1 at this
        exact this
      clear HS
      generalize r ^^^ x = y at e1 HS2
      go_wp2
      exact ⟨⟨j + 1, by omega, by simp, by rw [unhide HS2]; exact congrArg (Value.int .u64) (wrap_mul y 1099511628211)⟩, by simp [intOf]; omega⟩
    · obtain rfl : j = L := by omega
      have hfull : bs.take j = bs := by rw [← unhide HL, List.take_length]
      rw [hfull]
      go_wp2
      go_ret
      exact ⟨rfl, rfl⟩

set_option maxRecDepth 100000 in
set_option maxHeartbeats 400000 in
theorem rfnv_any {w : World} {v : Value} {ps : List (Value × List Nat)} (hs : Parts w v ps) :
    Calls Tryd.prog 23 #[v] w fun e w' => e = .returned (.int .u64 (marks fnv0 (catP ps) : Nat)) ∧ w' = w := by
  obtain ⟨a, cap, rfl, h1, h2, h3, h4⟩ := hs
  have hml : ps.length ≤ 9223372036854775807 := by unfold maxLen at h2; omega
  have H3 := hide h3
  have H4 := hide h4
  clear h3 h4
  generalize hL : ps.length = L at *
  have HL := hide hL
  clear hL
  go_enter Tryd.func23, Tryd.ntmps23
  go_wp2_with fail
  go_loop [3, 4] (fun r i => ∃ k : Nat, k ≤ L ∧ i = .int .i64 k ∧ r = .int .u64 (marks fnv0 (catP (ps.take k)) : Nat)) (fun _ i => L - (intOf i).toNat)
  case atStart => exact ⟨0, by omega, rfl, rfl⟩
  case round =>
    obtain ⟨k, hk, rfl, rfl⟩ := hrel
    have hlt : marks fnv0 (catP (ps.take k)) < 18446744073709551616 := marks_lt (by unfold fnv0; omega) _
    by_cases hkl : k < L
    · have hk2 : k < ps.length := by rw [unhide HL]; exact hkl
      obtain ⟨b, off, hc⟩ : ∃ b off, a = some ⟨b, off, none⟩ ∧ w.cell? ⟨b, off + k, none⟩ = some (ps[k].1) := by
        rcases unhide H4 with h | ⟨b, off, q1, _, q3⟩
        · subst h; simp at hk2
        · exact ⟨b, off, q1, q3 k ps[k] (List.getElem?_eq_getElem hk2)⟩
      obtain ⟨rfl, hc⟩ := hc
      have HTK := hide (rtaken_any (unhide H3 ps[k] (List.getElem_mem hk2)) _ hlt)
      obtain ⟨pa, pc, hpv, -⟩ := unhide H3 ps[k] (List.getElem_mem hk2)
      rw [hpv] at hc HTK
      have HE : Hid (marks fnv0 (catP (ps.take (k + 1))) = marks (marks fnv0 (catP (ps.take k))) ps[k].2) := by
        have := catP_succ ps k hk2
        unfold Hid
        rw [this, marks_append]
      rw [← unhide HE] at HTK
      clear hpv
      generalize ps[k].2.length = M at hc HTK
      generalize hmm : marks fnv0 (catP (ps.take (k + 1))) = m1 at HTK
      have HMM := hide hmm
      clear hmm HE
      generalize marks fnv0 (catP (ps.take k)) = m0 at hlt HTK
      go_wp2_with (first | (go_at_call 31; refine (unhide HTK).mono ?_; rintro e w' ⟨rfl, hq⟩; have hq' := hq.symm; subst hq'))
      exact ⟨⟨k + 1, by omega, by simp, by rw [unhide HMM]⟩, by simp [intOf]; omega⟩
    · obtain rfl : k = L := by omega
      have hfull : ps.take k = ps := by rw [← unhide HL, List.take_length]
      rw [hfull]
      go_wp2
      go_ret
      exact ⟨rfl, rfl⟩

/-- a round of the inverse -/
def inv1 (x : Nat) : Nat := x * ((18446744073709551618 - 1099511628211 * x % 18446744073709551616) % 18446744073709551616) % 18446744073709551616
def invs : Nat → Nat
  | 0 => 1099511628211
  | n + 1 => inv1 (invs n)
theorem invs_six : invs 6 = 14886173955864302971 := by decide +kernel
theorem inv1_wrap (x : Nat) : IntKind.u64.wrap ((x : Int) * IntKind.u64.wrap (2 - IntKind.u64.wrap (1099511628211 * (x : Int)))) = (inv1 x : Nat) := by
  have h1 : IntKind.u64.wrap (1099511628211 * (x : Int)) = ((1099511628211 * x % 18446744073709551616 : Nat) : Int) := by
    rw [IntKind.wrap_u64]; simp
  have h2 : 1099511628211 * x % 18446744073709551616 < 18446744073709551616 := Nat.mod_lt _ (by omega)
  have h3 : IntKind.u64.wrap (2 - ((1099511628211 * x % 18446744073709551616 : Nat) : Int)) = (((18446744073709551618 - 1099511628211 * x % 18446744073709551616) % 18446744073709551616 : Nat) : Int) := by
    rw [IntKind.wrap_u64]
    generalize 1099511628211 * x % 18446744073709551616 = y at h2
    omega
  rw [h1, h3, wrap_mul]
  unfold inv1
  rfl
theorem invs_lt (n : Nat) : invs n < 18446744073709551616 := by
  cases n with
  | zero => simp [invs]
  | succ n => exact Nat.mod_lt _ (by omega)

set_option maxRecDepth 100000 in
set_option maxHeartbeats 400000 in
theorem inverse_any (w : World) :
    Calls Tryd.prog 32 #[.int .u64 1099511628211] w fun e w' => e = .returned (.int .u64 14886173955864302971) ∧ w' = w := by
  go_enter Tryd.func32, Tryd.ntmps32
  go_wp2_with fail
  go_loop [3, 4] (fun r i => ∃ k : Nat, k ≤ 6 ∧ i = .int .i64 k ∧ r = .int .u64 (invs k : Nat)) (fun _ i => 6 - (intOf i).toNat)
  case atStart => exact ⟨0, by omega, rfl, rfl⟩
  case round =>
    obtain ⟨k, hk, rfl, rfl⟩ := hrel
    by_cases hkl : k < 6
    · have hl := invs_lt k
      have hw := inv1_wrap (invs k)
      have HS : Hid (invs (k + 1) = inv1 (invs k)) := by unfold Hid; rw [invs]
      rw [← unhide HS] at hw
      generalize hz : invs (k + 1) = z at hw
      have HZ := hide hz
      clear hz
      generalize invs k = x at hl hw
      go_wp2
      exact ⟨⟨k + 1, by omega, by simp, by rw [unhide HZ]⟩, by simp [intOf]; omega⟩
    · obtain rfl : k = 6 := by omega
      rw [invs_six]
      go_wp2
      go_ret
      exact ⟨rfl, rfl⟩

set_option maxRecDepth 100000 in
set_option maxHeartbeats 1000000 in
theorem rback_any {w : World} {v : Value} {bs : List Nat} (hs : Sees w v bs) (h : Nat) (hh : h < 18446744073709551616) :
    Calls Tryd.prog 24 #[.int .u64 h, v] w fun e w' => e = .returned (.int .u64 (backs h bs : Nat)) ∧ w' = w := by
  obtain ⟨a, cap, rfl, h1, h2, h3, h4⟩ := hs
  have hml : bs.length ≤ 9223372036854775807 := by unfold maxLen at h2; omega
  have H3 := hide h3
  have H4 := hide h4
  clear h3 h4
  generalize hL : bs.length = L at h1 hml
  have HL := hide hL
  clear hL
  go_enter Tryd.func24, Tryd.ntmps24
  go_wp2_with (first | (go_at_call 32; refine (inverse_any _).mono ?_; rintro e w' ⟨rfl, hq⟩; have hq' := hq.symm; subst hq'))
  go_loop [0, 6] (fun r i => ∃ k : Nat, k ≤ L ∧ i = .int .i64 ((k : Int) - 1) ∧ r = .int .u64 (backs h (bs.drop k) : Nat)) (fun _ i => (intOf i + 1).toNat)
  case atStart =>
    refine ⟨L, by omega, ?_, ?_⟩
    · first | rfl | (simp; omega) | (simp [IntKind.wrap_i64]; omega)
    · rw [← unhide HL, List.drop_length]; rfl
  case round =>
    obtain ⟨k, hk, rfl, rfl⟩ := hrel
    by_cases hpos : 0 < k
    · obtain ⟨m, rfl⟩ : ∃ m, k = m + 1 := ⟨k - 1, by omega⟩
      have em : ((m + 1 : Nat) : Int) - 1 = (m : Int) := by omega
      rw [em]
      have hl := backs_lt hh (bs.drop (m + 1)) (fun b hb => unhide H3 b (List.mem_of_mem_drop hb))
      obtain ⟨b, off, rfl, hc⟩ := at_sees (unhide HL) (unhide H4) (show m < L by omega)
      have hx := getD_lt (unhide H3) (show m < bs.length by rw [unhide HL]; omega)
      have HS : Hid (backs h (bs.drop m) = back1 (bs.getD m 0) (backs h (bs.drop (m + 1)))) := by
        unfold Hid
        rw [drop_at (show m < bs.length by rw [unhide HL]; omega), backs_cons]
      generalize bs.getD m 0 = x at hc hx HS
      generalize backs h (bs.drop (m + 1)) = r at hl HS
      have w1 := wrap_mul r 14886173955864302971
      have hm : r * 14886173955864302971 % 18446744073709551616 < 18446744073709551616 := Nat.mod_lt _ (by omega)
      have HS2 : Hid (backs h (bs.drop m) = (r * 14886173955864302971 % 18446744073709551616) ^^^ x) := by
        have := unhide HS
        unfold back1 at this
        exact this
      clear HS
      generalize r * 14886173955864302971 % 18446744073709551616 = y at w1 hm HS2
      have w2 : IntKind.u64.wrap ((r : Int) * 14886173955864302971) = (y : Int) := w1
      have e1 := u64_xor_nat y x hm (by omega)
      generalize y ^^^ x = z at e1 HS2
      have t1 : (0 : Int) ≤ (m : Int) := by omega
      clear em w1
      go_wp2
      exact ⟨⟨m, by omega, rfl, by rw [unhide HS2]⟩, by first | (simp [intOf]; done) | (simp [intOf]; omega)⟩
    · obtain rfl : k = 0 := by omega
      go_wp2
      go_ret
      exact ⟨rfl, rfl⟩
end Go.Proofs.YtlcepoomjnpfpaaDoor
