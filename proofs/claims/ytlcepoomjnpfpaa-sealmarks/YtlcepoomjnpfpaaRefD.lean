/- The document's own reckoning of CRC, FNV, Back. -/
import Derived.Test.YtlcepoomjnpfpaaOwn
import Derived.Test.YtlcepoomjnpfpaaLin
namespace Go.Proofs.Ytlcepoomjnpfpaa
open Go.RowKit

set_option maxRecDepth 100000 in
set_option maxHeartbeats 400000 in
theorem rtaken_any {w : World} {v : Value} {bs : List Nat} (hs : Sees w v bs) (h : Nat) (hh : h < 18446744073709551616) :
    Calls Try.prog 21 #[.int .u64 h, v] w fun e w' => e = .returned (.int .u64 (marks h bs : Nat)) ∧ w' = w := by
  obtain ⟨a, cap, rfl, h1, h2, h3, h4⟩ := hs
  have H3 := hide h3
  have H4 := hide h4
  have hml : bs.length ≤ 9223372036854775807 := by unfold maxLen at h2; omega
  clear h3 h4
  generalize hL : bs.length = L at h1 hml
  have HL := hide hL
  clear hL
  go_enter Try.func21, Try.ntmps21
  go_wp2_with fail
  go_loop [0, 5] (fun r i => ∃ j : Nat, j ≤ L ∧ i = .int .i64 j ∧ r = .int .u64 (marks h (bs.take j) : Nat)) (fun _ i => L - (intOf i).toNat)
  case atStart => exact ⟨0, by omega, rfl, rfl⟩
  case round =>
    obtain ⟨j, hj, rfl, rfl⟩ := hrel
    have hl2 := marks_lt hh (bs.take j)
    by_cases hjl : j < L
    · obtain ⟨pb, poff, rfl, hpc⟩ := at_sees (unhide HL) (unhide H4) hjl
      have hx := getD_lt (unhide H3) (show j < bs.length by rw [unhide HL]; exact hjl)
      have HS := hide (marks_succ h bs j (by rw [unhide HL]; exact hjl))
      generalize bs.getD j 0 = x at hpc hx HS
      generalize marks h (bs.take j) = r at hl2 HS
      have e1 := u64_xor_nat r x hl2 (by omega)
      have HS2 : Hid (marks h (bs.take (j + 1)) = (r ^^^ x) * 1099511628211 % 18446744073709551616) := by
        have := unhide HS
        unfold mark1 at this
        exact this
      clear HS
      generalize r ^^^ x = y at e1 HS2
      go_wp2
      exact ⟨⟨j + 1, by omega, by simp, by rw [unhide HS2]; exact congrArg (Value.int .u64) (wrap_mul y 1099511628211)⟩, by simp [intOf]; omega⟩
    · obtain rfl : j = L := by omega
      have hfull : bs.take j = bs := by rw [← unhide HL, List.take_length]
      rw [hfull]
      go_wp2
      go_ret
      exact ⟨rfl, rfl⟩

set_option maxRecDepth 100000 in
set_option maxHeartbeats 400000 in
theorem rfnv_any {w : World} {v : Value} {ps : List (Value × List Nat)} (hs : Parts w v ps) :
    Calls Try.prog 12 #[v] w fun e w' => e = .returned (.int .u64 (marks fnv0 (catP ps) : Nat)) ∧ w' = w := by
  obtain ⟨a, cap, rfl, h1, h2, h3, h4⟩ := hs
  have hml : ps.length ≤ 9223372036854775807 := by unfold maxLen at h2; omega
  have H3 := hide h3
  have H4 := hide h4
  clear h3 h4
  generalize hL : ps.length = L at *
  have HL := hide hL
  clear hL
  go_enter Try.func12, Try.ntmps12
  go_wp2_with fail
  go_loop [3, 4] (fun r i => ∃ k : Nat, k ≤ L ∧ i = .int .i64 k ∧ r = .int .u64 (marks fnv0 (catP (ps.take k)) : Nat)) (fun _ i => L - (intOf i).toNat)
  case atStart => exact ⟨0, by omega, rfl, rfl⟩
  case round =>
    obtain ⟨k, hk, rfl, rfl⟩ := hrel
    have hlt : marks fnv0 (catP (ps.take k)) < 18446744073709551616 := marks_lt (by unfold fnv0; omega) _
    by_cases hkl : k < L
    · have hk2 : k < ps.length := by rw [unhide HL]; exact hkl
      obtain ⟨b, off, hc⟩ : ∃ b off, a = some ⟨b, off, none⟩ ∧ w.cell? ⟨b, off + k, none⟩ = some (ps[k].1) := by
        rcases unhide H4 with h | ⟨b, off, q1, _, q3⟩
        · subst h; simp at hk2
        · exact ⟨b, off, q1, q3 k ps[k] (List.getElem?_eq_getElem hk2)⟩
      obtain ⟨rfl, hc⟩ := hc
      have HTK := hide (rtaken_any (unhide H3 ps[k] (List.getElem_mem hk2)) _ hlt)
      obtain ⟨pa, pc, hpv, -⟩ := unhide H3 ps[k] (List.getElem_mem hk2)
      rw [hpv] at hc HTK
      have HE : Hid (marks fnv0 (catP (ps.take (k + 1))) = marks (marks fnv0 (catP (ps.take k))) ps[k].2) := by
        have := catP_succ ps k hk2
        unfold Hid
        rw [this, marks_append]
      rw [← unhide HE] at HTK
      clear hpv
      generalize ps[k].2.length = M at hc HTK
      generalize hmm : marks fnv0 (catP (ps.take (k + 1))) = m1 at HTK
      have HMM := hide hmm
      clear hmm HE
      generalize marks fnv0 (catP (ps.take k)) = m0 at hlt HTK
      go_wp2_with (first | (go_at_call 21; refine (unhide HTK).mono ?_; rintro e w' ⟨rfl, hq⟩; have hq' := hq.symm; subst hq'))
      exact ⟨⟨k + 1, by omega, by simp, by rw [unhide HMM]⟩, by simp [intOf]; omega⟩
    · obtain rfl : k = L := by omega
      have hfull : ps.take k = ps := by rw [← unhide HL, List.take_length]
      rw [hfull]
      go_wp2
      go_ret
      exact ⟨rfl, rfl⟩

end Go.Proofs.Ytlcepoomjnpfpaa
