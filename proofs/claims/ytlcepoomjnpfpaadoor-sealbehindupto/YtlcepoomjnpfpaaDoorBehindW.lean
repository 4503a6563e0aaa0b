/- The law SealBehind, walked. -/
import Derived.Test.YtlcepoomjnpfpaaDoorFnv1
import Derived.Test.YtlcepoomjnpfpaaDoorLin
namespace Go.Proofs.YtlcepoomjnpfpaaDoor
open Go.RowKit

theorem Sees.lt {w : World} {v : Value} {bs : List Nat} (h : Sees w v bs) : bs = [] ∨ ∀ k, v.ownBlock = some k → k < w.heap.size := by
  obtain ⟨a, cap, rfl, _, _, _, h4⟩ := h
  rcases h4 with h4 | ⟨b, off, rfl, h5, _⟩
  · exact Or.inl h4
  · refine Or.inr (fun k hk => ?_)
    simp [Value.ownBlock] at hk
    omega

set_option maxRecDepth 100000 in
set_option maxHeartbeats 1000000 in
theorem behind_walk {w : World} (ht : Tab w) {v1 v2 : Value} {a b : List Nat} (h1 : Sees w v1 a) (h2 : Sees w v2 b) (hl : a.length + b.length ≤ 140737488355328) :
    Calls Tryd.prog 6 #[v1, v2] w fun e w' => e = .returned (.bool true) ∧ Kept [] w w' := by
  have HBA : Hid (∀ x ∈ a, x < 256) := by obtain ⟨_, _, _, _, _, h, _⟩ := h1; exact h
  have HBB : Hid (∀ x ∈ b, x < 256) := by obtain ⟨_, _, _, _, _, h, _⟩ := h2; exact h
  have HT := hide ht
  have H1 := hide h1
  have H2 := hide h2
  have h0w := ht.1
  obtain ⟨p, pc, hp, -⟩ := h1
  obtain ⟨q, qc, hq, -⟩ := h2
  subst hp
  subst hq
  clear ht
  have HCA : Hid (∀ wx, Kept [] w wx → Calls Tryd.prog 21 #[.slice p a.length pc] wx fun e w' => e = .returned (.int .u32 (crc a : Nat)) ∧ w' = wx) := fun wx h => crc_any ((unhide HT).kept h (by simp)) ((unhide H1).kept h (Or.inr (by simp)))
  have HCB : Hid (∀ wx, Kept [] w wx → Calls Tryd.prog 21 #[.slice q b.length qc] wx fun e w' => e = .returned (.int .u32 (crc b : Nat)) ∧ w' = wx) := fun wx h => crc_any ((unhide HT).kept h (by simp)) ((unhide H2).kept h (Or.inr (by simp)))
  have hla : crc a < 4294967296 := cpl_lt (takes_lt (cpl_lt (by omega)) a (unhide HBA))
  have hlb : crc b < 4294967296 := cpl_lt (takes_lt (cpl_lt (by omega)) b (unhide HBB))
  have HGA : Hid (grown 0 a = crc a) := rfl
  have HGB : Hid (grown (crc a) b = crc (a ++ b)) := (grown_append 0 a b).symm
  have HJ : Hid (∀ wx, Calls Tryd.prog 16 #[.int .u32 (crc a : Nat), .int .u32 (crc b : Nat), .int .i64 (b.length : Nat)] wx fun e w' => e = .returned (.int .u32 (crc (a ++ b) : Nat)) ∧ Kept [] wx w') := by
    intro wx
    have := join_any (crc a) (crc b) hla hlb (b.length : Int) (by omega) (by omega) wx
    rw [crc_join]
    simpa using this
  have hml : marks fnv0 a < 18446744073709551616 := marks_lt (by unfold fnv0; omega) _
  have hml2 : marks fnv0 (a ++ b) < 18446744073709551616 := marks_lt (by unfold fnv0; omega) _
  have HBK : Hid (∀ wx, Kept [] w wx → Calls Tryd.prog 19 #[.int .u64 (marks fnv0 (a ++ b) : Nat), .slice q b.length qc] wx fun e w' => e = .returned (.int .u64 (marks fnv0 a : Nat)) ∧ w' = wx) := by
    intro wx h
    have := back_mark ((unhide H2).kept h (Or.inr (by simp))) _ hml2
    have e : backs (marks fnv0 (a ++ b)) b = marks fnv0 a := by
      rw [marks_append]; exact backs_marks b (unhide HBB) hml
    rw [e] at this
    exact this
  have HBN : Hid (∀ wx, Calls Tryd.prog 19 #[.int .u64 (marks fnv0 a : Nat), .slice none 0 0] wx fun e w' => e = .returned (.int .u64 (marks fnv0 a : Nat)) ∧ w' = wx) := fun wx => back_mark (Sees.nil wx) _ hml
  have HFA : Hid (∀ wx, Kept [] w wx → Calls Tryd.prog 22 #[.slice (some ⟨wx.heap.size, 0, none⟩) 1 1] (wx.alloc (.cells #[.slice p a.length pc] 22)) fun e w' => e = .returned (.int .u64 (marks fnv0 a : Nat)) ∧ w' = wx.alloc (.cells #[.slice p a.length pc] 22)) := fun wx h => fnv_one ((unhide H1).kept h (Or.inr (by simp))) _
  have HFT : Hid (∀ wx, Kept [] w wx → Calls Tryd.prog 22 #[.slice (some ⟨wx.heap.size, 0, none⟩) 2 2] (wx.alloc (.cells #[.slice p a.length pc, .slice q b.length qc] 22)) fun e w' => e = .returned (.int .u64 (marks fnv0 (a ++ b) : Nat)) ∧ w' = wx.alloc (.cells #[.slice p a.length pc, .slice q b.length qc] 22)) := fun wx h => fnv_two ((unhide H1).kept h (Or.inr (by simp))) ((unhide H2).kept h (Or.inr (by simp))) _
  go_enter Tryd.func6, Tryd.ntmps6
  go_wp2_with fail
  refine (known_any (unhide HT)).mono ?_
  rintro e w1 ⟨rfl, hk1⟩
  have HK1 := hide hk1
  clear hk1
  go_wp2_with fail
  refine (joined_any ((unhide H1).kept (unhide HK1) (Or.inr (by simp))) ((unhide H2).kept (unhide HK1) (Or.inr (by simp))) hl).mono ?_
  rintro e w2 ⟨v2, rfl, ho2, hk2⟩
  obtain ⟨ja, jc, rfl⟩ := own_len ho2
  have HK2 := hide ((unhide HK1).trans hk2 (by simp))
  have HS2 : Hid (Sees w2 (.slice ja (a ++ b).length jc) (a ++ b)) := Sees.of_own ho2 (fun x hx => by rcases List.mem_append.1 hx with h | h; exact unhide HBA x h; exact unhide HBB x h)
  clear hk2 ho2 HK1
  have HN : Hid ((a ++ b).length = a.length + b.length) := List.length_append
  generalize (a ++ b).length = N at HS2 HN
  generalize hA : a.length = A at *
  generalize hB : b.length = B at *
  have HA := hide hA
  have HB := hide hB
  clear hA hB
  have HT2 := hide ((unhide HT).kept (unhide HK2) (by simp))
  have HC2 := hide (crc_any (unhide HT2) (unhide HS2))
  go_wp2_with fail
  refine (unhide HCA _ (unhide HK2)).mono ?_
  rintro e w' ⟨rfl, hq⟩
  have hq' := hq.symm
  subst hq'
  go_wp2_with fail
  refine (unhide HCB _ (unhide HK2)).mono ?_
  rintro e w' ⟨rfl, hq⟩
  have hq' := hq.symm
  subst hq'
  go_wp2_with fail
  refine (unhide HC2).mono ?_
  rintro e w' ⟨rfl, hq⟩
  have hq' := hq.symm
  subst hq'
  go_wp2_with fail
  refine (newStream_any _).mono ?_
  rintro e w3 ⟨rfl, hs3, hk3, hb3⟩
  generalize hbq : w2.heap.size = s at *
  have HK3 := hide ((unhide HK2).trans hk3 (by simp))
  have hsge : w.heap.size ≤ s := by rw [← hbq]; exact (unhide HK2).size
  have HS3 : Hid (Sees w3 (.slice ja N jc) (a ++ b)) := (unhide HS2).kept hk3 (Or.inr (by simp))
  have HSL : Hid (a ++ b = [] ∨ ∀ k, (Value.slice ja N jc).ownBlock = some k → k ∉ [s]) := by
    rcases (unhide HS2).lt with h | h
    · exact Or.inl h
    · exact Or.inr (fun k hk => by have := h k hk; rw [hbq] at this; simp; omega)
  have HST3 := hide hs3
  have h0s : 0 ≠ s := by omega
  have hb3' : s < w3.heap.size := hb3
  clear hs3 hk3 HS2 hbq HC2 HT2
  have HT3 := hide ((unhide HT).kept (unhide HK3) (by simp))
  have HLA : Hid (0 + a.length ≤ 9223372036854775807) := by rw [unhide HA]; unfold Hid; omega
  have HLB : Hid (0 + a.length + b.length ≤ 9223372036854775807) := by rw [unhide HA, unhide HB]; unfold Hid; omega
  have HW1 := hide (write_any (unhide HST3) (unhide HT3) ((unhide H1).kept (unhide HK3) (Or.inr (by simp))) (by omega) (unhide HLA))
  rw [unhide HGA, unhide HA] at HW1
  go_wp2_with fail
  refine (unhide HW1).mono ?_
  rintro e w4 ⟨rfl, hs4, hk4⟩
  have HK4 := hide ((unhide HK3).trans hk4 (fun x hx => by simp at hx; subst hx; right; exact hsge))
  have HS4 := hide ((unhide HS3).kept hk4 (unhide HSL))
  have HST4 := hide hs4
  have HT4 := hide ((unhide HT).kept (unhide HK4) (by simp))
  clear hs4 hk4 HW1 HST3 HT3 HS3 hb3 hb3'
  have HLB2 : Hid (0 + A + b.length ≤ 9223372036854775807) := by rw [unhide HB]; unfold Hid; omega
  go_wp2_with fail
  refine (sum_any (unhide HST4)).mono ?_
  rintro e w' ⟨rfl, hq⟩
  have hq' := hq.symm
  subst hq'
  have HW2 := hide (write_any (unhide HST4) (unhide HT4) ((unhide H2).kept (unhide HK4) (Or.inr (by simp))) hla (unhide HLB2))
  rw [unhide HGB, unhide HB] at HW2
  go_wp2_with fail
  refine (unhide HW2).mono ?_
  rintro e w5 ⟨rfl, hs5, hk5⟩
  have HK5 := hide ((unhide HK4).trans hk5 (fun x hx => by simp at hx; subst hx; right; exact hsge))
  have HS5 := hide ((unhide HS4).kept hk5 (unhide HSL))
  have HST5 := hide hs5
  clear hs5 hk5 HW2 HST4 HT4 HS4
  go_wp2_with fail
  refine (fnv_one (unhide HS5) _).mono ?_
  rintro e w6 ⟨rfl, hq⟩
  have HK6 : Hid (Kept [] w w6) := by rw [hq]; exact (unhide HK5).alloc _
  have HST6 : Hid (Str w6 s (crc (a ++ b)) (0 + A + B)) := by rw [hq]; exact Blk.alloc (unhide HST5) _
  clear hq HS5 HST5 HK5
  have hnn : ((0 + A + B : Nat) : Int) = (N : Int) := by rw [unhide HN]; omega
  have HNN := hide hnn
  clear hnn
  go_wp2_with fail
  refine (sum_any (unhide HST6)).mono ?_
  rintro e w' ⟨rfl, hq⟩
  have hq' := hq.symm
  subst hq'
  have HLN := hide (len_any (unhide HST6))
  rw [unhide HNN] at HLN
  go_wp2_with fail
  refine (unhide HLN).mono ?_
  rintro e w' ⟨rfl, hq⟩
  have hq' := hq.symm
  subst hq'
  go_wp2_with fail
  refine (unhide HJ _).mono ?_
  rintro e w7 ⟨rfl, hk7⟩
  have HK7 := hide ((unhide HK6).trans hk7 (by simp))
  clear hk7 HST6 HK6 HLN
  generalize marks fnv0 (a ++ b) = m2 at *
  generalize marks fnv0 a = m1 at *
  go_wp2_with fail
  refine (unhide HFT _ (unhide HK7)).mono ?_
  rintro e w8 ⟨rfl, hq⟩
  have HK8 : Hid (Kept [] w w8) := by rw [hq]; exact (unhide HK7).alloc _
  clear hq
  go_wp2_with fail
  refine (unhide HBK _ (unhide HK8)).mono ?_
  rintro e w' ⟨rfl, hq⟩
  have hq' := hq.symm
  subst hq'
  go_wp2_with fail
  refine (unhide HFA _ (unhide HK8)).mono ?_
  rintro e w9 ⟨rfl, hq⟩
  have HK9 : Hid (Kept [] w w9) := by rw [hq]; exact (unhide HK8).alloc _
  clear hq
  go_wp2_with fail
  refine (unhide HFA _ (unhide HK9)).mono ?_
  rintro e w10 ⟨rfl, hq⟩
  have HK10 : Hid (Kept [] w w10) := by rw [hq]; exact (unhide HK9).alloc _
  clear hq
  go_wp2_with fail
  refine (unhide HBN _).mono ?_
  rintro e w' ⟨rfl, hq⟩
  have hq' := hq.symm
  subst hq'
  go_wp2_with fail
  refine (unhide HFA _ (unhide HK10)).mono ?_
  rintro e w11 ⟨rfl, hq⟩
  have HK11 : Hid (Kept [] w w11) := by rw [hq]; exact (unhide HK10).alloc _
  clear hq
  go_wp2
  go_ret
  exact ⟨rfl, unhide HK11⟩
end Go.Proofs.YtlcepoomjnpfpaaDoor
