/- The law SealAnswers, walked. -/
import Derived.Test.YtlcepoomjnpfpaaDoorLent
import Derived.Test.YtlcepoomjnpfpaaDoorRefD
import Derived.Test.YtlcepoomjnpfpaaDoorFnv1
namespace Go.Proofs.YtlcepoomjnpfpaaDoor
open Go.RowKit

theorem rfnv_one {w : World} {v : Value} {bs : List Nat} (hs : Sees w v bs) (t : TypeId) :
    Calls Tryd.prog 23 #[.slice (some ⟨w.heap.size, 0, none⟩) 1 1] (w.alloc (.cells #[v] t)) fun e w' => e = .returned (.int .u64 (marks fnv0 bs : Nat)) ∧ w' = w.alloc (.cells #[v] t) := by
  have := rfnv_any (Parts.of1 (Blk.new w #[v] t) (hs.kept ((Kept.refl [] w).alloc _) (Or.inr (by simp))))
  have e : catP [(v, bs)] = bs := by simp [catP]
  rw [e] at this
  exact this

set_option maxRecDepth 100000 in
set_option maxHeartbeats 1000000 in
theorem asked_any {w : World} (ht : Tab w) {v1 v2 : Value} {bs : List Nat} (h1 : Sees w v1 bs) (h2 : Sees w v2 bs) (m : Nat) (hm : m < 18446744073709551616) :
    Calls Tryd.prog 8 #[v1, v2, .int .u64 m] w fun e w' => e = .returned (.bool true) ∧ Kept [] w w' := by
  have HT := hide ht
  have H1 := hide h1
  have H2 := hide h2
  have HRC := hide (rcrc_any h2)
  have HRF := hide (rfnv_one h2 22)
  have HRB : Hid (∀ wx, Kept [] w wx → Calls Tryd.prog 24 #[.int .u64 m, v2] wx fun e w' => e = .returned (.int .u64 (backs m bs : Nat)) ∧ w' = wx) := fun wx h => rback_any ((unhide H2).kept h (Or.inr (by simp))) m hm
  have HC : Hid (∀ wx, Kept [] w wx → Calls Tryd.prog 21 #[v1] wx fun e w' => e = .returned (.int .u32 (crc bs : Nat)) ∧ w' = wx) := fun wx h => crc_any ((unhide HT).kept h (by simp)) ((unhide H1).kept h (Or.inr (by simp)))
  have HF : Hid (∀ wx, Kept [] w wx → Calls Tryd.prog 22 #[.slice (some ⟨wx.heap.size, 0, none⟩) 1 1] (wx.alloc (.cells #[v1] 22)) fun e w' => e = .returned (.int .u64 (marks fnv0 bs : Nat)) ∧ w' = wx.alloc (.cells #[v1] 22)) := fun wx h => fnv_one ((unhide H1).kept h (Or.inr (by simp))) _
  have HB : Hid (∀ wx, Kept [] w wx → Calls Tryd.prog 19 #[.int .u64 m, v1] wx fun e w' => e = .returned (.int .u64 (backs m bs : Nat)) ∧ w' = wx) := fun wx h => back_mark ((unhide H1).kept h (Or.inr (by simp))) m hm
  obtain ⟨p, pc, hp, -⟩ := h1
  obtain ⟨q, qc, hq, -⟩ := h2
  subst hp
  subst hq
  clear ht
  generalize crc bs = c at HRC HC
  generalize marks fnv0 bs = f at HRF HF
  generalize backs m bs = k at HRB HB
  go_enter Tryd.func8, Tryd.ntmps8
  go_wp2_with fail
  refine (unhide HRC).mono ?_
  rintro e w' ⟨rfl, hq⟩
  have hq' := hq.symm
  subst hq'
  go_wp2_with fail
  refine (unhide HRF).mono ?_
  rintro e w1 ⟨rfl, hq⟩
  have HK1 : Hid (Kept [] w w1) := by rw [hq]; exact (Kept.refl [] w).alloc _
  clear hq
  go_wp2_with fail
  refine (unhide HRB _ (unhide HK1)).mono ?_
  rintro e w' ⟨rfl, hq⟩
  have hq' := hq.symm
  subst hq'
  go_wp2_with fail
  refine (unhide HC _ (unhide HK1)).mono ?_
  rintro e w' ⟨rfl, hq⟩
  have hq' := hq.symm
  subst hq'
  go_wp2_with fail
  refine (unhide HF _ (unhide HK1)).mono ?_
  rintro e w2 ⟨rfl, hq⟩
  have HK2 : Hid (Kept [] w w2) := by rw [hq]; exact (unhide HK1).alloc _
  clear hq
  go_wp2_with fail
  refine (unhide HB _ (unhide HK2)).mono ?_
  rintro e w' ⟨rfl, hq⟩
  have hq' := hq.symm
  subst hq'
  go_wp2
  go_ret
  exact ⟨rfl, unhide HK2⟩

set_option maxRecDepth 100000 in
set_option maxHeartbeats 1000000 in
theorem answers_walk {w : World} (ht : Tab w) {v : Value} {bs : List Nat} (hv : Sees w v bs) (hl : bs.length ≤ 140737488351232) (m : Nat) (hm : m < 18446744073709551616) :
    Calls Tryd.prog 3 #[v, .int .u64 m] w fun e w' => e = .returned (.bool true) ∧ Kept [] w w' := by
  have HT := hide ht
  have HV := hide hv
  have h0w := ht.1
  have HLT := hide (lent_any hv hl)
  have HBB : Hid (∀ x ∈ bs, x < 256) := by obtain ⟨_, _, _, _, _, h, _⟩ := hv; exact h
  obtain ⟨p, pc, hp, -⟩ := hv
  subst hp
  clear ht
  go_enter Tryd.func3, Tryd.ntmps3
  go_wp2_with fail
  refine (unhide HLT).mono ?_
  rintro e w1 ⟨g1, c1, rfl, hl1, hk1⟩
  generalize hL : bs.length = L at *
  have HL := hide hL
  have HL1 := hide hl1
  have HK1 := hide hk1
  clear hL hl1 hk1 HLT
  obtain ⟨hc1a, hc1b, hg1, hg1l⟩ := (unhide HL1).caps
  have HV1 := hide ((unhide HV).kept (unhide HK1) (Or.inr (by simp)))
  have HT1 := hide ((unhide HT).kept (unhide HK1) (by simp))
  go_wp2_with fail
  refine (asked_any (unhide HT1) (unhide HL1).sees (unhide HV1) m hm).mono ?_
  rintro e w2 ⟨rfl, hk2⟩
  have HK2 := hide ((unhide HK1).trans hk2 (by simp))
  have HL2 := hide ((unhide HL1).kept hk2 (by simp))
  have HV2 := hide ((unhide HV).kept (unhide HK2) (Or.inr (by simp)))
  clear hk2 HL1 HV1 HT1
  go_wp2_with fail
  refine (kept_any (unhide HL2) (unhide HV2)).mono ?_
  rintro e w3 ⟨rfl, hk3⟩
  have HK3 := hide ((unhide HK2).trans hk3.kept (by simp))
  have HL3 := hide ((unhide HL2).kept hk3.kept (by simp))
  have HV3 := hide ((unhide HV).kept (unhide HK3) (Or.inr (by simp)))
  clear hk3 HL2 HV2 HK2
  have HLT := hide (lent_any (unhide HV3) (by rw [unhide HL]; exact hl))
  rw [unhide HL] at HLT
  go_wp2_with fail
  refine (unhide HLT).mono ?_
  rintro e w4 ⟨g2, c2, rfl, hl4, hk4⟩
  have HK4 := hide ((unhide HK3).trans hk4 (by simp))
  have HL4 := hide ((unhide HL3).kept hk4 (by simp))
  have HQ4 := hide hl4
  obtain ⟨hc2a, hc2b, hg2, hg2l⟩ := hl4.caps
  obtain ⟨-, -, -, hg13⟩ := (unhide HL3).caps
  have hw3 := (unhide HK3).size
  have hne : g1 ≠ g2 := by omega
  clear hl4 hk4 HLT HV3 HL3
  go_wp2_with fail
  go_loopw [7] (fun vi wr => ∃ (i : Nat) (ls : List Nat), i ≤ L ∧ vi = .int .i64 i ∧ Lent wr w.heap.size g1 c1 L ls ∧ Lent wr w3.heap.size g2 c2 L ls ∧ Kept [] w wr) (fun vi _ => L - (intOf vi).toNat)
  case atStart => exact ⟨0, bs, by omega, rfl, unhide HL4, unhide HQ4, unhide HK4⟩
  case round =>
    obtain ⟨i, ls, hi, rfl, hlr, hqr, hkr⟩ := hrel
    have HLR := hide hlr
    have HQR := hide hqr
    have HKR := hide hkr
    clear hlr hqr hkr
    have HVR := hide ((unhide HV).kept (unhide HKR) (Or.inr (by simp)))
    by_cases hil : i < L
    · obtain ⟨-, -, -, hgl1⟩ := (unhide HLR).caps
      obtain ⟨-, -, -, hgl2⟩ := (unhide HQR).caps
      have hsl : bs.length = L := unhide HL
      obtain ⟨pb, po, hpp, hpc⟩ : ∃ b off, p = some ⟨b, off, none⟩ ∧ wr.cell? ⟨b, off + (L - 1 - i), none⟩ = some (.int .u8 (bs.getD (L - 1 - i) 0 : Nat)) := by
        obtain ⟨a', cap', hv', _, _, _, h4⟩ := unhide HVR
        simp only [Value.slice.injEq] at hv'
        obtain ⟨hpa, _, _⟩ := hv'
        rw [hpa]
        exact at_sees hsl h4 (show L - 1 - i < L by omega)
      subst hpp
      have hx := getD_lt (unhide HBB) (show L - 1 - i < bs.length by omega)
      generalize bs.getD (L - 1 - i) 0 = x at hpc hx
      have fz1 := (unhide HLR).frozen i
      have fz2 := (unhide HQR).frozen i
      have cl1 := (unhide HLR).cell hil
      have cl2 := (unhide HQR).cell hil
      have hy : (x + 1) % 256 < 256 := Nat.mod_lt _ (by omega)
      have wy : IntKind.u8.wrap ((x : Int) + 1) = (((x + 1) % 256 : Nat) : Int) := by rw [IntKind.wrap_u8']; omega
      have HQ2 := hide ((unhide HQR).set hil hy)
      have HL2 := hide (((unhide HLR).kept ((Kept.refl [g2] wr).setCell (p := ⟨g2, i, none⟩) (Or.inl (by simp)) (.int .u8 (((x + 1) % 256 : Nat) : Int))) (by simpa using hne)).set hil hy)
      generalize (x + 1) % 256 = y at hy wy HQ2 HL2
      have t1 : ((L : Int) - 1 - (i : Int)).toNat = L - 1 - i := by omega
      have t2 : (0 : Int) ≤ (L : Int) - 1 - (i : Int) := by omega
      have t3 : (L : Int) - 1 - (i : Int) < (L : Int) := by omega
      have t4 : (i : Int) < (L : Int) := by omega
      have q1 : (wr.setCell ⟨g2, i, none⟩ (.int .u8 (y : Int))).cell? ⟨g2, i, none⟩ = some (.int .u8 (y : Int)) := by
        have := (unhide HQ2).cell hil
        have e : (ls.set i y).getD i 0 = y := by
          have : i < ls.length := by rw [(unhide HQR).1]; exact hil
          simp [List.getD, this]
        rw [e] at this
        exact this
      have q2 := ((Kept.refl [g2] wr).setCell (p := ⟨g2, i, none⟩) (Or.inl (by simp)) (.int .u8 (y : Int))).frozen (p := ⟨g1, i, none⟩) hgl1 (by simpa using hne)
      rw [fz1] at q2
      have q3 := ((Kept.refl [g2] wr).setCell (p := ⟨g2, i, none⟩) (Or.inl (by simp)) (.int .u8 (y : Int))).cell (p := ⟨g1, i, none⟩) hgl1 (by simpa using hne)
      rw [cl1] at q3
      go_wp2
      go_roundw
      case rel =>
        have hq5 := (unhide HQ2).kept ((Kept.refl [g1] (wr.setCell ⟨g2, i, none⟩ (.int .u8 (y : Int)))).setCell (p := ⟨g1, i, none⟩) (Or.inl (by simp)) (.int .u8 (y : Int))) (by simp; omega)
        exact ⟨i + 1, ls.set i y, by omega, by simp, unhide HL2, hq5, ((unhide HKR).setCell (Or.inr (show w.heap.size ≤ g2 by omega)) _).setCell (Or.inr (show w.heap.size ≤ g1 by omega)) _⟩
      case measure => simp [intOf]; omega
    · obtain rfl : i = L := by omega
      have HTR := hide ((unhide HT).kept (unhide HKR) (by simp))
      go_wp2_with fail
      refine (asked_any (unhide HTR) (unhide HLR).sees (unhide HQR).sees m hm).mono ?_
      rintro e w5 ⟨rfl, hk5⟩
      have HK5 := hide ((unhide HKR).trans hk5 (by simp))
      have HL5 := hide ((unhide HLR).kept hk5 (by simp))
      have HQ5 := hide ((unhide HQR).kept hk5 (by simp))
      clear hk5
      go_wp2_with fail
      refine (kept_any (unhide HL5) (unhide HQ5).sees).mono ?_
      rintro e w6 ⟨rfl, hk6⟩
      have HK6 := hide ((unhide HK5).trans hk6.kept (by simp))
      clear hk6
      go_wp2
      go_ret
      exact ⟨rfl, unhide HK6⟩
end Go.Proofs.YtlcepoomjnpfpaaDoor
