/- The law SealTold, walked. -/
import Derived.Test.YtlcepoomjnpfpabDoorTold
import Derived.Deep.RegionWith
namespace Go.Proofs.YtlcepoomjnpfpabDoor
open Go.RowKit

theorem Parts.of1 {w : World} {b : Nat} {t : TypeId} {v0 : Value} {l0 : List Nat} (h : Blk w b #[v0] t) (h0 : Sees w v0 l0) : Parts w (.slice (some ⟨b, 0, none⟩) 1 1) [(v0, l0)] := by
  refine ⟨_, 1, rfl, by simp, by simp [maxLen], ?_, Or.inr ⟨b, 0, rfl, h.lt, ?_⟩⟩
  · intro p hp
    simp at hp
    subst hp
    exact h0
  · intro j p hp
    rw [h.cell, Nat.zero_add]
    match j, hp with
    | 0, hp => simp at hp; subst hp; rfl
    | j + 1, hp => simp at hp

theorem fnv_one {w : World} {v : Value} {bs : List Nat} (hs : Sees w v bs) (t : TypeId) :
    Calls Tryd.prog 11 #[.slice (some ⟨w.heap.size, 0, none⟩) 1 1] (w.alloc (.cells #[v] t)) fun e w' => e = .returned (.int .u64 (marks fnv0 bs : Nat)) ∧ w' = w.alloc (.cells #[v] t) := by
  have := fnv_any (Parts.of1 (Blk.new w #[v] t) (hs.kept ((Kept.refl [] w).alloc _) (Or.inr (by simp))))
  have e : catP [(v, bs)] = bs := by simp [catP]
  rw [e] at this
  exact this

theorem fnv_one2 {w : World} {v : Value} {bs : List Nat} (hs : Sees w v bs) (t : TypeId) (o : Obj) :
    Calls Tryd.prog 11 #[.slice (some ⟨w.heap.size + 1, 0, none⟩) 1 1] ((w.alloc o).alloc (.cells #[v] t)) fun e w' => e = .returned (.int .u64 (marks fnv0 bs : Nat)) ∧ w' = (w.alloc o).alloc (.cells #[v] t) := by
  have := fnv_one (hs.kept ((Kept.refl [] w).alloc o) (Or.inr (by simp))) t
  simpa using this

set_option maxRecDepth 100000 in
set_option maxHeartbeats 1000000 in
theorem told_walk {w : World} (ht : Tab w) {v : Value} {bs : List Nat} (hv : Sees w v bs) (hl : bs.length ≤ 140737488351232) (at' : Int) (ha1 : -9223372036854775808 ≤ at') (ha2 : at' ≤ 9223372036854775807) (os : List Nat) (hos : os.length = 4) (hob : ∀ b ∈ os, b < 256) :
    Calls Tryd.prog 5 #[v, .int .i64 at', .agg (u8s os).toArray] w fun e w' => e = .returned (.bool true) ∧ Kept [] w w' := by
  have HB : Hid (∀ b ∈ bs, b < 256) := by obtain ⟨_, _, _, _, _, h, _⟩ := hv; exact h
  have HT := hide ht
  have HV := hide hv
  have h0w := ht.1
  have HOB := hide hob
  obtain ⟨p, pc, hpv, -⟩ := hv
  clear ht hob
  subst hpv
  obtain ⟨oc, hoc⟩ : ∃ c, c = (u8s os).toArray := ⟨_, rfl⟩
  rw [← hoc]
  have HOC := hide hoc
  clear hoc
  go_enter Tryd.func5, Tryd.ntmps5
  go_wp2_with fail
  refine (known_any ((unhide HT).kept ((Kept.refl [] w).alloc _) (by simp))).mono ?_
  rintro e w1 ⟨rfl, hk1⟩
  have HK1 : Hid (Kept [] w w1) := ((Kept.refl [] w).alloc _).trans hk1 (by simp)
  have HB1 : Hid (Blk w1 w.heap.size oc 24) := (Blk.new w oc _).kept hk1 (by simp)
  clear hk1
  go_wp2_with fail
  refine (joined_any ((unhide HV).kept (unhide HK1) (Or.inr (by simp))) (Sees.nil w1) (by simp; omega)).mono ?_
  rintro e w2 ⟨v2, rfl, ho2, hk2⟩
  rw [List.append_nil] at ho2
  obtain ⟨qa, qc, rfl⟩ := own_len ho2
  have HK2 := hide ((unhide HK1).trans hk2 (by simp))
  have HB2 := hide ((unhide HB1).kept hk2 (by simp))
  have hw1 := (unhide HB1).lt
  clear hk2 HB1 HK1
  generalize hL : bs.length = L at *
  have HL := hide hL
  have HO2 := hide ho2
  clear hL ho2
  go_wp2_with fail
  have hcases : (at' < 0 ∨ (L : Int) ≤ at') ∨ (∃ k : Nat, at' = (k : Int) ∧ k < L) := by
    by_cases h : at' < 0
    · exact Or.inl (Or.inl h)
    · by_cases h2 : at' < (L : Int)
      · exact Or.inr ⟨at'.toNat, by omega, by omega⟩
      · exact Or.inl (Or.inr (by omega))
  rcases hcases with hc | ⟨k, rfl, hk⟩
  · go_loop [8, 9] (fun vu vi => vu = .int .i64 0 ∧ ∃ i : Nat, i ≤ 4 ∧ vi = .int .i64 i) (fun _ vi => 4 - (intOf vi).toNat)
    case atStart => exact ⟨rfl, 0, by omega, rfl⟩
    case round =>
      obtain ⟨rfl, i, hi, rfl⟩ := hrel
      by_cases hi4 : i < 4
      · rcases hc with hc | hc
        · go_wp2
          exact ⟨⟨rfl, i + 1, by omega, by simp⟩, by simp [intOf]; omega⟩
        · have t0 : (0 : Int) ≤ at' := by omega
          have t2 : decide (at' < (L : Int) - (i : Int)) = false := by simp; omega
          go_wp2
          exact ⟨⟨rfl, i + 1, by omega, by simp⟩, by simp [intOf]; omega⟩
      · obtain rfl : i = 4 := by omega
        have HTR := hide ((unhide HT).kept (unhide HK2) (by simp))
        have HVR := hide ((unhide HV).kept (unhide HK2) (Or.inr (by simp)))
        have HQR : Hid (Sees w2 (.slice qa L qc) bs) := Sees.of_own (by rw [unhide HL]; exact unhide HO2) (unhide HB)
        have HC1 := hide (crc_any (unhide HTR) (unhide HVR))
        have HC2 := hide (crc_any (unhide HTR) (unhide HQR))
        have HF1 := hide (fnv_one (unhide HVR) 22)
        have HF2 := hide (fnv_one2 (unhide HQR) 22)
        generalize crc bs = c at HC1 HC2
        generalize marks fnv0 bs = f at HF1 HF2
        clear HQR HVR HTR hc
        go_wp2_with fail
        refine (unhide HC1).mono ?_
        rintro e w' ⟨rfl, hq⟩
        have hq' := hq.symm
        subst hq'
        go_wp2_with fail
        refine (unhide HC2).mono ?_
        rintro e w' ⟨rfl, hq⟩
        have hq' := hq.symm
        subst hq'
        go_wp2_with fail
        refine (unhide HF1).mono ?_
        rintro e w' ⟨rfl, hq⟩
        have hq' := hq.symm
        subst hq'
        go_wp2_with fail
        refine (unhide HF2 _).mono ?_
        rintro e w' ⟨rfl, hq⟩
        have hq' := hq.symm
        subst hq'
        go_wp2
        go_ret
        exact ⟨rfl, ((unhide HK2).alloc _).alloc _⟩
  · obtain ⟨g, cap, hqv, hge, hgl, hcap, hml⟩ := row_of_own (unhide HO2) (by omega)
    cases hqv
    go_loopw [8, 9] (fun vu vi wr => ∃ (i u : Nat) (q : List Nat), i ≤ 4 ∧ vi = .int .i64 i ∧ vu = .int .i64 u ∧ Told bs k i q u ∧ wr.ownsRow w1.heap.size 5 1 (.slice (some ⟨g, 0, none⟩) L qc) L (u8s q) ∧ Blk wr w.heap.size oc 24 ∧ Kept [] w wr) (fun _ vi _ => 4 - (intOf vi).toNat)
    case atStart => exact ⟨0, 0, bs, by omega, rfl, rfl, Told.start (unhide HB) k, unhide HO2, unhide HB2, unhide HK2⟩
    case round =>
      obtain ⟨i, u, q, hi, rfl, rfl, htd, hor, hbr, hkr⟩ := hrel
      have HTD := hide htd
      have HOR := hide hor
      have HBR := hide hbr
      have HKR := hide hkr
      have hui := htd.least
      clear htd hor hbr hkr
      by_cases hi4 : i < 4
      · by_cases hin : k + i < L
        · have hq : k + i < q.length := by rw [(unhide HTD).len, unhide HL]; exact hin
          have hx := getD_lt (unhide HTD).byte hq
          have hce := own_cell (unhide HOR) hq
          have hfz := own_frozen (unhide HOR) (k + i)
          have hd := getD_lt (unhide HOB) (show i < os.length by omega)
          have hoce : wr.cell? ⟨w.heap.size, i, none⟩ = some (.int .u8 (os.getD i 0 : Nat)) := by
            rw [(unhide HBR).cell, unhide HOC]; simpa using u8s_at os (show i < os.length by omega)
          have hne : g ≠ w.heap.size := by omega
          generalize os.getD i 0 = d at hd hoce
          have ex := u8_xor_nat (q.getD (k + i) 0) d hx hd
          have HOS := hide (own_set (unhide HOR) (k + i) (q.getD (k + i) 0 ^^^ d))
          have HTN : Hid (d ≠ 0 → Told bs k (i + 1) (q.set (k + i) (q.getD (k + i) 0 ^^^ d)) (u + 1)) := fun h => (unhide HTD).turn (unhide HB) (by rw [unhide HL]; exact hin) hd h
          have HTZ : Hid (d = 0 → Told bs k (i + 1) (q.set (k + i) (q.getD (k + i) 0 ^^^ d)) u) := fun h => by rw [h]; exact (unhide HTD).zero (by rw [unhide HL]; exact hin)
          generalize q.set (k + i) (q.getD (k + i) 0 ^^^ d) = q2 at HOS HTN HTZ
          generalize q.getD (k + i) 0 = x at hx hce ex HOS
          generalize x ^^^ d = y at ex HOS
          have t1 : (k : Int) < (L : Int) - (i : Int) := by omega
          have t2 : (k : Int) + (i : Int) < (L : Int) := by omega
          go_wp2_with fail
          have e31 : ((k : Int) + (i : Int)).toNat = k + i := by omega
          have n31 : (0 : Int) ≤ (k : Int) + (i : Int) := by omega
          go_region
          refine world_at (R := fun wx => wx.ownsRow w1.heap.size 5 1 (.slice (some ⟨g, 0, none⟩) L qc) L (u8s q2) ∧ Blk wx w.heap.size oc 24 ∧ Kept [] w wx ∧ wx.cell? ⟨w.heap.size, i, none⟩ = some (.int .u8 (d : Nat))) ?_ ?_
          · have kk : Kept [g] wr (wr.setCell ⟨g, k + i, none⟩ (Value.int IntKind.u8 (y : Int))).drew := ((Kept.refl [g] wr).setCell (Or.inl (by simp)) _).drew
            refine ⟨own_kept (unhide HOS) ((Kept.refl [] _).drew) (by simp), (unhide HBR).kept kk (by simp; omega), ((unhide HKR).setCell (Or.inr (show w.heap.size ≤ g by omega)) _).drew, ?_⟩
            exact (kk.cell (p := ⟨w.heap.size, i, none⟩) (unhide HBR).lt (by simp; omega)).trans hoce
          · rintro wx ⟨g1, g2, g3, g4⟩
            have HX := hide (⟨g1, g2, g3⟩ : _ ∧ _ ∧ _)
            clear g1 g2 g3 hce hfz hoce HOS HBR HKR HOR ex
            by_cases hd0 : d = 0
            · have td : ((d : Int) != 0) = false := by rw [hd0]; rfl
              have HTZ2 := hide (unhide HTZ hd0)
              clear hd0
              go_wp2_with fail
              go_roundw
              case rel => exact ⟨i + 1, u, q2, by omega, by simp, rfl, unhide HTZ2, (unhide HX).1, (unhide HX).2.1, (unhide HX).2.2⟩
              case measure => simp [intOf]; omega
            · have td : ((d : Int) != 0) = true := by rw [bne_iff_ne]; omega
              have HTN2 := hide (unhide HTN hd0)
              clear hd0
              go_wp2_with fail
              go_roundw
              case rel => exact ⟨i + 1, u + 1, q2, by omega, by simp, by simp, unhide HTN2, (unhide HX).1, (unhide HX).2.1, (unhide HX).2.2⟩
              case measure => simp [intOf]; omega
        · have t1 : ¬ ((k : Int) < (L : Int) - (i : Int)) := by omega
          have t2 : decide ((k : Int) < (L : Int) - (i : Int)) = false := by simp; omega
          go_wp2_with fail
          go_roundw
          case rel => exact ⟨i + 1, u, q, by omega, by simp, rfl, (unhide HTD).skip, unhide HOR, unhide HBR, unhide HKR⟩
          case measure => simp [intOf]; omega
      · obtain rfl : i = 4 := by omega
        have HTR := hide ((unhide HT).kept (unhide HKR) (by simp))
        have HVR := hide ((unhide HV).kept (unhide HKR) (Or.inr (by simp)))
        have HQR : Hid (Sees wr (.slice (some ⟨g, 0, none⟩) L qc) q) := by
          have := Sees.of_own (w := wr) (bs := q) (by rw [(unhide HTD).len, unhide HL]; exact unhide HOR) (unhide HTD).byte
          exact this
        by_cases hu0 : u = 0
        · have hqb := (unhide HTD).none hu0
          have tu : ((u : Int) == 0) = true := by rw [hu0]; rfl
          have HC1 := hide (crc_any (unhide HTR) (unhide HVR))
          have HC2 := hide (crc_any (unhide HTR) (unhide HQR))
          have HF1 := hide (fnv_one (unhide HVR) 22)
          have HF2 := hide (fnv_one2 (unhide HQR) 22)
          rw [hqb] at HC2 HF2
          generalize crc bs = c at HC1 HC2
          generalize marks fnv0 bs = f at HF1 HF2
          clear hu0 hqb HQR HVR HTR
          go_wp2_with fail
          refine (unhide HC1).mono ?_
          rintro e w' ⟨rfl, hq⟩
          have hq' := hq.symm
          subst hq'
          go_wp2_with fail
          refine (unhide HC2).mono ?_
          rintro e w' ⟨rfl, hq⟩
          have hq' := hq.symm
          subst hq'
          go_wp2_with fail
          refine (unhide HF1).mono ?_
          rintro e w' ⟨rfl, hq⟩
          have hq' := hq.symm
          subst hq'
          go_wp2_with fail
          refine (unhide HF2 _).mono ?_
          rintro e w' ⟨rfl, hq⟩
          have hq' := hq.symm
          subst hq'
          go_wp2
          go_ret
          exact ⟨rfl, ((unhide HKR).alloc _).alloc _⟩
        · have tu : ((u : Int) == 0) = false := by rw [beq_eq_false_iff_ne]; omega
          have hne := (unhide HTD).sums hu0
          have HC1 := hide (crc_any (unhide HTR) (unhide HVR))
          have HC2 := hide (crc_any (unhide HTR) (unhide HQR))
          have HF1 := hide (fnv_one (unhide HVR) 22)
          have HF2 := hide (fnv_one2 (unhide HQR) 22)
          have HFN : Hid (u = 1 → marks fnv0 bs ≠ marks fnv0 q) := fun h => (unhide HTD).marks (unhide HB) h
          generalize crc bs = c1 at HC1 hne
          generalize crc q = c2 at HC2 hne
          generalize marks fnv0 bs = f1 at HF1 HFN
          generalize marks fnv0 q = f2 at HF2 HFN
          have tn : ((c1 : Int) != (c2 : Int)) = true := by rw [bne_iff_ne]; omega
          clear HQR HVR HTR hne
          by_cases hu1 : u = 1
          · have hfn := unhide HFN hu1
            have tg : decide ((1 : Int) < (u : Int)) = false := by rw [hu1]; rfl
            have tf : ((f1 : Int) != (f2 : Int)) = true := by rw [bne_iff_ne]; omega
            clear hu1 hu0 hfn
            go_wp2_with fail
            refine (unhide HC1).mono ?_
            rintro e w' ⟨rfl, hq⟩
            have hq' := hq.symm
            subst hq'
            go_wp2_with fail
            refine (unhide HC2).mono ?_
            rintro e w' ⟨rfl, hq⟩
            have hq' := hq.symm
            subst hq'
            go_wp2_with fail
            refine (unhide HF1).mono ?_
            rintro e w' ⟨rfl, hq⟩
            have hq' := hq.symm
            subst hq'
            go_wp2_with fail
            refine (unhide HF2 _).mono ?_
            rintro e w' ⟨rfl, hq⟩
            have hq' := hq.symm
            subst hq'
            go_wp2
            go_ret
            exact ⟨rfl, ((unhide HKR).alloc _).alloc _⟩
          · have tg : decide ((1 : Int) < (u : Int)) = true := by simp; omega
            have tg2 : (1 : Int) < (u : Int) := by omega
            clear hu1 hu0
            go_wp2_with fail
            refine (unhide HC1).mono ?_
            rintro e w' ⟨rfl, hq⟩
            have hq' := hq.symm
            subst hq'
            go_wp2_with fail
            refine (unhide HC2).mono ?_
            rintro e w' ⟨rfl, hq⟩
            have hq' := hq.symm
            subst hq'
            go_wp2
            go_ret
            exact ⟨rfl, unhide HKR⟩
end Go.Proofs.YtlcepoomjnpfpabDoor
