/- Holder. -/
import Derived.Test.YtnpabeodakncfaaGCase
import Derived.Test.YtnpabeodakncfaaGArg
import Derived.Deep.DeepCutAuto
import Derived.BigRegion
namespace Go.Proofs.Ytnpabeodakncfaa
open Go.RowKit

def otr (a b : Ld) : Bool := decide (b.ep < a.ep ∨ a.ep = b.ep ∧ a.ph = 1 ∧ b.ph ≠ 1)
set_option maxRecDepth 100000 in
theorem outranks_any (w : World) (a b : Ld) : Calls Try.prog 48 #[lv a, lv b] w fun e w' => e = .returned (.bool (otr a b)) ∧ Kept [] w w' := by
  have HS := fun W a b c => serves_any W ⟨a, b, c⟩
  obtain ⟨aa, ab, ac⟩ := a
  obtain ⟨ba, bb, bc⟩ := b
  unfold lv at *
  dsimp only at *
  go_enter Try.func48, Try.ntmps48
  go_wp2_with (go_at_call 26; refine (HS _ _ _ _).mono ?_; rintro e w3 ⟨rfl, hk⟩; (first | (have hB := (new2 w _ _ _).kept hk (by simp); have hK := (((Kept.refl [] w).alloc _).alloc _).step hk) | (replace hK := hK.step hk)); clear hk; obtain ⟨b0, b1, b2⟩ := box3 hB)
  all_goals
    go_ret
    refine ⟨ret_bool ?_, ?_⟩
    · rw [Bool.eq_iff_iff]
      clear HS
      simp [otr] at *
      first | done | omega
    · first | exact hK | exact ((Kept.refl _ _).alloc _).alloc _
def hstep (row : List Ld) (st : Int × Bool) (i : Nat) (l : Ld) : Int × Bool :=
  if clm l = false then st else if st.1 < 0 ∨ otr l (row.getD st.1.toNat ⟨0, 0, 0⟩) = true then ((i : Int), false) else if otr (row.getD st.1.toNat ⟨0, 0, 0⟩) l = false then (st.1, true) else st
def hst (row : List Ld) : Nat → Int × Bool
  | 0 => (-1, false)
  | k + 1 => hstep row (hst row k) k (row.getD k ⟨0, 0, 0⟩)
def hldr (row : List Ld) : Int := if (hst row row.length).2 = true then -1 else (hst row row.length).1
theorem hst_range (row : List Ld) : ∀ k, -1 ≤ (hst row k).1 ∧ (hst row k).1 < k
  | 0 => by simp [hst]
  | k + 1 => by
    have := hst_range row k
    simp only [hst, hstep]
    (repeat' split) <;> (try dsimp only) <;> omega
theorem sizeLed : (Try.prog.info? 25).map (·.size) = some 3 := by kernel_rfl
theorem row_at {w : World} {v : Value} {row : List Ld} {a : Option Addr} {n c : Nat} (h : RowOf 3 lc w v row) (hv : v = .slice a n c) {k : Nat} (hk : k < row.length) : ∃ b off, a = some ⟨b, off, none⟩ ∧ b < w.heap.size ∧ w.rangeAt b (off + k * 3) (lc (row.getD k ⟨0, 0, 0⟩)) := by
  obtain ⟨a', cap, hv', -, h2⟩ := h
  rw [hv] at hv'
  cases hv'
  refine h2 k _ ?_
  rw [List.getD, List.getElem?_eq_getElem hk]; rfl
theorem row_cells {w : World} {b o : Nat} {l : Ld} (h : w.rangeAt b o (lc l)) : w.cell? ⟨b, o, none⟩ = some (.int .i64 l.ph) ∧ w.cell? ⟨b, o + 1, none⟩ = some (.int .i64 l.ep) ∧ w.cell? ⟨b, o + 2, none⟩ = some (.int .i64 l.pe) := ⟨h 0 _ rfl, h 1 _ rfl, h 2 _ rfl⟩
theorem RowOf.kept {α : Type} {kz : Nat} {ce : α → List Value} {w w' : World} {v : Value} {os : List α} (h : RowOf kz ce w v os) (hk : Kept [] w w') : RowOf kz ce w' v os := by
  obtain ⟨a, cap, rfl, h1, h2⟩ := h
  refine ⟨a, cap, rfl, h1, fun k o ho => ?_⟩
  obtain ⟨b, off, rfl, h4, h5⟩ := h2 k o ho
  exact ⟨b, off, rfl, Nat.lt_of_lt_of_le h4 hk.size, range_kept h5 hk h4 (by simp)⟩

set_option maxRecDepth 100000 in
set_option maxHeartbeats 1000000 in
theorem holder_any {w : World} {v : Value} {row : List Ld} (hv : RowOf 3 lc w v row) : Calls Try.prog 14 #[v] w fun e w' => e = .returned (.int .i64 (hldr row)) ∧ Kept [] w w' := by
  have HV := hide hv
  obtain ⟨pa, pcap, rfl, hlen, -⟩ := hv
  have HC := fun W a b c => claims_any W ⟨a, b, c⟩
  have HO := fun W a b c d e f => outranks_any W ⟨a, b, c⟩ ⟨d, e, f⟩
  unfold lv at HC HO
  dsimp only at HC HO
  obtain ⟨n, hn⟩ : ∃ n, row.length = n := ⟨_, rfl⟩
  unfold hldr
  rw [hn] at hlen HV ⊢
  have HL := hide hn
  clear hn
  go_enter Try.func14, Try.ntmps14
  go_wp2_with fail
  go_loopw [3, 4, 9] (fun h sv i wr => ∃ k : Nat, k ≤ n ∧ i = .int .i64 (k : Int) ∧ h = .int .i64 (hst row k).1 ∧ sv = .bool (hst row k).2 ∧ Kept [] w wr) (fun _ _ i _ => n - (intOf i).toNat)
  case atStart => exact ⟨0, by omega, rfl, rfl, rfl, Kept.refl _ _⟩
  case round =>
    obtain ⟨k, hk, rfl, rfl, rfl, hkp⟩ := hrel
    by_cases hlt : k < n
    · have hkn : k < row.length := by rw [unhide HL]; exact hlt
      obtain ⟨ob, off, hpa, hbl, hrg⟩ := row_at ((unhide HV).kept hkp) rfl hkn
      subst hpa
      obtain ⟨d0, d1, d2⟩ := row_cells hrg
      have HST : Hid (hst row (k + 1) = hstep row (hst row k) k (row.getD k ⟨0, 0, 0⟩)) := rfl
      have hrng := hst_range row k
      generalize hH : hst row k = H at *
      clear hH
      obtain ⟨h, sv⟩ := H
      generalize hlk : row.getD k ⟨0, 0, 0⟩ = l at *
      have HB := hide hbl
      have HKP := hide hkp
      have HRG := hide hrg
      unfold hstep at HST
      dsimp only at HST hrng ⊢
      clear hrg hkp hkn hlk
      by_cases hc : clm l = false
      · rw [if_pos hc] at HST
        have HS2 := hide hc
        obtain ⟨la, lb, lc'⟩ := l
        dsimp only at *
        go_wp2_with (first
          | (go_at_call 47; refine (HC _ _ _ _).mono ?_; rintro e w2 ⟨rfl, hk2⟩; have HK2 := hide (((unhide HKP).alloc _).step hk2); clear hk2))
        refine ⟨⟨k + 1, by omega, by simp, by rw [unhide HST], by rw [unhide HST], unhide HK2⟩, by simp [intOf]; omega⟩
      · rw [if_neg hc] at HST
        have hc' : clm l = true := by cases hq : clm l <;> simp_all
        clear hc
        by_cases hneg : h < 0
        · rw [if_pos (Or.inl hneg)] at HST
          obtain ⟨la, lb, lc'⟩ := l
          dsimp only at *
          have hh : (h < 0) = True := by simp; omega
          go_wp2_with (first
            | (go_at_call 47; refine (HC _ _ _ _).mono ?_; rintro e w2 ⟨rfl, hk2⟩; have HK2 := hide (((unhide HKP).alloc _).step hk2); have HBX := hide ((Blk.new wr _ _).kept hk2 (by simp)); have HQ := hide hk2; clear hk2))
          go_region
          go_wp2
          refine ⟨⟨k + 1, by omega, by simp, by rw [unhide HST], by rw [unhide HST], (unhide HK2).drew⟩, by simp [intOf]; omega⟩
        · obtain ⟨m, rfl⟩ : ∃ m : Nat, h = (m : Int) := ⟨h.toNat, by omega⟩
          rw [Int.toNat_natCast] at HST
          have hmk : m < k := by omega
          have hmn : m < row.length := by rw [unhide HL]; omega
          obtain ⟨ob2, off2, hpa2, -, hrg2⟩ := row_at ((unhide HV).kept (unhide HKP)) rfl hmn
          cases hpa2
          generalize hlm : row.getD m ⟨0, 0, 0⟩ = q at *
          clear hlm
          have HR2 := hide hrg2
          have hh : ((m : Int) < 0) = False := by simp
          have hm1 : (m : Int) < (n : Int) := by omega
          have HNG := hide hneg
          clear hneg hrg2
          obtain ⟨la, lb, lc'⟩ := l
          obtain ⟨qa, qb, qc⟩ := q
          dsimp only at *
          go_wp2_with (first
            | (go_at_call 47; refine (HC _ _ _ _).mono ?_; rintro e w2 ⟨rfl, hk2⟩; have HK2 := hide (((unhide HKP).alloc _).step hk2); have HBX := hide ((Blk.new wr _ _).kept hk2 (by simp)); have HQ := hide hk2; clear hk2))
          have hbx := unhide HBX
          have hkq := (Kept.refl [] wr).alloc (.cells #[.int .i64 la, .int .i64 lb, .int .i64 lc'] 25)
          have hr2 := range_kept (range_kept (unhide HR2) hkq (unhide HB) (by simp)) (unhide HQ) (Nat.lt_of_lt_of_le (unhide HB) hkq.size) (by simp)
          have hb2 : ob < w2.heap.size := Nat.lt_of_lt_of_le (Nat.lt_of_lt_of_le (unhide HB) hkq.size) (unhide HQ).size
          have hK2 := unhide HK2
          have HSS : Hid (Kept [] w w2 ∧ ob < w2.heap.size ∧ w2.rangeAt ob (off + m * 3) (lc ⟨qa, qb, qc⟩) ∧ Blk w2 wr.heap.size #[.int .i64 la, .int .i64 lb, .int .i64 lc'] 25) := ⟨hK2, hb2, hr2, hbx⟩
          clear HQ HBX HK2 HB HRG HR2 hbx hkq hr2 hb2 hK2 HKP d0 d1 d2
          obtain ⟨hK2, hb2, hr2, hbx⟩ := unhide HSS
          clear HSS
          have hbdA : Blk w2.drew wr.heap.size #[.int .i64 la, .int .i64 lb, .int .i64 lc'] 25 := hbx
          have hrdA : w2.drew.rangeAt ob (off + m * 3) (lc ⟨qa, qb, qc⟩) := hr2
          have hkdA : Kept [] w w2.drew := hK2.drew
          have hldA : ob < w2.drew.heap.size := hb2
          go_region_held3 (fun w' => w'.cell? ⟨wr.heap.size, 0, none⟩ = some (.int .i64 la) ∧ w'.cell? ⟨wr.heap.size, 1, none⟩ = some (.int .i64 lb) ∧ w'.cell? ⟨wr.heap.size, 2, none⟩ = some (.int .i64 lc') ∧ w'.cell? ⟨ob, off + m * 3, none⟩ = some (.int .i64 qa) ∧ w'.cell? ⟨ob, off + m * 3 + 1, none⟩ = some (.int .i64 qb) ∧ w'.cell? ⟨ob, off + m * 3 + 2, none⟩ = some (.int .i64 qc) ∧ Kept [] w w' ∧ ob < w'.heap.size ∧ w'.rangeAt ob (off + m * 3) (lc ⟨qa, qb, qc⟩) ∧ Blk w' wr.heap.size #[.int .i64 la, .int .i64 lb, .int .i64 lc'] 25) (first | assumption | exact ⟨hbdA.cell 0, hbdA.cell 1, hbdA.cell 2, hrdA 0 _ rfl, hrdA 1 _ rfl, hrdA 2 _ rfl, hkdA, hldA, hrdA, hbdA⟩) (first
            | (go_at_call 48; refine (HO _ _ _ _ _ _ _).mono ?_; rintro e w3 ⟨rfl, hk3⟩
               obtain ⟨-, -, -, -, -, -, hkz, hlz, hrz, hbz⟩ : _ ∧ _ ∧ _ ∧ _ ∧ _ ∧ _ ∧ Kept [] w _ ∧ _ ∧ World.rangeAt _ _ _ _ ∧ Blk _ _ _ _ := by assumption
               have hkz3 := hkz.step hk3
               have hlz3 : ob < w3.heap.size := Nat.lt_of_lt_of_le hlz hk3.size
               have hrz3 := range_kept hrz hk3 hlz (by simp)
               have hbz3 := hbz.kept hk3 (by simp)
               have HS3 : w3.cell? ⟨wr.heap.size, 0, none⟩ = some (.int .i64 la) ∧ w3.cell? ⟨wr.heap.size, 1, none⟩ = some (.int .i64 lb) ∧ w3.cell? ⟨wr.heap.size, 2, none⟩ = some (.int .i64 lc') ∧ w3.cell? ⟨ob, off + m * 3, none⟩ = some (.int .i64 qa) ∧ w3.cell? ⟨ob, off + m * 3 + 1, none⟩ = some (.int .i64 qb) ∧ w3.cell? ⟨ob, off + m * 3 + 2, none⟩ = some (.int .i64 qc) ∧ Kept [] w w3 ∧ ob < w3.heap.size ∧ w3.rangeAt ob (off + m * 3) (lc ⟨qa, qb, qc⟩) ∧ Blk w3 wr.heap.size #[.int .i64 la, .int .i64 lb, .int .i64 lc'] 25 := ⟨hbz3.cell 0, hbz3.cell 1, hbz3.cell 2, hrz3 0 _ rfl, hrz3 1 _ rfl, hrz3 2 _ rfl, hkz3, hlz3, hrz3, hbz3⟩))
          refine world_at (R := fun W => Kept [] w W ∧ ob < W.heap.size ∧ W.rangeAt ob (off + m * 3) (lc ⟨qa, qb, qc⟩) ∧ Blk W wr.heap.size #[.int .i64 la, .int .i64 lb, .int .i64 lc'] 25) ⟨hkz3, hlz3, hrz3, hbz3⟩ ?_
          clear HS3 hkz3 hlz3 hrz3 hbz3 hkz hlz hrz hbz hk3 hbdA hrdA hkdA hldA hK2 hb2 hr2 hbx
          rintro W4 ⟨hK4, hb4, hr4, hbx4⟩
          generalize ho1 : otr ⟨la, lb, lc'⟩ ⟨qa, qb, qc⟩ = o1 at *
          generalize ho2 : otr ⟨qa, qb, qc⟩ ⟨la, lb, lc'⟩ = o2 at *
          have HO2 := hide ho2
          clear ho2
          cases o1 with
          | true =>
            rw [if_pos (Or.inr rfl)] at HST
            go_wp2_with fail
            refine ⟨⟨k + 1, by omega, by simp, by rw [unhide HST], by rw [unhide HST], hK4⟩, by simp [intOf]; omega⟩
          | false =>
            rw [if_neg (by rintro (h | h); omega; cases h)] at HST
            clear ho1
            go_wp2_with fail
            have hbdB : Blk W4.drew wr.heap.size #[.int .i64 la, .int .i64 lb, .int .i64 lc'] 25 := hbx4
            have hrdB : W4.drew.rangeAt ob (off + m * 3) (lc ⟨qa, qb, qc⟩) := hr4
            have hkdB : Kept [] w W4.drew := hK4.drew
            have hldB : ob < W4.drew.heap.size := hb4
            go_region_held3 (fun w' => w'.cell? ⟨wr.heap.size, 0, none⟩ = some (.int .i64 la) ∧ w'.cell? ⟨wr.heap.size, 1, none⟩ = some (.int .i64 lb) ∧ w'.cell? ⟨wr.heap.size, 2, none⟩ = some (.int .i64 lc') ∧ w'.cell? ⟨ob, off + m * 3, none⟩ = some (.int .i64 qa) ∧ w'.cell? ⟨ob, off + m * 3 + 1, none⟩ = some (.int .i64 qb) ∧ w'.cell? ⟨ob, off + m * 3 + 2, none⟩ = some (.int .i64 qc) ∧ Kept [] w w' ∧ ob < w'.heap.size ∧ w'.rangeAt ob (off + m * 3) (lc ⟨qa, qb, qc⟩) ∧ Blk w' wr.heap.size #[.int .i64 la, .int .i64 lb, .int .i64 lc'] 25) (first | assumption | exact ⟨hbdB.cell 0, hbdB.cell 1, hbdB.cell 2, hrdB 0 _ rfl, hrdB 1 _ rfl, hrdB 2 _ rfl, hkdB, hldB, hrdB, hbdB⟩) (first
              | (go_at_call 48; refine (HO _ _ _ _ _ _ _).mono ?_; rintro e w3 ⟨rfl, hk3⟩
                 obtain ⟨-, -, -, -, -, -, hkz, hlz, hrz, hbz⟩ : _ ∧ _ ∧ _ ∧ _ ∧ _ ∧ _ ∧ Kept [] w _ ∧ _ ∧ World.rangeAt _ _ _ _ ∧ Blk _ _ _ _ := by assumption
                 have hkz3 := hkz.step hk3
                 have hlz3 : ob < w3.heap.size := Nat.lt_of_lt_of_le hlz hk3.size
                 have hrz3 := range_kept hrz hk3 hlz (by simp)
                 have hbz3 := hbz.kept hk3 (by simp)
                 have HS3 : w3.cell? ⟨wr.heap.size, 0, none⟩ = some (.int .i64 la) ∧ w3.cell? ⟨wr.heap.size, 1, none⟩ = some (.int .i64 lb) ∧ w3.cell? ⟨wr.heap.size, 2, none⟩ = some (.int .i64 lc') ∧ w3.cell? ⟨ob, off + m * 3, none⟩ = some (.int .i64 qa) ∧ w3.cell? ⟨ob, off + m * 3 + 1, none⟩ = some (.int .i64 qb) ∧ w3.cell? ⟨ob, off + m * 3 + 2, none⟩ = some (.int .i64 qc) ∧ Kept [] w w3 ∧ ob < w3.heap.size ∧ w3.rangeAt ob (off + m * 3) (lc ⟨qa, qb, qc⟩) ∧ Blk w3 wr.heap.size #[.int .i64 la, .int .i64 lb, .int .i64 lc'] 25 := ⟨hbz3.cell 0, hbz3.cell 1, hbz3.cell 2, hrz3 0 _ rfl, hrz3 1 _ rfl, hrz3 2 _ rfl, hkz3, hlz3, hrz3, hbz3⟩))
            refine world_at (R := fun W => Kept [] w W) hkz3 ?_
            clear HS3 hkz3 hlz3 hrz3 hbz3 hkz hlz hrz hbz hk3 hbdB hrdB hkdB hldB hK4 hb4 hr4 hbx4
            rintro W5 hK5
            rw [unhide HO2]
            cases o2 with
            | false =>
              rw [if_pos rfl] at HST
              go_wp2_with fail
              refine ⟨⟨k + 1, by omega, by simp, by rw [unhide HST], by rw [unhide HST], hK5⟩, by simp [intOf]; omega⟩
            | true =>
              rw [if_neg (by simp)] at HST
              go_wp2_with fail
              refine ⟨⟨k + 1, by omega, by simp, by rw [unhide HST], by rw [unhide HST], hK5⟩, by simp [intOf]; omega⟩
    · obtain rfl : k = n := by omega
      have HKP := hide hkp
      clear hkp
      go_wp2_with fail
      all_goals
        go_ret
        exact ⟨rfl, unhide HKP⟩
end Go.Proofs.Ytnpabeodakncfaa
