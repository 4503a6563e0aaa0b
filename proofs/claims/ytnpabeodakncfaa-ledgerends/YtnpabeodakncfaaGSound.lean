/- Sound. -/
import Derived.Test.YtnpabeodakncfaaGHold
namespace Go.Proofs.Ytnpabeodakncfaa
open Go.RowKit

def agr (row : List Ld) (h : Int) (s : Nat) : Bool :=
  let l := row.getD s ⟨0, 0, 0⟩
  let p := row.getD l.pe.toNat ⟨0, 0, 0⟩
  if l.ph = 1 ∨ l.ph = 2 then decide ((s : Int) = h)
  else if l.ph = 3 then (if p.ep = l.ep then decide ((s : Int) = h ∨ p.ph ≠ 4) else decide (l.ep < p.ep))
  else if l.ph = 4 then (if p.ep = l.ep then decide (l.pe = h ∧ p.pe = (s : Int)) else decide (l.ep < p.ep))
  else true
def sndP (row : List Ld) : Prop :=
  (∀ i, i < row.length → vld (i : Int) (row.getD i ⟨0, 0, 0⟩) = true ∧ (row.getD i ⟨0, 0, 0⟩).pe < (row.length : Int)) ∧ 0 ≤ hldr row ∧
  ∀ i, i < row.length → (row.getD i ⟨0, 0, 0⟩).ep ≤ (row.getD (hldr row).toNat ⟨0, 0, 0⟩).ep ∧ agr row (hldr row) i = true
set_option maxRecDepth 100000 in
set_option maxHeartbeats 1000000 in
theorem agrees_any {w : World} {v : Value} {row : List Ld} (hv : RowOf 3 lc w v row) (hd : Int) (s : Nat) (hs : s < row.length) (h0 : 0 ≤ (row.getD s ⟨0, 0, 0⟩).pe) (h1 : (row.getD s ⟨0, 0, 0⟩).pe < (row.length : Int)) :
    Calls Try.prog 49 #[v, .int .i64 hd, .int .i64 (s : Int)] w fun e w' => e = .returned (.bool (agr row hd s)) ∧ Kept [] w w' := by
  have hpl : (row.getD s ⟨0, 0, 0⟩).pe.toNat < row.length := by omega
  obtain ⟨pa, pcap, hve, hlen, -⟩ := id hv
  obtain ⟨ob, off, hpa, hbl, hrg⟩ := row_at hv hve hs
  obtain ⟨ob2, off2, hpa2, -, hrg2⟩ := row_at hv hve hpl
  subst hpa
  cases hpa2
  subst hve
  unfold agr
  generalize hll : row.getD s ⟨0, 0, 0⟩ = l at *
  obtain ⟨m, hm⟩ : ∃ m : Nat, l.pe = (m : Int) := ⟨l.pe.toNat, by omega⟩
  have hmt : l.pe.toNat = m := by omega
  simp only [hmt] at *
  generalize hpp : row.getD m ⟨0, 0, 0⟩ = q at *
  obtain ⟨n, hn⟩ : ∃ n, row.length = n := ⟨_, rfl⟩
  simp only [hn] at *
  clear hll hpp hv hmt
  obtain ⟨la, lb, lc'⟩ := l
  obtain ⟨qa, qb, qc⟩ := q
  dsimp only at *
  subst hm
  obtain ⟨d0, d1, d2⟩ := row_cells hrg
  obtain ⟨e0, e1, e2⟩ := row_cells hrg2
  dsimp only at *
  clear hrg hrg2 hpl
  have hs1 : (s : Int) < (n : Int) := by omega
  have hkeep : ∀ o : Obj, ob < (w.alloc o).heap.size := fun o => by simp; omega
  generalize hA : (if la = 1 ∨ la = 2 then decide ((s : Int) = hd)
    else if la = 3 then (if qb = lb then decide ((s : Int) = hd ∨ qa ≠ 4) else decide (lb < qb))
    else if la = 4 then (if qb = lb then decide ((m : Int) = hd ∧ qc = (s : Int)) else decide (lb < qb))
    else true) = A
  have HA := hide hA
  clear hA
  go_enter Try.func49, Try.ntmps49
  go_wp2_with fail
  all_goals
    go_ret
    refine ⟨ret_bool ?_, ?_⟩
    · rw [← unhide HA]
      clear HA d0 d1 d2 e0 e1 e2
      rw [Bool.eq_iff_iff]
      (repeat' split) <;> simp_all <;> omega
    · exact ((Kept.refl _ _).alloc _).alloc _
theorem vld_pe {s : Int} {l : Ld} (h : vld s l = true) : 0 ≤ l.pe := by
  simp only [vld, decide_eq_true_eq] at h; omega
set_option maxRecDepth 100000 in
set_option maxHeartbeats 2000000 in
theorem sound_any {w : World} {v : Value} {row : List Ld} (hv : RowOf 3 lc w v row) (b : Bool) (hb : b = true ↔ sndP row) : Calls Try.prog 16 #[v] w fun e w' => e = .returned (.bool b) ∧ Kept [] w w' := by
  have HV := hide hv
  have HB := hide hb
  clear hb
  obtain ⟨pa, pcap, rfl, hlen, -⟩ := hv
  have HVD := fun W s a b c => valid_any W s ⟨a, b, c⟩
  have HHD := fun W (h : RowOf 3 lc W (.slice pa row.length pcap) row) => holder_any h
  have HAG := fun W (h : RowOf 3 lc W (.slice pa row.length pcap) row) => agrees_any h
  unfold lv at HVD
  dsimp only at HVD
  obtain ⟨n, hn⟩ : ∃ n, row.length = n := ⟨_, rfl⟩
  simp only [hn] at hlen HV HHD HAG ⊢
  have HL := hide hn
  clear hn
  go_enter Try.func16, Try.ntmps16
  go_wp2_with fail
  go_loopw [10] (fun i wr => ∃ k : Nat, k ≤ n ∧ i = .int .i64 (k : Int) ∧ Kept [] w wr ∧ ∀ j, j < k → vld (j : Int) (row.getD j ⟨0, 0, 0⟩) = true ∧ (row.getD j ⟨0, 0, 0⟩).pe < (n : Int)) (fun i _ => n - (intOf i).toNat)
  case atStart => exact ⟨0, by omega, rfl, Kept.refl _ _, fun j hj => by omega⟩
  case round =>
    obtain ⟨k, hk, rfl, hkp, hall⟩ := hrel
    by_cases hlt : k < n
    · have hkn : k < row.length := by rw [unhide HL]; exact hlt
      obtain ⟨ob, off, hpa, hbl, hrg⟩ := row_at ((unhide HV).kept hkp) rfl hkn
      subst hpa
      obtain ⟨d0, d1, d2⟩ := row_cells hrg
      have HALL := hide hall
      have HKP := hide hkp
      have HNO : Hid ((vld (k : Int) (row.getD k ⟨0, 0, 0⟩) = true ∧ (row.getD k ⟨0, 0, 0⟩).pe < (n : Int)) ∨ b = false) := by
        by_cases hc : vld (k : Int) (row.getD k ⟨0, 0, 0⟩) = true ∧ (row.getD k ⟨0, 0, 0⟩).pe < (n : Int)
        · exact Or.inl hc
        · refine Or.inr ?_
          cases hb : b
          · rfl
          · exact absurd (by have := ((unhide HB).1 hb).1 k hkn; rw [unhide HL] at this; exact this) hc
      clear hall hkp hrg hkn
      generalize hgl : row.getD k ⟨0, 0, 0⟩ = l at *
      have HGL := hide hgl
      clear hgl
      obtain ⟨la, lb, lc'⟩ := l
      dsimp only at *
      by_cases hgood : vld (k : Int) ⟨la, lb, lc'⟩ = true ∧ lc' < (n : Int)
      · obtain ⟨hg1, hg2⟩ := hgood
        have hg3 : ((n : Int) ≤ lc') = False := by simp; omega
        go_wp2_with (first
          | (go_at_call 32; refine (HVD _ _ _ _ _).mono ?_; rintro e w2 ⟨rfl, hk2⟩; have HK2 := hide (((unhide HKP).alloc _).step hk2); have hbx := (Blk.new wr _ _).kept hk2 (by simp); obtain ⟨b0, b1, b2⟩ := box3 hbx; clear hk2 hbx))
        refine ⟨⟨k + 1, by omega, by simp, unhide HK2, fun j hj => ?_⟩, by simp [intOf]; omega⟩
        by_cases hjk : j < k
        · exact unhide HALL j hjk
        · obtain rfl : j = k := by omega
          rw [unhide HGL]
          exact ⟨hg1, by omega⟩
      · have hbf : b = false := by
          rcases unhide HNO with h | h
          · exact absurd h hgood
          · exact h
        clear HNO
        by_cases hg1 : vld (k : Int) ⟨la, lb, lc'⟩ = true
        · have hg4 : ¬ lc' < (n : Int) := fun h => hgood ⟨hg1, h⟩
          have hg3 : ((n : Int) ≤ lc') = True := by simp; omega
          go_wp2_with (first
            | (go_at_call 32; refine (HVD _ _ _ _ _).mono ?_; rintro e w2 ⟨rfl, hk2⟩; have HK2 := hide (((unhide HKP).alloc _).step hk2); have hbx := (Blk.new wr _ _).kept hk2 (by simp); obtain ⟨b0, b1, b2⟩ := box3 hbx; clear hk2 hbx))
          go_ret
          exact ⟨by rw [hbf]; rfl, unhide HK2⟩
        · have hg3 : vld (k : Int) ⟨la, lb, lc'⟩ = false := by simpa using hg1
          clear hg1 hgood
          go_wp2_with (first
            | (go_at_call 32; refine (HVD _ _ _ _ _).mono ?_; rintro e w2 ⟨rfl, hk2⟩; have HK2 := hide (((unhide HKP).alloc _).step hk2); have hbx := (Blk.new wr _ _).kept hk2 (by simp); obtain ⟨b0, b1, b2⟩ := box3 hbx; clear hk2 hbx))
          all_goals
            go_ret
            exact ⟨by rw [hbf]; rfl, unhide HK2⟩
    · obtain rfl : k = n := by omega
      have HKP := hide hkp
      have HALL := hide hall
      clear hkp hall
      by_cases hneg : hldr row < 0
      · have hbf : b = false := by
          cases hb : b
          · rfl
          · have := ((unhide HB).1 hb).2.1
            omega
        have hh : (hldr row < 0) = True := by simp; omega
        go_wp2_with (first
          | (go_at_call 14; refine (HHD _ ((unhide HV).kept (unhide HKP))).mono ?_; rintro e w2 ⟨rfl, hk2⟩; have HK2 := hide ((unhide HKP).step hk2); clear hk2))
        go_ret
        exact ⟨by rw [hbf]; rfl, unhide HK2⟩
      · obtain ⟨m, hm⟩ : ∃ m : Nat, hldr row = (m : Int) := ⟨(hldr row).toNat, by omega⟩
        have hmt : (hldr row).toNat = m := by omega
        have hmk : m < k := by
          have h1 := hst_range row row.length
          rw [unhide HL] at h1
          have h2 : hldr row < (k : Int) := by
            unfold hldr
            rw [unhide HL]
            split <;> omega
          omega
        have hh : ((m : Int) < 0) = False := by simp
        have hm1 : (m : Int) < (k : Int) := by omega
        simp only [hm] at HHD
        clear hneg
        have HMT := hide hmt
        have HM := hide hm
        clear hmt hm
        go_wp2_with (first
          | (go_at_call 14; refine (HHD _ ((unhide HV).kept (unhide HKP))).mono ?_; rintro e w2 ⟨rfl, hk2⟩; have HK2 := hide ((unhide HKP).step hk2); clear hk2))
        clear HHD
        go_loopw [33] (fun i wr => ∃ j : Nat, j ≤ k ∧ i = .int .i64 (j : Int) ∧ Kept [] w wr ∧ ∀ z, z < j → (row.getD z ⟨0, 0, 0⟩).ep ≤ (row.getD m ⟨0, 0, 0⟩).ep ∧ agr row (m : Int) z = true) (fun i _ => k - (intOf i).toNat)
        case atStart => exact ⟨0, by omega, rfl, unhide HK2, fun j hj => by omega⟩
        case round =>
          obtain ⟨j, hj, rfl, hkp, hal2⟩ := hrel
          by_cases hlt2 : j < k
          · have hjn : j < row.length := by rw [unhide HL]; exact hlt2
            have hmn : m < row.length := by rw [unhide HL]; exact hmk
            have hvz := unhide HALL j hlt2
            have hrow := (unhide HV).kept hkp
            obtain ⟨ob, off, hpa, hbl, hrg⟩ := row_at hrow rfl hjn
            obtain ⟨ob2, off2, hpa2, -, hrg2⟩ := row_at hrow rfl hmn
            subst hpa
            cases hpa2
            have HAGJ := fun W (hh : RowOf 3 lc W (.slice (some ⟨ob, off, none⟩) k pcap) row) => HAG W hh (m : Int) j hlt2 (vld_pe hvz.1) hvz.2
            have HNO : Hid (((row.getD j ⟨0, 0, 0⟩).ep ≤ (row.getD m ⟨0, 0, 0⟩).ep ∧ agr row (m : Int) j = true) ∨ b = false) := by
              by_cases hc : (row.getD j ⟨0, 0, 0⟩).ep ≤ (row.getD m ⟨0, 0, 0⟩).ep ∧ agr row (m : Int) j = true
              · exact Or.inl hc
              · refine Or.inr ?_
                cases hb : b
                · rfl
                · exact absurd (by have := ((unhide HB).1 hb).2.2 j hjn; rw [unhide HMT, unhide HM] at this; exact this) hc
            obtain ⟨d0, d1, d2⟩ := row_cells hrg
            obtain ⟨-, e1, -⟩ := row_cells hrg2
            have HROW := hide hrow
            have HKP2 := hide hkp
            have HAL2 := hide hal2
            clear hrow hkp hal2 hrg hrg2 hvz hjn hmn HAG
            generalize hAJ : agr row (m : Int) j = A at *
            have HAJ := hide hAJ
            clear hAJ
            generalize hgl : row.getD j ⟨0, 0, 0⟩ = l at *
            generalize hgq : row.getD m ⟨0, 0, 0⟩ = q at *
            obtain ⟨la, lb, lc'⟩ := l
            obtain ⟨qa, qb, qc⟩ := q
            dsimp only at *
            have HGL := hide hgl
            have HGQ := hide hgq
            clear hgl hgq
            go_wp2_with fail
            refine world_at (R := fun W => W.cell? ⟨wr.heap.size, 1, none⟩ = some (.int .i64 lb) ∧ W.cell? ⟨ob, off + m * 3 + 1, none⟩ = some (.int .i64 qb) ∧ Kept [] w W ∧ RowOf 3 lc W (.slice (some ⟨ob, off, none⟩) k pcap) row ∧ ob < W.heap.size ∧ Blk W wr.heap.size #[.int .i64 la, .int .i64 lb, .int .i64 lc'] 25) ⟨(Blk.new wr _ _).cell 1, (((Kept.refl [] wr).alloc _).cell (p := ⟨ob, off + m * 3 + 1, none⟩) hbl (by simp)).trans e1, (unhide HKP2).alloc _, (unhide HROW).kept ((Kept.refl [] wr).alloc _), Nat.lt_of_lt_of_le hbl ((Kept.refl [] wr).alloc _).size, Blk.new wr _ _⟩ ?_
            clear d0 d1 d2 e1 HKP2 HROW
            rintro W6 ⟨g1, g2, g3, g4, g5, g6⟩
            have gd : W6.drew.cell? ⟨wr.heap.size, 1, none⟩ = some (.int .i64 lb) ∧ W6.drew.cell? ⟨ob, off + m * 3 + 1, none⟩ = some (.int .i64 qb) ∧ Kept [] w W6.drew ∧ RowOf 3 lc W6.drew (.slice (some ⟨ob, off, none⟩) k pcap) row ∧ ob < W6.drew.heap.size ∧ Blk W6.drew wr.heap.size #[.int .i64 la, .int .i64 lb, .int .i64 lc'] 25 := ⟨g1, g2, g3.drew, g4.kept ((Kept.refl [] W6).drew), g5, g6⟩
            by_cases hgt : qb < lb
            · have hbf : b = false := by
                rcases unhide HNO with h | h
                · have := h.1; omega
                · exact h
              have hg : (qb < lb) = True := by simp; omega
              go_region
              go_wp2
              go_ret
              exact ⟨by rw [hbf]; rfl, g3.drew⟩
            · have hg : (qb < lb) = False := by simp; omega
              go_region_held3 (fun w' => w'.cell? ⟨wr.heap.size, 1, none⟩ = some (.int .i64 lb) ∧ w'.cell? ⟨ob, off + m * 3 + 1, none⟩ = some (.int .i64 qb) ∧ Kept [] w w' ∧ RowOf 3 lc w' (.slice (some ⟨ob, off, none⟩) k pcap) row ∧ ob < w'.heap.size ∧ Blk w' wr.heap.size #[.int .i64 la, .int .i64 lb, .int .i64 lc'] 25) (first | assumption | exact gd) (first
                | (go_at_call 49
                   obtain ⟨hc1, hc2, hkz, hrz, hoz, hbz⟩ : _ ∧ _ ∧ Kept [] w _ ∧ RowOf 3 lc _ _ _ ∧ _ ∧ Blk _ _ _ _ := by assumption
                   refine (HAGJ _ hrz).mono ?_
                   rintro e w3 ⟨rfl, hk3⟩
                   have HS3 : w3.cell? ⟨wr.heap.size, 1, none⟩ = some (.int .i64 lb) ∧ w3.cell? ⟨ob, off + m * 3 + 1, none⟩ = some (.int .i64 qb) ∧ Kept [] w w3 ∧ RowOf 3 lc w3 (.slice (some ⟨ob, off, none⟩) k pcap) row ∧ ob < w3.heap.size ∧ Blk w3 wr.heap.size #[.int .i64 la, .int .i64 lb, .int .i64 lc'] 25 := ⟨(hbz.kept hk3 (by simp)).cell 1, (hk3.cell (p := ⟨ob, off + m * 3 + 1, none⟩) hoz (by simp)).trans hc2, hkz.step hk3, hrz.kept hk3, Nat.lt_of_lt_of_le hoz hk3.size, hbz.kept hk3 (by simp)⟩))
              have hkE := HS3.2.2.1
              cases A with
              | true =>
                go_wp2
                refine ⟨⟨j + 1, by omega, by simp, hkE, fun z hz => ?_⟩, by simp [intOf]; omega⟩
                by_cases hzj : z < j
                · exact unhide HAL2 z hzj
                · obtain rfl : z = j := by omega
                  rw [unhide HGL]
                  exact ⟨by dsimp only; omega, unhide HAJ⟩
              | false =>
                have hbf : b = false := by
                  rcases unhide HNO with h | h
                  · exact absurd h.2 (by simp)
                  · exact h
                go_wp2
                go_ret
                exact ⟨by rw [hbf]; rfl, hkE⟩
          · obtain rfl : j = k := by omega
            have hbt : b = true := by
              refine (unhide HB).2 ⟨?_, ?_, ?_⟩
              · rw [unhide HL]; exact unhide HALL
              · rw [unhide HM]; omega
              · rw [unhide HL, unhide HMT, unhide HM]; exact hal2
            have HKP2 := hide hkp
            clear hkp hal2
            go_wp2_with fail
            go_ret
            exact ⟨by rw [hbt]; rfl, unhide HKP2⟩
end Go.Proofs.Ytnpabeodakncfaa
