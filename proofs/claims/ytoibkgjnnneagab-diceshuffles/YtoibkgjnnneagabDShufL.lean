/- DiceShuffles: the walk. -/
import Derived.Test.YtoibkgjnnneagabDShuf
namespace Go.Proofs.Ytoibkgjnnneagab
open Go.RowKit

theorem blk_type {w : World} {b : Nat} {c d : Array Value} {t u : TypeId} (h : Blk w b c t) (k : Blk w b d u) : t = u := by
  unfold Blk at h k; rw [h] at k; cases k; rfl
/-- truths as cells -/
def bools (l : List Bool) : List Value := l.map Value.bool
theorem bools_at (l : List Bool) {j : Nat} (hj : j < l.length) : (bools l)[j]? = some (.bool (l.getD j false)) := by
  simp [bools, List.getElem?_eq_getElem hj]
/-- which numbers below n are among the first i -/
def seenL (L : List Int) (n i : Nat) : List Bool := (List.range n).map (fun x : Nat => (L.take i).contains (x : Int))
theorem seenL_length (L : List Int) (n i : Nat) : (seenL L n i).length = n := by simp [seenL]
theorem seenL_at {L : List Int} {n i k : Nat} (hk : k < n) : (seenL L n i).getD k false = (L.take i).contains (k : Int) := by
  simp [seenL, List.getD, hk]
theorem seen_no {n : Nat} {L : List Int} (h : Once n L) {i k : Nat} (hi : i < n) (hk : L.getD i 0 = (k : Int)) : (L.take i).contains (k : Int) = false := by
  rw [List.contains_eq_any_beq, List.any_eq_false]
  intro z hz
  obtain ⟨j, hj, rfl⟩ := List.mem_iff_getElem.1 hz
  simp at hj
  intro he
  have he2 : (k : Int) = (L.take i)[j] := by simpa using he
  have h3 : L.getD j 0 = (k : Int) := by
    rw [he2]; simp [List.getD, List.getElem?_eq_getElem (show j < L.length by omega)]
  have := h.one j i (by omega) hi (by rw [h3, hk])
  omega
theorem seenL_set {n : Nat} {L : List Int} (h : Once n L) {i k : Nat} (hi : i < n) (hk : L.getD i 0 = (k : Int)) : (seenL L n i).set k true = seenL L n (i + 1) := by
  have hl := h.len
  have e : L.take (i + 1) = L.take i ++ [(k : Int)] := by
    rw [List.take_add_one, List.getElem?_eq_getElem (by omega)]
    have : L[i] = (k : Int) := by rw [← hk]; simp [List.getD, List.getElem?_eq_getElem (show i < L.length by omega)]
    rw [this]; rfl
  apply List.ext_getElem?
  intro x
  rw [List.getElem?_set]
  unfold seenL
  by_cases hx : x < n
  · by_cases hkx : k = x
    · subst hkx
      simp [hx, e]
    · have : ((x : Int) == (k : Int)) = false := by simp; omega
      simp [hx, hkx, e]
      omega
  · simp [hx]; intro h; omega
theorem bools_arr_set (l : List Bool) (k : Nat) (x : Bool) : (bools l).toArray.setIfInBounds k (.bool x) = (bools (l.set k x)).toArray := by
  simp [bools, List.map_set]
theorem made_bools (n : Nat) (L : List Int) : madeCells #[Value.bool false] n = (bools (seenL L n 0)).toArray := by
  apply Array.ext_getElem?
  intro i
  by_cases hi : i < n
  · simp [madeCells, hi, Nat.mod_one, bools, seenL]
  · rw [Array.getElem?_eq_none (by rw [size_madeCells]; omega), Array.getElem?_eq_none (by simp [bools, seenL]; omega)]
theorem info4p : (Try.prog.info? 4).map (fun i => (i.zero, i.size, i.bytes)) = some (some (.bool false), 1, 1) := by kernel_rfl

/-- the rolls alone: the strides of a shuffle -/
theorem stp_roll (n s t : Nat) : (stp n s (t + 1)).2 = (stp n s t).2 + (rollK 16 (n - t) (on s (stp n s t).2)).2 := rfl

set_option maxRecDepth 100000 in
set_option maxHeartbeats 4000000 in
theorem shuffles_low (w : World) (s : Nat) (n : Int) (hs : s < 18446744073709551616) (hn : n ≤ 0) :
    Calls Try.prog 3 #[.int .u64 s, .int .i64 n] w fun e w' => e = .returned (.bool true) ∧ Kept [] w w' := by
  have HA := hide (awake_any w)
  have HN := fun w => hide (new_any w s hs)
  have HQ := fun w b => hide (shuffle_no (w := w) (b := b) n (Or.inl (by omega)))
  have t0 : ¬ n > 0 := by omega
  have t1 : n < 1 := by omega
  go_enter Try.func3, Try.ntmps3
  go_wp2_with (first
    | (go_at_call 6; refine (unhide HA).mono ?_; rintro e w1 ⟨rfl, hkp⟩; clear HA; replace hkp := hide hkp)
    | (go_at_call 8; refine (unhide (HN _)).mono ?_; rintro e w2 ⟨b, rfl, hd, hb, hk⟩; clear HN; replace hkp := hide ((unhide hkp).more hk); have HS := hide (state_any hd); clear hd hb hk)
    | (go_at_call 9; refine (unhide (HQ _ _)).mono ?_; rintro e w3 ⟨rfl, hq⟩; have hq' := hq.symm; subst hq'; clear HQ)
    | (go_at_call 10; refine (unhide HS).mono ?_; rintro e w3 ⟨rfl, hq⟩; have hq' := hq.symm; subst hq'; clear HS))
  go_ret
  exact ⟨rfl, unhide hkp⟩

set_option maxRecDepth 100000 in
set_option maxHeartbeats 4000000 in
theorem shuffles_high (w : World) (s : Nat) (num : Int) (hs : s < 18446744073709551616) (hn : 0 < num) :
    Calls Try.prog 3 #[.int .u64 s, .int .i64 num] w fun e w' => e = .returned (.bool true) ∧ Kept [] w w' := by
  have HA := hide (awake_any w)
  have HN := fun w => hide (new_any w s hs)
  have HN2 := HN
  have HR := fun w => hide (round_any w num 500 (by omega) (by omega))
  obtain ⟨r, hr, hrl⟩ : ∃ r : Nat, num % ((500 : Nat) : Int) = (r : Int) ∧ r < 500 := by
    have h1 := Int.emod_nonneg num (b := 500) (by omega)
    have h2 := Int.emod_lt_of_pos num (b := 500) (by omega)
    exact ⟨(num % 500).toNat, by show num % 500 = _; omega, by omega⟩
  rw [hr] at HR
  clear hr
  obtain ⟨n, hnr⟩ : ∃ n : Nat, 1 + r = n := ⟨_, rfl⟩
  have er : 1 + (r : Int) = (n : Int) := by omega
  have n1 : 1 ≤ n := by omega
  have n2 : n ≤ 500 := by omega
  have HQ := fun w1 b1 (h : Dc w1 b1 s) => hide (shuffle_any h n (by omega) (by omega))
  have HO := hide (stp_once n s (n - 1) (by omega))
  have HC := hide (stp_count n s (n - 1))
  have HT := fun w => hide (stepsAt_any w s (on s (stp n s (n - 1)).2) hs (on_lt _ _))
  rw [steps_on hs, Nat.mod_eq_of_lt (by have := stp_count n s (n - 1); omega)] at HT
  have HZ := fun w b => hide (shuffle_no (w := w) (b := b) 65537 (Or.inr (by omega)))
  obtain ⟨i1, hi, hz0, hz1, hz2⟩ := info_parts info4p
  have HI4 := hide (⟨hi, hz0, hz1, hz2⟩ : _ ∧ _ ∧ _ ∧ _)
  clear hi hz0 hz1 hz2
  have t0 : num > 0 := by omega
  have t1 : ¬ (n : Int) < 1 := by omega
  clear hnr hrl
  have h0 := on_zero hs
  go_enter Try.func3, Try.ntmps3
  go_wp2_with (first
    | (go_at_call 6; refine (unhide HA).mono ?_; rintro e w1 ⟨rfl, hkp⟩; clear HA; replace hkp := hide hkp)
    | (go_at_call 7; refine (unhide (HR _)).mono ?_; rintro e w2 ⟨rfl, hq⟩; have hq' := hq.symm; subst hq'; clear HR)
    | (go_at_call 8; refine (unhide (HN _)).mono ?_; rintro e w2 ⟨b, rfl, hd, hb, hk⟩; clear HN; have gb : w.heap.size ≤ b := Nat.le_trans (unhide hkp).size hb; replace hkp := hide ((unhide hkp).more hk); have HQ2 := HQ _ _ hd; clear HQ hd hb hk)
    | (go_at_call 9; refine (unhide HQ2).mono ?_; rintro e w3 ⟨g, rfl, hbl, hg, hd, hk⟩; clear HQ2; have gg : w.heap.size ≤ g := Nat.le_trans (unhide hkp).size hg; replace hkp := hide ((unhide hkp).push hk gb); replace hbl := hide hbl; replace hd := hide hd; clear hk)
    | (at_make; refine wpList_make_row _ rfl _ _ 30 rfl 4 i1 (.bool false) Try.underlying30 (unhide HI4).1 (unhide HI4).2.1 (unhide HI4).2.2.1 rfl .i64 .i64 n rfl rfl ?b2 (by omega) ?_))
  case b2 => rw [(unhide HI4).2.2.2]; omega
  have hMB := made_bools n (stp n s (n - 1)).1
  rw [hMB]
  clear hMB HI4
  have HRo := hide (fun t => stp_roll n s t)
  obtain ⟨hn1, hn2⟩ : (n - 1 ≤ (stp n s (n - 1)).2 ∧ (stp n s (n - 1)).2 ≤ 16 * (n - 1)) := unhide HC
  generalize hL : (stp n s (n - 1)).1 = L at *
  obtain ⟨C, hC⟩ : ∃ C, (stp n s (n - 1)).2 = C := ⟨_, rfl⟩
  have HCC := hide hC
  rw [hC] at hn1 hn2 HT
  replace hd : Hid (Dc w3 b (on s C)) := by have := unhide hd; rw [hC] at this; exact this
  clear hL hC HC
  have hbl3 := (unhide hbl).lt
  have hb3 := (unhide hd).blk.lt
  have hgb : g ≠ b := by intro e; have h1 := (unhide hbl); have h2 := (unhide hd).blk; rw [e] at h1; exact absurd (blk_type h1 h2) (by decide)
  have gq : w.heap.size ≤ w3.heap.size := (unhide hkp).size
  generalize hq : w3.heap.size = q at *
  have hw0 : Hid (Blk (w3.alloc (.cells (bools (seenL L n 0)).toArray 4)) q (bools (seenL L n 0)).toArray 4 ∧ Kept [] w3 (w3.alloc (.cells (bools (seenL L n 0)).toArray 4))) :=
    ⟨by rw [← hq]; exact Blk.new w3 _ _, (Kept.refl _ _).alloc _⟩
  generalize w3.alloc (.cells (bools (seenL L n 0)).toArray 4) = w4 at *
  have hB4 := hide ((unhide hbl).kept (unhide hw0).2 (by simp))
  have hD4 := hide ((unhide hd).keep (unhide hw0).2 (by simp))
  have hK4 := hide ((unhide hkp).more (unhide hw0).2)
  have hQ4 := hide (unhide hw0).1
  clear hbl hd hkp hw0
  go_wp2_with fail
  go_loopw [8] (fun s8 wr => ∃ i : Nat, i ≤ n ∧ s8 = .int .i64 i ∧ Blk wr g (ints L).toArray 3 ∧ Blk wr q (bools (seenL L n i)).toArray 4 ∧ Dc wr b (on s C) ∧ Kept [] w wr) (fun s8 _ => n - (intOf s8).toNat)
  case atStart => exact ⟨0, by omega, rfl, unhide hB4, unhide hQ4, unhide hD4, unhide hK4⟩
  case round =>
    obtain ⟨i, hi, rfl, hb, hqb, hd, hkp⟩ := hrel
    clear hB4 hQ4 hD4 hK4
    by_cases hlt : i < n
    · obtain ⟨l1, l2⟩ := (unhide HO).low i hlt
      obtain ⟨k, hk⟩ : ∃ k : Nat, L.getD i 0 = (k : Int) := ⟨(L.getD i 0).toNat, by omega⟩
      rw [hk] at l1 l2
      have hno := seen_no (unhide HO) hlt hk
      have hset := seenL_set (unhide HO) hlt hk
      have c1 := blk_at hb (j := i) (by rw [(unhide HO).len]; exact hlt)
      rw [hk] at c1
      have c2 : wr.cell? ⟨q, k, none⟩ = some (.bool false) := by
        rw [hqb.cell, List.getElem?_toArray, bools_at _ (by rw [seenL_length]; omega), seenL_at (by omega), hno]
      have f2 := hqb.frozen k
      have N1 : Hid (Blk (wr.setCell ⟨q, k, none⟩ (.bool true)) q (bools (seenL L n (i + 1))).toArray 4) := by
        have := hqb.set k (.bool true); rw [bools_arr_set, hset] at this; exact this
      have hKK : Kept [q] wr (wr.setCell ⟨q, k, none⟩ (.bool true)) := (Kept.refl _ _).setCell (p := ⟨q, k, none⟩) (Or.inl (by simp)) _
      have N2 := hide (hb.kept hKK (by simp; omega))
      have N3 := hide (hd.keep hKK (by simp; omega))
      have N4 := hide (hkp.push hKK gq)
      have t5 : ¬ (k : Int) < 0 := by omega
      have t6 : ¬ (k : Int) ≥ (n : Int) := by omega
      clear hb hqb hd hkp hKK hno hset hk
      go_wp2
      exact ⟨⟨i + 1, by omega, by simp, unhide N2, unhide N1, unhide N3, unhide N4⟩, by simp [intOf]; omega⟩
    · obtain rfl : i = n := by omega
      clear hb hqb HO
      have HS := hide (state_any hd)
      replace hd := hide hd
      replace hkp := hide hkp
      have e1 : (i : Int) - 1 = ((i - 1 : Nat) : Int) := by omega
      go_wp2_with (first
        | (go_at_call 10; refine (unhide HS).mono ?_; rintro e w5 ⟨rfl, hq⟩; have hq' := hq.symm; subst hq'; clear HS)
        | (go_at_call 11; refine (unhide (HT _)).mono ?_; rintro e w5 ⟨rfl, hq⟩; have hq' := hq.symm; subst hq'; clear HT)
        | (go_at_call 8; refine (unhide (HN2 _)).mono ?_; rintro e w6 ⟨b2, rfl, hd2, hb2, hk2⟩; clear HN2; have gb2 : w.heap.size ≤ b2 := Nat.le_trans (unhide hkp).size hb2; have hbb : b ≠ b2 := (by have := (unhide hd).blk.lt; omega); replace hkp := hide ((unhide hkp).more hk2); replace hd := hide ((unhide hd).keep hk2 (by simp)); replace hd2 := hide hd2; clear hb2 hk2))
      go_loopw [12] (fun s12 wx => ∃ t : Nat, t ≤ i - 1 ∧ s12 = .int .i64 ((i : Int) - 1 - t) ∧ Dc wx b2 (on s (stp i s t).2) ∧ Dc wx b (on s C) ∧ Kept [] w wx) (fun s12 _ => (intOf s12).toNat)
      case atStart => exact ⟨0, by omega, by simp; omega, by rw [show (stp i s 0).2 = 0 from rfl, h0]; exact unhide hd2, unhide hd, unhide hkp⟩
      case round =>
        obtain ⟨t, ht, rfl, q2, q1, hkp2⟩ := hrel
        by_cases hlt : t < i - 1
        · have hR := hide (roll_any q2 (i - t) (by omega) (by omega))
          rw [on_on, ← unhide HRo t] at hR
          obtain ⟨j, hj⟩ : ∃ j : Nat, i - 1 - t = j := ⟨_, rfl⟩
          have ei : (i : Int) - 1 - (t : Int) = (j : Int) := by omega
          have ek : i - t = j + 1 := by omega
          rw [ek] at hR
          rw [ei]
          generalize rollK 16 (j + 1) (on s (stp i s t).2) = rr at *
          replace q1 := hide q1
          have q3 : 1 ≤ j := by omega
          clear q2 e1 hd hd2 hkp
          go_wp2_with (first
            | (go_at_call 12; refine (unhide hR).mono ?_; rintro e w7 ⟨rfl, hd7, hk7⟩; clear hR; have N1 := hide ((unhide q1).keep hk7 (by simpa using hbb)); have N2 := hide (hkp2.push hk7 gb2); replace hd7 := hide hd7; clear q1 hk7))
          exact ⟨⟨t + 1, by omega, by congr 1; omega, unhide hd7, unhide N1, unhide N2⟩, by simp [intOf]; omega⟩
        · obtain rfl : t = i - 1 := by omega
          have e2 : (i : Int) - 1 - ((i - 1 : Nat) : Int) = 0 := by omega
          rw [e2]
          rw [unhide HCC] at q2
          have HS1 := hide (state_any q1)
          have HS2 := hide (state_any q2)
          replace hkp2 := hide hkp2
          clear q1 q2 hd hd2 hkp HRo
          have t7 : ((i : Int) - 1 ≤ (C : Int)) := by omega
          have t8 : ((C : Int) ≤ 16 * ((i : Int) - 1)) := by omega
          go_wp2_with (first
            | (go_at_call 9; refine (unhide (HZ _ _)).mono ?_; rintro e w8 ⟨rfl, hq⟩; have hq' := hq.symm; subst hq'; clear HZ)
            | (go_at_call 10; refine (unhide HS2).mono ?_; rintro e w8 ⟨rfl, hq⟩; have hq' := hq.symm; subst hq')
            | (go_at_call 10; refine (unhide HS1).mono ?_; rintro e w8 ⟨rfl, hq⟩; have hq' := hq.symm; subst hq'))
          go_ret
          exact ⟨rfl, unhide hkp2⟩

theorem shuffles_walk (w : World) (s : Nat) (n : Int) (hs : s < 18446744073709551616) :
    Calls Try.prog 3 #[.int .u64 s, .int .i64 n] w fun e w' => e = .returned (.bool true) ∧ Kept [] w w' := by
  by_cases h : 0 < n
  · exact shuffles_high w s n hs h
  · exact shuffles_low w s n hs (by omega)
end Go.Proofs.Ytoibkgjnnneagab
