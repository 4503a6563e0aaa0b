/- Rank of the program. -/
import Derived.Test.YtiafnfjgmfnnoabJRankS
namespace Go.Proofs.Ytiafnfjgmfnnoab
open Go.RowKit Go.Sort Go.Shelf

/-- the rated servers among the first k -/
def rat (h : Nat) (ws : List Int) : Nat → List (Int × Nat)
  | 0 => []
  | k + 1 => rat h ws k ++ (if 1 ≤ ws.getD k 0 ∧ ws.getD k 0 ≤ 64 then [((k : Int), score h k (ws.getD k 0))] else [])
theorem rat_succ (h : Nat) (ws : List Int) (k : Nat) : rat h ws (k + 1) = rat h ws k ++ (if 1 ≤ ws.getD k 0 ∧ ws.getD k 0 ≤ 64 then [((k : Int), score h k (ws.getD k 0))] else []) := rfl
theorem rat_length (h : Nat) (ws : List Int) (k : Nat) : (rat h ws k).length ≤ k := by
  induction k with
  | zero => simp [rat]
  | succ k ih =>
    rw [rat_succ, List.length_append]
    split
    · simp; omega
    · simp; omega
/-- the order of all servers -/
def rankOf (h : Nat) (ws : List Int) : List Int := if ws.length ≤ 65536 then (sorted (rat h ws ws.length)).map (·.1) else []

theorem cells_two_new (w : World) (x y : Value) (t : TypeId) : ∀ j u, [x, y][j]? = some u → (w.alloc (.cells #[x, y] t)).cell? ((⟨w.heap.size, 0, none⟩ : Addr).add j) = some u := by
  intro j u hj
  have hadd : (⟨w.heap.size, 0, none⟩ : Addr).add j = ⟨w.heap.size, j, none⟩ := by unfold Addr.add; split <;> simp_all
  rw [hadd, (Blk.new w #[x, y] t).cell]
  simpa using hj
theorem infoR : (Try.prog.info? 38).map (fun i => (i.zero, i.size, i.bytes)) = some (some (.agg #[.int .i64 0, .int .u64 0]), 2, 16) := by kernel_rfl

/-- noughts, and numbers in their place -/
def zeri (k : Nat) (l : List Int) : List Int := l.take k ++ List.replicate (l.length - k) 0
theorem zeri_length {k : Nat} {l : List Int} (hk : k ≤ l.length) : (zeri k l).length = l.length := by simp [zeri]; omega
theorem zeri_set {k : Nat} {l : List Int} (hk : k < l.length) : (zeri k l).set k (l.getD k 0) = zeri (k + 1) l := by
  unfold zeri
  have e : (l.take k).length = k := by simp; omega
  rw [List.set_append_right _ _ (by omega), e, Nat.sub_self, show l.length - k = (l.length - (k + 1)) + 1 by omega, List.replicate_succ, List.set_cons_zero, List.take_add_one, List.getElem?_eq_getElem hk, Option.toList_some, List.append_assoc, List.getD, List.getElem?_eq_getElem hk]
  rfl
theorem zeri_all (l : List Int) : zeri l.length l = l := by simp [zeri]
theorem ints_set (l : List Int) (k : Nat) (x : Int) : ints (l.set k x) = (ints l).set k (.int .i64 x) := by simp [ints, List.map_set]
theorem ints_arr_set (l : List Int) (k : Nat) (x : Int) : (ints l).toArray.setIfInBounds k (.int .i64 x) = (ints (l.set k x)).toArray := by
  rw [ints_set]; simp
theorem made_ints (l : List Int) : madeCells #[Value.int .i64 0] l.length = (ints (zeri 0 l)).toArray := by
  apply Array.ext_getElem?
  intro i
  by_cases hi : i < l.length
  · have h2 : (ints (zeri 0 l)).toArray[i]? = (ints (zeri 0 l))[i]? := by simp
    rw [h2, ints_at _ (by rw [zeri_length (by omega)]; exact hi)]
    simp [madeCells, hi, Nat.mod_one, zeri]
  · rw [Array.getElem?_eq_none (by rw [size_madeCells]; omega), Array.getElem?_eq_none (by simp [ints, zeri]; omega)]
theorem ownI_of_blk {w : World} {base b n : Nat} {l : List Int} (h : Blk w b (ints l).toArray 3) (hb : base ≤ b) (hn : l.length = n) (hm : n ≤ 9223372036854775807) : w.ownsRow base 3 1 (.slice (some ⟨b, 0, none⟩) n n) n (ints l) := by
  refine ⟨by rw [ints_length, hn]; simp, Or.inr ⟨b, n, (ints l).toArray, rfl, hb, h, Nat.le_refl _, by unfold maxLen; omega, by simp [ints, hn], ?_⟩⟩
  rw [Nat.mul_one, List.take_of_length_le (by simp [ints, hn])]

set_option maxRecDepth 100000 in
set_option maxHeartbeats 2000000 in
theorem rank_any {w : World} {v : Value} {ws : List Int} (hs : SeesI w v ws) (h : Nat) (hh : h < 18446744073709551616) :
    Calls Try.prog 6 #[.int .u64 h, v] w fun e w' => ∃ a cap, e = .returned (.slice a (rankOf h ws).length cap) ∧ w'.ownsRow w.heap.size 3 1 (.slice a (rankOf h ws).length cap) (rankOf h ws).length (ints (rankOf h ws)) ∧ Kept [] w w' := by
  have HS := hide hs
  obtain ⟨p, pc, rfl, h1, h2, -⟩ := hs
  by_cases hL : ws.length ≤ 65536
  · have HR : Hid (rankOf h ws = (sorted (rat h ws ws.length)).map (·.1)) := by unfold Hid rankOf; rw [if_pos hL]
    obtain ⟨i0, hi, hz0, hz1, hz2⟩ := info_parts infoR
    have HI := hide (⟨hi, hz0, hz1, hz2⟩ : _ ∧ _ ∧ _ ∧ _)
    clear hi hz0 hz1 hz2
    obtain ⟨i1, hi, hz0, hz1, hz2⟩ := info_parts info3p
    have HI3 := hide (⟨hi, hz0, hz1, hz2⟩ : _ ∧ _ ∧ _ ∧ _)
    clear hi hz0 hz1 hz2
    have HW := hide (fun w wt => weighs_any w wt)
    have HSC := hide (fun w s wt => score_any w h s wt hh)
    generalize hLL : ws.length = L at *
    have HL := hide hLL
    clear hLL
    have t0 : ((L : Int) > 65536) = False := by simp; omega
    go_enter Try.func6, Try.ntmps6
    go_wp2_with fail
    go_loopw [5, 16] (fun r i wr => ∃ k : Nat, k ≤ L ∧ i = .int .i64 k ∧ wr.ownsRow w.heap.size 38 2 r (rat h ws k).length (flats (rat h ws k)) ∧ Kept [] w wr) (fun _ i _ => L - (intOf i).toNat)
    case atStart => exact ⟨0, by omega, rfl, World.ownsRow_nil _ _ _ _, Kept.refl _ _⟩
    case round =>
      obtain ⟨k, hk, rfl, ho, hkp⟩ := hrel
      obtain ⟨ra, rc, rfl⟩ := own_len ho
      have HO := hide ho
      have HK := hide hkp
      clear ho hkp
      have hrl : (rat h ws k).length ≤ 65536 := by have := rat_length h ws k; omega
      by_cases hkl : k < L
      · have hs1 := (unhide HS).kept (unhide HK) (Or.inr (by simp))
        obtain ⟨a', c', hv, -, -, h4⟩ := hs1
        have hv1 : a' = p := by cases hv; rfl
        subst hv1
        obtain ⟨b, off, hpa, hc⟩ := at_int (k := k) (unhide HL) h4 hkl
        subst hpa
        clear hv h4
        have t1 : (k : Int) < (L : Int) := by omega
        have HRS := hide (rat_succ h ws k)
        generalize ws.getD k 0 = x at *
        have HWx := hide (fun w => unhide HW w x)
        have HSx := hide (fun w => unhide HSC w k x)
        by_cases hx : 1 ≤ x ∧ x ≤ 64
        · rw [decide_eq_true hx] at HWx
          rw [if_pos hx] at HRS
          generalize hrk : rat h ws (k + 1) = rk1 at HRS
          have HRK := hide hrk
          clear hrk
          generalize rat h ws k = rk at *
          generalize score h k x = sc at *
          generalize hm : rk.length = m at *
          have HM := hide hm
          clear hm
          go_wp2_with (first
            | (go_at_call 11; refine (unhide HWx _).mono ?_; rintro e w1 ⟨rfl, hq⟩; have hq' := hq.symm; subst hq')
            | (go_at_call 12; refine (unhide HSx _).mono ?_; rintro e w1 ⟨rfl, hk1⟩; have HK1 : Hid (Kept [] w w1) := (unhide HK).trans hk1 (by simp); have HO1 := hide (own_kept (unhide HO) hk1 (by simp)); clear hk1)
            | (at_builtin; refine wpList_append_own_at _ rfl _ _ 34 rfl w.heap.size 38 i0 _ 2 16 Try.underlying34 (unhide HI).1 (unhide HI).2.1 (unhide HI).2.2.1 (unhide HI).2.2.2 rfl (by decide) _ _ _ rfl ((unhide HO1).alloc _) ⟨w1.heap.size, 0, none⟩ 1 1 [.int .i64 (k : Int), .int .u64 (sc : Int)] rfl rfl (cells_two_new _ _ _ _) (by simp [Value.oneCell']) (by unfold maxLen; omega) (by omega) (by have := (unhide HK1).size; simp; omega) ?_))
          intro v' w2 hown' hgrow hnil hloc
          obtain ⟨va, vc, rfl⟩ := own_len hown'
          have HO2 : Hid (w2.ownsRow w.heap.size 38 2 (.slice va (m + 1) vc) (rat h ws (k + 1)).length (flats (rat h ws (k + 1)))) := by
            unfold Hid
            rw [unhide HRK, unhide HRS, flats_append, List.length_append, unhide HM]
            exact hown'
          have HK2 : Hid (Kept [] w w2) := ((unhide HK1).alloc _).grown hgrow (fun k hk => Or.inr ((unhide HO1).lt k hk).1)
          clear hown' hgrow hnil hloc
          go_wp2
          exact ⟨⟨k + 1, by omega, by simp, unhide HO2, unhide HK2⟩, by simp [intOf]; omega⟩
        · rw [decide_eq_false hx] at HWx
          rw [if_neg hx, List.append_nil] at HRS
          rw [← unhide HRS] at HO
          go_wp2_with (first
            | (go_at_call 11; refine (unhide HWx _).mono ?_; rintro e w1 ⟨rfl, hq⟩; have hq' := hq.symm; subst hq'))
          exact ⟨⟨k + 1, by omega, by simp, by rw [← unhide HRS] ; exact unhide HO, unhide HK⟩, by simp [intOf]; omega⟩
      · obtain rfl : k = L := by omega
        have t1 : ((k : Int) < (k : Int)) = False := by simp
        generalize hrk : rat h ws k = rk at *
        obtain ⟨RR, hRR⟩ : ∃ RR, rankOf h ws = RR := ⟨_, rfl⟩
        have HRR := hide hRR
        have HRL : Hid (RR = (sorted rk).map (·.1)) := (unhide HRR).symm.trans (unhide HR)
        clear hRR
        have HRN : Hid (RR.length = rk.length) := by unfold Hid; rw [unhide HRL]; simp [sorted_length]
        have HRG : Hid (∀ j, j < rk.length → RR.getD j 0 = ((sorted rk).getD j (0, 0)).1) := by
          intro j hj
          have hj2 : j < (sorted rk).length := by rw [sorted_length]; exact hj
          rw [unhide HRL]
          simp [List.getD, List.getElem?_map, List.getElem?_eq_getElem hj2]
        clear hrk
        generalize hn : rk.length = n at *
        have HN := hide hn
        clear hn
        have HOI : Hid (∀ (W : World) (b : Nat), Blk W b (ints (zeri n RR)).toArray 3 → w.heap.size ≤ b → W.ownsRow w.heap.size 3 1 (.slice (some ⟨b, 0, none⟩) n n) n (ints RR)) := by
          intro W b hb hw
          have e : zeri n RR = RR := by rw [← unhide HRN]; exact zeri_all RR
          rw [e] at hb
          exact ownI_of_blk hb hw (unhide HRN) (by omega)
        have HMI : Hid (madeCells #[Value.int .i64 0] n = (ints (zeri 0 RR)).toArray) := by
          have := made_ints RR
          rw [unhide HRN] at this
          exact this
        by_cases hn0 : n = 0
        · subst hn0
          have HNO := hide (fun w => sort_none w ra rc (.func (.func 14) #[] #[]))
          go_wp2_with (first
            | (go_at_call 13; refine (unhide HNO _).mono ?_; rintro e w1 ⟨rfl, hq⟩; have hq' := hq.symm; subst hq')
            | (at_make; refine wpList_make_row _ rfl _ _ 23 rfl 3 i1 (.int .i64 0) Try.underlying23 (unhide HI3).1 (unhide HI3).2.1 (unhide HI3).2.2.1 rfl .i64 .i64 0 rfl rfl (by omega) (by omega) ?_))
          rw [unhide HMI]
          have HOI2 := hide (unhide HOI _ _ (Blk.new wr (ints (zeri 0 RR)).toArray 3) (unhide HK).size)
          have HK2 : Hid (Kept [] w (wr.alloc (.cells (ints (zeri 0 RR)).toArray 3))) := (unhide HK).alloc _
          clear HOI HMI
          generalize wr.alloc (.cells (ints (zeri 0 RR)).toArray 3) = w9 at *
          refine wp_loop_rounds 1 ?_
          rw [rounds_succ]
          go_wp2
          go_ret
          refine ⟨some ⟨wr.heap.size, 0, none⟩, 0, ?_, ?_, unhide HK2⟩
          · rw [unhide HRR, unhide HRN]; rfl
          · rw [unhide HRR, unhide HRN]; exact unhide HOI2
        · obtain ⟨g, hra, hgb, hgl⟩ : ∃ g, ra = some ⟨g, 0, none⟩ ∧ w.heap.size ≤ g ∧ g < wr.heap.size := by
            rcases (unhide HO).2 with ⟨_, h0⟩ | ⟨g, cap, cur, hv, hg0, hg, _⟩
            · exact absurd h0 hn0
            · cases hv; exact ⟨g, rfl, hg0, (Array.getElem?_eq_some_iff.1 hg).1⟩
          subst hra
          have HH : Hid (HoldsK encR 2 wr g 0 rk.toArray) := by
            have := unhide HO
            rw [← unhide HN] at this
            exact holds_of_own this
          have HST := hide (sort_any (cap := rc) (unhide HN) (unhide HH) hgl (by omega))
          clear HH HO
          have hnb : 8 * n ≤ 281474976710656 := by omega
          go_wp2_with (first
            | (go_at_call 13; refine (unhide HST).mono ?_; rintro e w1 ⟨rfl, hh1, hk1⟩; have HH1 := hide hh1; have HK1 : Hid (Kept [] w w1) := (unhide HK).trans hk1 (by simp; omega); have hgl1 := Nat.lt_of_lt_of_le hgl hk1.size; clear hh1 hk1)
            | (at_make; refine wpList_make_row _ rfl _ _ 23 rfl 3 i1 (.int .i64 0) Try.underlying23 (unhide HI3).1 (unhide HI3).2.1 (unhide HI3).2.2.1 rfl .i64 .i64 n rfl rfl ?b2 (by omega) ?_))
          case b2 => rw [(unhide HI3).2.2.2]; exact hnb
          rw [unhide HMI]
          go_wp2_with fail
          have hwb := (unhide HK1).size
          go_loopw [40] (fun i wr => ∃ j : Nat, j ≤ n ∧ i = .int .i64 j ∧ HoldsK encR 2 wr g 0 (sorted rk).toArray ∧ Blk wr w1.heap.size (ints (zeri j RR)).toArray 3 ∧ Kept [] w wr ∧ Kept [w1.heap.size] w1 wr) (fun i _ => n - (intOf i).toNat)
          case atStart =>
            refine ⟨0, by omega, rfl, ?_, Blk.new w1 _ _, (unhide HK1).alloc _, (Kept.refl _ w1).alloc _⟩
            intro t ht
            have h0 := unhide HH1 t ht
            have hkk : Kept [] w1 (w1.alloc (.cells (ints (zeri 0 RR)).toArray 3)) := (Kept.refl [] w1).alloc _
            refine ⟨?_, ?_⟩
            · rw [hkk.cell (p := ⟨g, 0 + t, none⟩) hgl1 (by simp)]; exact h0.1
            · rw [hkk.frozen (p := ⟨g, 0 + t, none⟩) hgl1 (by simp)]; exact h0.2
          case round =>
            obtain ⟨j, hj, rfl, hh2, hb2, hk2, hk3⟩ := hrel
            have HH2 := hide hh2
            have HB2 := hide hb2
            have HK2 := hide hk2
            have HK3 := hide hk3
            clear hh2 hb2 hk2 hk3
            by_cases hjn : j < n
            · have t2 : (j : Int) < (n : Int) := by omega
              obtain ⟨c0, c1⟩ := holds_cell (unhide HH2) (i := j) (by rw [sorted_length, unhide HN]; exact hjn)
              rw [← unhide HRG j hjn] at c0
              generalize ((sorted rk).getD j (0, 0)).2 = sc at c1
              have HZ : Hid ((zeri j RR).set j (RR.getD j 0) = zeri (j + 1) RR) := zeri_set (by rw [unhide HRN]; exact hjn)
              generalize RR.getD j 0 = y at *
              have hce : ∀ o, (wr.alloc o).cell? ⟨w1.heap.size, j, none⟩ = some (.int .i64 ((zeri j RR).getD j 0)) := by
                intro o
                rw [((unhide HB2).alloc o).cell, List.getElem?_toArray]
                exact ints_at _ (by rw [zeri_length (by rw [unhide HRN]; omega), unhide HRN]; exact hjn)
              have hfr : ∀ o, (wr.alloc o).frozen? ⟨w1.heap.size, j, none⟩ = false := fun o => ((unhide HB2).alloc o).frozen j
              have hne : g ≠ w1.heap.size := by omega
              have HN1 : Hid (∀ o, HoldsK encR 2 ((wr.alloc o).setCell ⟨w1.heap.size, j, none⟩ (.int .i64 y)) g 0 (sorted rk).toArray ∧ Blk ((wr.alloc o).setCell ⟨w1.heap.size, j, none⟩ (.int .i64 y)) w1.heap.size (ints (zeri (j + 1) RR)).toArray 3 ∧ Kept [] w ((wr.alloc o).setCell ⟨w1.heap.size, j, none⟩ (.int .i64 y)) ∧ Kept [w1.heap.size] w1 ((wr.alloc o).setCell ⟨w1.heap.size, j, none⟩ (.int .i64 y))) := by
                intro o
                have hkk : Kept [w1.heap.size] wr ((wr.alloc o).setCell ⟨w1.heap.size, j, none⟩ (.int .i64 y)) := ((Kept.refl _ wr).alloc o).setCell (Or.inl (by simp)) _
                have hgw : g < wr.heap.size := Nat.lt_of_lt_of_le hgl1 (unhide HK3).size
                refine ⟨?_, ?_, ((unhide HK2).alloc o).setCell (Or.inr hwb) _, (unhide HK3).trans hkk (by simp)⟩
                · intro t ht
                  have h0 := unhide HH2 t ht
                  refine ⟨?_, ?_⟩
                  · rw [hkk.cell (p := ⟨g, 0 + t, none⟩) hgw (by simpa using hne)]; exact h0.1
                  · rw [hkk.frozen (p := ⟨g, 0 + t, none⟩) hgw (by simpa using hne)]; exact h0.2
                · rw [← unhide HZ, ← ints_arr_set]
                  exact ((unhide HB2).alloc o).set j _
              generalize (zeri j RR).getD j 0 = y0 at hce
              go_wp2
              obtain ⟨q1, q2, q3, q4⟩ := unhide HN1 (.cells #[.int .i64 y, .int .u64 (sc : Int)] 38)
              exact ⟨⟨j + 1, by omega, by simp, q1, q2, q3, q4⟩, by simp [intOf]; omega⟩
            · obtain rfl : j = n := by omega
              have t2 : ((j : Int) < (j : Int)) = False := by simp
              have HOI2 := hide (unhide HOI _ _ (unhide HB2) hwb)
              go_wp2
              go_ret
              refine ⟨some ⟨w1.heap.size, 0, none⟩, j, ?_, ?_, unhide HK2⟩
              · rw [unhide HRR, unhide HRN]; rfl
              · rw [unhide HRR, unhide HRN]; exact unhide HOI2
  · have HR : rankOf h ws = [] := by unfold rankOf; rw [if_neg hL]
    rw [HR]
    have t0 : ((ws.length : Int) > 65536) = True := by simp; omega
    generalize ws.length = L at *
    go_enter Try.func6, Try.ntmps6
    go_wp2
    go_ret
    exact ⟨none, 0, rfl, World.ownsRow_nil _ _ _ _, Kept.refl _ _⟩
end Go.Proofs.Ytiafnfjgmfnnoab
