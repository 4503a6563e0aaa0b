/- The document's Shuffle. -/
import Derived.Test.YtoibkgjnnneagaaDRefE
import Derived.Test.YtoibkgjnnneagaaDFloats
import Derived.Test.YtoibkgjnnneagaaDKeep
import Derived.Deep.DeepCutAuto
namespace Go.Proofs.Ytoibkgjnnneagaa
open Go.RowKit

set_option maxRecDepth 100000 in
theorem rshuffle_no {w : World} {b : Nat} (n : Int) (h : n < 1 ∨ 65536 < n) :
    Calls Try.prog 35 #[.pointer (some ⟨b, 0, none⟩), .int .i64 n] w fun e w' => e = .returned (.slice none 0 0) ∧ w' = w := by
  rcases h with h | h
  · go_enter Try.func35, Try.ntmps35
    go_wp2
    go_ret
    exact ⟨rfl, rfl⟩
  · have t : ¬ n < 1 := by omega
    go_enter Try.func35, Try.ntmps35
    go_wp2
    go_ret
    exact ⟨rfl, rfl⟩
theorem iota_succ (k : Nat) : iota (k + 1) = iota k ++ [(k : Int)] := by simp [iota, List.range_succ]
theorem own_not {w : World} {base n b s : Nat} {v : Value} {xs : List Value} (h : w.ownsRow base 3 1 v n xs) (hr : Rc w b s) : ∀ k, v.ownBlock = some k → k ≠ b := by
  intro k hk e
  subst e
  rcases h.2 with ⟨h1, _⟩ | ⟨g, cap, cur, hv, hb, hg, _⟩
  · rw [h1] at hk; cases hk
  · rw [hv] at hk
    have : g = k := by simpa [Value.ownBlock] using hk
    subst this
    have h2 := hr.blk
    unfold Blk at h2
    rw [hg] at h2
    injection h2 with h3
    injection h3 with h4 h5
    exact absurd h5 (by decide)

set_option maxRecDepth 100000 in
set_option maxHeartbeats 4000000 in
theorem rshuffle_any {w : World} {b s : Nat} (h : Rc w b s) (n : Nat) (h1 : 1 ≤ n) (h2 : n ≤ 65536) :
    Calls Try.prog 35 #[.pointer (some ⟨b, 0, none⟩), .int .i64 n] w fun e w' => ∃ g cap, e = .returned (.slice (some ⟨g, 0, none⟩) n cap) ∧ w'.ownsRow w.heap.size 3 1 (.slice (some ⟨g, 0, none⟩) n cap) n (ints (stp n s (n - 1)).1) ∧ Rc w' b (on s (stp n s (n - 1)).2) ∧ Kept [b] w w' := by
  obtain ⟨i0, hi, hz0, hz1, hz2⟩ := info_parts info3p
  have HI := hide (⟨hi, hz0, hz1, hz2⟩ : _ ∧ _ ∧ _ ∧ _)
  clear hi hz0 hz1 hz2
  have t1 : ¬ (n : Int) < 1 := by omega
  have t2 : ¬ (n : Int) > 65536 := by omega
  have hh := hide h
  clear h
  go_enter Try.func35, Try.ntmps35
  go_wp2_with fail
  go_loopw [5, 6] (fun r i wr => ∃ k : Nat, k ≤ n ∧ i = .int .i64 k ∧ wr.ownsRow w.heap.size 3 1 r k (ints (iota k)) ∧ Kept [] w wr) (fun _ i _ => n - (intOf i).toNat)
  case atStart => exact ⟨0, by omega, rfl, World.ownsRow_nil _ _ _ _, Kept.refl _ _⟩
  case round =>
    obtain ⟨k, hk, rfl, ho, hkp⟩ := hrel
    obtain ⟨ra, rc, rfl⟩ := own_len ho
    have HO := hide ho
    have HK := hide hkp
    clear ho hkp
    by_cases hlt : k < n
    · go_wp2_with (first
        | (at_builtin; refine wpList_append_own_at _ rfl _ _ 61 rfl w.heap.size 3 i0 _ 1 8 Try.underlying61 (unhide HI).1 (unhide HI).2.1 (unhide HI).2.2.1 (unhide HI).2.2.2 rfl (by decide) _ _ _ rfl ((unhide HO).alloc _) ⟨wr.heap.size, 0, none⟩ 1 1 [.int .i64 (k : Int)] rfl rfl (cell_one_new _ _ _) (by simp [Value.oneCell']) (by unfold maxLen; omega) (by omega) (by have := (unhide HK).size; simp; omega) ?_))
      intro v' w2 hown' hgrow hnil hloc
      obtain ⟨va, vc, rfl⟩ := own_len hown'
      have HO2 : Hid (w2.ownsRow w.heap.size 3 1 (.slice va (k + 1) vc) (k + 1) (ints (iota (k + 1)))) := by
        unfold Hid
        rw [iota_succ, ints_append]
        exact hown'
      have HK2 : Hid (Kept [] w w2) := ((unhide HK).alloc _).grown hgrow (fun k hk => Or.inr ((unhide HO).lt k hk).1)
      clear hown' hgrow hnil hloc
      go_wp2
      exact ⟨⟨k + 1, by omega, by simp, unhide HO2, unhide HK2⟩, by simp [intOf]; omega⟩
    · obtain rfl : k = n := by omega
      obtain ⟨g, cap, hv, hg1, hg2, hc1, hc2⟩ := rowI_of_own (unhide HO) (by omega)
      have ea : ra = some ⟨g, 0, none⟩ := by cases hv; rfl
      have ec : rc = cap := by cases hv; rfl
      subst ea; subst ec
      clear hv
      have hr0 := hide ((unhide hh).keep (unhide HK) (by simp))
      have hgb : Hid (g ≠ b) := own_not (unhide HO) (unhide hr0) g rfl
      have hkb : Hid (Kept [b] w wr) := (unhide HK).mono (fun x hx => by simp at hx)
      have hg3 := hide hg1
      clear HI hh HK hg1 hg2 hc2
      go_wp2_with fail
      go_loopw [7] (fun i wx => ∃ t : Nat, t ≤ k - 1 ∧ i = .int .i64 ((k : Int) - 1 - t) ∧ wx.ownsRow w.heap.size 3 1 (.slice (some ⟨g, 0, none⟩) k rc) k (ints (stp k s t).1) ∧ Kept [b] w wx ∧ Rc wx b (on s (stp k s t).2)) (fun i _ => (intOf i).toNat)
      case atStart => exact ⟨0, by omega, by simp, unhide HO, unhide hkb, by rw [show (stp k s 0).2 = 0 from rfl, on_zero (unhide hr0).lt]; exact unhide hr0⟩
      case round =>
        obtain ⟨t, ht, rfl, hb, hkp, hd⟩ := hrel
        clear HO hr0 hkb
        by_cases hlt : t < k - 1
        · have hR := hide (rroll_any hd (k - t) (by omega) (by omega))
          have hrl := rollK_lt 16 (k - t) (by omega) (on s (stp k s t).2)
          have hs := stp_succ k s t
          rw [on_on] at hR
          have hlen := stp_length k s t
          generalize hl2 : stp k s (t + 1) = L2 at hs
          have HL2 := hide hl2
          replace hs := hide hs
          clear hl2
          obtain ⟨i, hi⟩ : ∃ i : Nat, k - 1 - t = i := ⟨_, rfl⟩
          have ei : (k : Int) - 1 - (t : Int) = (i : Int) := by omega
          have ek : k - t = i + 1 := by omega
          rw [hi] at hs
          rw [ek] at hs hR hrl
          generalize hr : rollK 16 (i + 1) (on s (stp k s t).2) = rr at *
          clear hr
          obtain ⟨j, m⟩ := rr
          simp only at hrl hR hs
          generalize hL : (stp k s t).1 = L at *
          generalize hC : (stp k s t).2 = C at *
          clear hL hC hi ek
          rw [ei]
          have e1 : ((i + 1 : Nat) : Int) = (i : Int) + 1 := by omega
          rw [e1] at hR
          have q1 : 1 ≤ i := by omega
          have q2 : i < k := by omega
          have q3 : j < k := by omega
          have HB := hide hb
          have HK := hide hkp
          clear hb hkp hd
          obtain ⟨x, hx⟩ : ∃ x, L.getD i 0 = x := ⟨_, rfl⟩
          obtain ⟨y, hy⟩ : ∃ y, L.getD j 0 = y := ⟨_, rfl⟩
          have hsw : Hid (L2 = ((L.set i y).set j x, C + m)) := by have := unhide hs; unfold swp at this; rw [hx, hy] at this; exact this
          have HX := hide hx
          have HY := hide hy
          clear hx hy hs
          go_wp2_with (first
            | (go_at_call 32; refine (unhide hR).mono ?_; rintro e w2 ⟨rfl, hd2, hk2⟩; clear hR; have HB2 := hide (own_kept (unhide HB) hk2 (by intro z e; cases e; have := unhide hgb; simpa using this)); replace hd2 := hide hd2; have HK2 := hide ((unhide HK).trans hk2 (fun x hx => Or.inl hx)); clear HB HK hk2; have c1 := ownI_cell (unhide HB2) (k := i) (by omega); have c2 := ownI_cell (unhide HB2) (k := j) (by omega); have f1 := ownI_frozen (unhide HB2) i; have f2 := ownI_frozen (unhide HB2) j; rw [unhide HX] at c1; rw [unhide HY] at c2; have o2 := hide (ownI_set (unhide HB2) i y); have c3 := ownI_cell (unhide o2) (k := j) (by rw [List.length_set]; omega); have f3 := ownI_frozen (unhide o2) j; generalize (L.set i y).getD j 0 = y3 at c3))
          have hKK : Kept [g] w2 ((w2.setCell ⟨g, i, none⟩ (.int .i64 y)).setCell ⟨g, j, none⟩ (.int .i64 x)) := ((Kept.refl [g] w2).setCell (p := ⟨g, i, none⟩) (Or.inl (by simp)) _).setCell (p := ⟨g, j, none⟩) (Or.inl (by simp)) _
          refine ⟨⟨t + 1, by omega, by congr 1; omega, ?_, (unhide HK2).trans hKK (fun z hz => by simp at hz; subst hz; exact Or.inr (unhide hg3)), ?_⟩, by simp [intOf]; omega⟩
          · rw [unhide HL2, unhide hsw]; exact ownI_set (unhide o2) j x
          · rw [unhide HL2, unhide hsw]; exact (unhide hd2).keep hKK (by have := unhide hgb; simpa using this.symm)
        · obtain rfl : t = k - 1 := by omega
          have e1 : (k : Int) - 1 - ((k - 1 : Nat) : Int) = 0 := by omega
          rw [e1]
          replace hb := hide hb
          replace hkp := hide hkp
          replace hd := hide hd
          go_wp2
          go_ret
          exact ⟨g, rc, rfl, unhide hb, unhide hd, unhide hkp⟩
end Go.Proofs.Ytoibkgjnnneagaa
