/- Shuffle. -/
import Derived.Test.YtoibkgjnnneagaaDShufP
import Derived.Deep.OwnRows
import Derived.BigRegion
namespace Go.Proofs.Ytoibkgjnnneagaa
open Go.RowKit

set_option maxRecDepth 100000 in
theorem shuffle_no {w : World} {b : Nat} (n : Int) (h : n < 1 ∨ 65536 < n) :
    Calls Try.prog 36 #[.pointer (some ⟨b, 0, none⟩), .int .i64 n] w fun e w' => e = .returned (.slice none 0 0) ∧ w' = w := by
  rcases h with h | h
  · go_enter Try.func36, Try.ntmps36
    go_wp2
    go_ret
    exact ⟨rfl, rfl⟩
  · have t : ¬ n < 1 := by omega
    go_enter Try.func36, Try.ntmps36
    go_wp2
    go_ret
    exact ⟨rfl, rfl⟩

set_option maxRecDepth 100000 in
set_option maxHeartbeats 4000000 in
theorem shuffle_any {w : World} {b s : Nat} (h : Dc w b s) (n : Nat) (h1 : 1 ≤ n) (h2 : n ≤ 65536) :
    Calls Try.prog 36 #[.pointer (some ⟨b, 0, none⟩), .int .i64 n] w fun e w' => ∃ g, e = .returned (.slice (some ⟨g, 0, none⟩) n n) ∧ Blk w' g (ints (stp n s (n - 1)).1).toArray 3 ∧ w.heap.size ≤ g ∧ Dc w' b (on s (stp n s (n - 1)).2) ∧ Kept [b] w w' := by
  obtain ⟨i1, hi, hz0, hz1, hz2⟩ := info_parts info3p
  have HI3 := hide (⟨hi, hz0, hz1, hz2⟩ : _ ∧ _ ∧ _ ∧ _)
  clear hi hz0 hz1 hz2
  have t1 : ¬ (n : Int) < 1 := by omega
  have t2 : ¬ (n : Int) > 65536 := by omega
  have hnb : 8 * n ≤ 281474976710656 := by omega
  have hh := hide h
  have hbw := h.blk.lt
  clear h
  have HMI : Hid (madeCells #[Value.int .i64 0] n = (ints (zeri 0 (iota n))).toArray) := by
    have := made_ints (iota n)
    rw [iota_length] at this
    exact this
  go_enter Try.func36, Try.ntmps36
  go_wp2_with (first
    | (at_make; refine wpList_make_row _ rfl _ _ 61 rfl 3 i1 (.int .i64 0) Try.underlying61 (unhide HI3).1 (unhide HI3).2.1 (unhide HI3).2.2.1 rfl .i64 .i64 n rfl rfl ?b2 (by omega) ?_))
  case b2 => rw [(unhide HI3).2.2.2]; exact hnb
  rw [unhide HMI]
  go_wp2_with fail
  have hg0 : w.heap.size ≠ b := by omega
  generalize hg : w.heap.size = g at *
  have hw0 : Hid (Blk (w.alloc (.cells (ints (zeri 0 (iota n))).toArray 3)) g (ints (zeri 0 (iota n))).toArray 3 ∧ Kept [b] w (w.alloc (.cells (ints (zeri 0 (iota n))).toArray 3)) ∧ Dc (w.alloc (.cells (ints (zeri 0 (iota n))).toArray 3)) b s) := by
    refine ⟨by rw [← hg]; exact Blk.new w _ _, (Kept.refl _ _).alloc _, ?_⟩
    exact (unhide hh).keep ((Kept.refl [] _).alloc _) (by simp)
  generalize w.alloc (.cells (ints (zeri 0 (iota n))).toArray 3) = w1 at *
  clear HMI HI3
  go_loopw [23] (fun i wr => ∃ k : Nat, k ≤ n ∧ i = .int .i64 k ∧ Blk wr g (ints (zeri k (iota n))).toArray 3 ∧ Kept [b] w wr ∧ Dc wr b s) (fun i _ => n - (intOf i).toNat)
  case atStart => exact ⟨0, by omega, rfl, (unhide hw0).1, (unhide hw0).2.1, (unhide hw0).2.2⟩
  case round =>
    obtain ⟨k, hk, rfl, hb, hkp, hd⟩ := hrel
    clear hw0 hh
    by_cases hlt : k < n
    · have hz : Hid ((zeri k (iota n)).set k ((iota n).getD k 0) = zeri (k + 1) (iota n)) := zeri_set (by rw [iota_length]; exact hlt)
      rw [iota_at hlt] at hz
      have c1 := blk_at hb (j := k) (by rw [zeri_length (by rw [iota_length]; omega), iota_length]; exact hlt)
      have c2 := hb.frozen k
      have N1 := hide (blk_put hb k (k : Int))
      rw [unhide hz] at N1
      have hgw := hb.lt
      have N2 := hide (hkp.setCell (p := ⟨g, k, none⟩) (Or.inr (by show w.heap.size ≤ g; omega)) (.int .i64 (k : Int)))
      have N3 := hide (hd.keep ((Kept.refl [g] wr).setCell (p := ⟨g, k, none⟩) (Or.inl (by simp)) (.int .i64 (k : Int))) (by simpa using hg0.symm))
      generalize (zeri k (iota n)).getD k 0 = y at c1
      clear hb hkp hd hz
      go_wp2
      exact ⟨⟨k + 1, by omega, by simp, unhide N1, unhide N2, unhide N3⟩, by simp [intOf]; omega⟩
    · obtain rfl : k = n := by omega
      have ez : zeri k (iota k) = iota k := by have := zeri_all (iota k); rwa [iota_length] at this
      rw [ez] at hb
      go_wp2_with fail
      go_loopw [7] (fun i wr => ∃ t : Nat, t ≤ k - 1 ∧ i = .int .i64 ((k : Int) - 1 - t) ∧ Blk wr g (ints (stp k s t).1).toArray 3 ∧ Kept [b] w wr ∧ Dc wr b (on s (stp k s t).2)) (fun i _ => (intOf i).toNat)
      case atStart => exact ⟨0, by omega, by simp, hb, hkp, by rw [show (stp k s 0).2 = 0 from rfl, on_zero hd.lt]; exact hd⟩
      case round =>
        obtain ⟨t, ht, rfl, hb, hkp, hd⟩ := hrel
        by_cases hlt : t < k - 1
        · have hR := hide (roll_any hd (k - t) (by omega) (by omega))
          have hrl := rollK_lt 16 (k - t) (by omega) (on s (stp k s t).2)
          have hs := stp_succ k s t
          rw [on_on] at hR
          have hlen := stp_length k s t
          generalize hl2 : stp k s (t + 1) = L2 at hs
          have HL2 := hide hl2
          replace hs := hide hs
          clear hl2
          obtain ⟨i, hi⟩ : ∃ i : Nat, k - 1 - t = i := ⟨_, rfl⟩
          have ei : (k : Int) - 1 - (t : Int) = (i : Int) := by omega
          have ek : k - t = i + 1 := by omega
          rw [hi] at hs
          rw [ek] at hs hR hrl
          generalize hr : rollK 16 (i + 1) (on s (stp k s t).2) = rr at *
          clear hr
          obtain ⟨j, m⟩ := rr
          simp only at hrl hR hs
          generalize hL : (stp k s t).1 = L at *
          generalize hC : (stp k s t).2 = C at *
          clear hL hC hi ek
          rw [ei]
          have e1 : ((i + 1 : Nat) : Int) = (i : Int) + 1 := by omega
          rw [e1] at hR
          have q1 : 1 ≤ i := by omega
          have HB := hide hb
          have HK := hide hkp
          clear hb hkp hd
          obtain ⟨x, hx⟩ : ∃ x, L.getD i 0 = x := ⟨_, rfl⟩
          obtain ⟨y, hy⟩ : ∃ y, L.getD j 0 = y := ⟨_, rfl⟩
          have hsw : Hid (L2 = ((L.set i y).set j x, C + m)) := by have := unhide hs; unfold swp at this; rw [hx, hy] at this; exact this
          have HX := hide hx
          have HY := hide hy
          clear hx hy hs
          by_cases hij : j = i
          · subst hij
            obtain rfl : y = x := by rw [← unhide HX, ← unhide HY]
            go_wp2_with (first
              | (go_at_call 25; refine (unhide hR).mono ?_; rintro e w2 ⟨rfl, hd2, hk2⟩; clear hR; have HB2 := hide ((unhide HB).kept hk2 (by simpa using hg0)); replace hd2 := hide hd2; have HK2 := hide ((unhide HK).trans hk2 (fun x hx => Or.inl hx)); clear HB HK hk2; have c1 := blk_at (unhide HB2) (j := j) (by omega); have f1 := (unhide HB2).frozen j; rw [unhide HX] at c1))
            go_region
            have hK3 : Kept [g] w2 (((w2.setCell ⟨g, j, none⟩ (.int .i64 y)).setCell ⟨g, j, none⟩ (.int .i64 y)).drew) := (((Kept.refl [g] w2).setCell (p := ⟨g, j, none⟩) (Or.inl (by simp)) _).setCell (p := ⟨g, j, none⟩) (Or.inl (by simp)) _).drew
            have FW : Hid (Blk (((w2.setCell ⟨g, j, none⟩ (.int .i64 y)).setCell ⟨g, j, none⟩ (.int .i64 y)).drew) g (ints (stp k s (t + 1)).1).toArray 3 ∧ Kept [b] w (((w2.setCell ⟨g, j, none⟩ (.int .i64 y)).setCell ⟨g, j, none⟩ (.int .i64 y)).drew) ∧ Dc (((w2.setCell ⟨g, j, none⟩ (.int .i64 y)).setCell ⟨g, j, none⟩ (.int .i64 y)).drew) b (on s (stp k s (t + 1)).2)) := by
              refine ⟨?_, (unhide HK2).trans hK3 (by intro z hz; simp at hz; subst hz; exact Or.inr (by omega)), ?_⟩
              · rw [unhide HL2, unhide hsw]; exact blk_put (blk_put (unhide HB2) j y) j y
              · rw [unhide HL2, unhide hsw]; exact (unhide hd2).keep hK3 (by simpa using hg0.symm)
            clear hK3 c1 f1
            generalize ((w2.setCell ⟨g, j, none⟩ (.int .i64 y)).setCell ⟨g, j, none⟩ (.int .i64 y)).drew = W3 at *
            go_wp2
            exact ⟨⟨t + 1, by omega, by congr 1; omega, (unhide FW).1, (unhide FW).2.1, (unhide FW).2.2⟩, by simp [intOf]; omega⟩
          · go_wp2_with (first
              | (go_at_call 25; refine (unhide hR).mono ?_; rintro e w2 ⟨rfl, hd2, hk2⟩; clear hR; have HB2 := hide ((unhide HB).kept hk2 (by simpa using hg0)); replace hd2 := hide hd2; have HK2 := hide ((unhide HK).trans hk2 (fun x hx => Or.inl hx)); clear HB HK hk2; have c1 := blk_at (unhide HB2) (j := i) (by omega); have c2 := blk_at (unhide HB2) (j := j) (by omega); have f1 := (unhide HB2).frozen i; have f2 := (unhide HB2).frozen j; rw [unhide HX] at c1; rw [unhide HY] at c2))
            go_region
            have hK3 : Kept [g] w2 (((w2.setCell ⟨g, i, none⟩ (.int .i64 y)).setCell ⟨g, j, none⟩ (.int .i64 x)).drew) := (((Kept.refl [g] w2).setCell (p := ⟨g, i, none⟩) (Or.inl (by simp)) _).setCell (p := ⟨g, j, none⟩) (Or.inl (by simp)) _).drew
            have FW : Hid (Blk (((w2.setCell ⟨g, i, none⟩ (.int .i64 y)).setCell ⟨g, j, none⟩ (.int .i64 x)).drew) g (ints (stp k s (t + 1)).1).toArray 3 ∧ Kept [b] w (((w2.setCell ⟨g, i, none⟩ (.int .i64 y)).setCell ⟨g, j, none⟩ (.int .i64 x)).drew) ∧ Dc (((w2.setCell ⟨g, i, none⟩ (.int .i64 y)).setCell ⟨g, j, none⟩ (.int .i64 x)).drew) b (on s (stp k s (t + 1)).2)) := by
              refine ⟨?_, (unhide HK2).trans hK3 (by intro z hz; simp at hz; subst hz; exact Or.inr (by omega)), ?_⟩
              · rw [unhide HL2, unhide hsw]; exact blk_put (blk_put (unhide HB2) i y) j x
              · rw [unhide HL2, unhide hsw]; exact (unhide hd2).keep hK3 (by simpa using hg0.symm)
            clear hK3 c1 f1
            generalize ((w2.setCell ⟨g, i, none⟩ (.int .i64 y)).setCell ⟨g, j, none⟩ (.int .i64 x)).drew = W3 at *
            go_wp2
            exact ⟨⟨t + 1, by omega, by congr 1; omega, (unhide FW).1, (unhide FW).2.1, (unhide FW).2.2⟩, by simp [intOf]; omega⟩
        · obtain rfl : t = k - 1 := by omega
          have e1 : (k : Int) - 1 - ((k - 1 : Nat) : Int) = 0 := by omega
          rw [e1]
          replace hb := hide hb
          replace hkp := hide hkp
          replace hd := hide hd
          go_wp2
          go_ret
          exact ⟨g, rfl, unhide hb, by omega, unhide hd, unhide hkp⟩
end Go.Proofs.Ytoibkgjnnneagaa
