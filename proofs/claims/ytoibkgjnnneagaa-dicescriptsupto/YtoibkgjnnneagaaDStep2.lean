/- steps: Shuffle, Pick, any other kind. -/
import Derived.Test.YtoibkgjnnneagaaDStep
namespace Go.Proofs.Ytoibkgjnnneagaa
open Go.RowKit

set_option maxRecDepth 100000 in
set_option maxHeartbeats 4000000 in
theorem step_other {w : World} {pd pm : Option Addr} (kd wh n f : Int) (v : Value) (h : kd ≠ 1 ∧ kd ≠ 2 ∧ kd ≠ 3 ∧ kd ≠ 4 ∧ kd ≠ 5 ∧ kd ≠ 6 ∧ kd ≠ 7) :
    Calls Try.prog 12 #[.pointer pd, .pointer pm, .agg #[.int .i64 kd, .int .i64 wh, .int .i64 n, .int .u64 f, v]] w fun e w' => e = .returned (.bool true) ∧ Kept [] w w' := by
  obtain ⟨a1, a2, a3, a4, a5, a6, a7⟩ := h
  have t1 : (kd == 1) = false := by simpa using a1
  have t2 : (kd == 2) = false := by simpa using a2
  have t3 : (kd == 3) = false := by simpa using a3
  have t4 : (kd == 4) = false := by simpa using a4
  have t5 : (kd == 5) = false := by simpa using a5
  have t6 : (kd == 6) = false := by simpa using a6
  have t7 : (kd == 7) = false := by simpa using a7
  clear a1 a2 a3 a4 a5 a6 a7
  go_enter Try.func12, Try.ntmps12
  go_wp2_with fail
  go_ret
  exact ⟨rfl, (Kept.refl _ _).alloc _⟩

set_option maxRecDepth 100000 in
set_option maxHeartbeats 4000000 in
theorem step6none {w : World} {bd bm s : Nat} (hd : Dc w bd s) (hm : Rc w bm s) (hne : bd ≠ bm) (wh f n : Int) (hn : n < 1 ∨ 65536 < n) (v : Value) :
    Calls Try.prog 12 #[.pointer (some ⟨bd, 0, none⟩), .pointer (some ⟨bm, 0, none⟩), .agg #[.int .i64 6, .int .i64 wh, .int .i64 n, .int .u64 f, v]] w fun e w' => e = .returned (.bool true) ∧ Both w w' bd bm := by
  have K0 : Hid (Kept [] w (w.alloc (.cells #[.int .i64 6, .int .i64 wh, .int .i64 n, .int .u64 f, v] 33))) := (Kept.refl _ _).alloc _
  have hd0 := hide (hd.keep (unhide K0) (by simp))
  have hm0 := hide (hm.keep (unhide K0) (by simp))
  have hne' := hide hne
  have HA := fun w b => hide (rshuffle_no (w := w) (b := b) n hn)
  have HB := fun w b => hide (shuffle_no (w := w) (b := b) n hn)
  have HSM := fun w1 => hide (same_any (SeesI.nil w1) (SeesI.nil w1))
  have HW : Hid (∀ W m, Kept [] w W → Dc W bd s → Rc W bm s → Both w (World.drewN W m) bd bm) := fun W m hk h1 h2 => both_of hk ((Kept.refl _ _).drewN m) (Kept.refl _ _) (h1.keep ((Kept.refl [] W).drewN m) (by simp)) (h2.keep ((Kept.refl [] W).drewN m) (by simp)) (unhide hne')
  have tt : (¬ n > 300) ∨ (¬ n ≤ 65536) := by omega
  clear hd hm hne
  rcases tt with tt | tt
  all_goals go_enter Try.func12, Try.ntmps12
  all_goals go_wp2_with (first
    | (go_at_call 35; refine (unhide (HA _ _)).mono ?_; rintro e w1 ⟨rfl, hq⟩; have hq' := hq.symm; subst hq'; clear HA)
    | (go_at_call 36; refine (unhide (HB _ _)).mono ?_; rintro e w1 ⟨rfl, hq⟩; have hq' := hq.symm; subst hq'; clear HB)
    | (go_at_call 37; refine (unhide (HSM _)).mono ?_; rintro e w2 ⟨rfl, hmm⟩; have hfin : Hid (Both w w2 bd bm) := (by obtain ⟨m, rfl⟩ := hmm; exact unhide HW _ m (unhide K0) (unhide hd0) (unhide hm0)); clear HSM HW hmm))
  all_goals go_loopw [14] (fun s14 wr => s14 = .int .i64 0 ∧ wr = w2) (fun _ _ => 0)
  all_goals first
    | exact ⟨rfl, rfl⟩
    | (obtain ⟨rfl, rfl⟩ := hrel; go_wp2_with fail; go_ret; exact ⟨rfl, unhide hfin⟩)

set_option maxRecDepth 100000 in
set_option maxHeartbeats 4000000 in
theorem step6 {w : World} {bd bm s : Nat} (hd : Dc w bd s) (hm : Rc w bm s) (hne : bd ≠ bm) (wh f : Int) (n : Nat) (n1 : 1 ≤ n) (n2 : n ≤ 300) (v : Value) :
    Calls Try.prog 12 #[.pointer (some ⟨bd, 0, none⟩), .pointer (some ⟨bm, 0, none⟩), .agg #[.int .i64 6, .int .i64 wh, .int .i64 n, .int .u64 f, v]] w fun e w' => e = .returned (.bool true) ∧ Both w w' bd bm := by
  have hbo : bm < w.heap.size := hm.blk.lt
  have HB0 := Blk.new w #[.int .i64 6, .int .i64 wh, .int .i64 (n : Int), .int .u64 f, v] 33
  have K0 : Hid (Kept [] w (w.alloc (.cells #[.int .i64 6, .int .i64 wh, .int .i64 (n : Int), .int .u64 f, v] 33))) := (Kept.refl _ _).alloc _
  have hd0 := hide (hd.keep (unhide K0) (by simp))
  have hm0 := hide (hm.keep (unhide K0) (by simp))
  have hne' := hide hne
  have HBk : Hid (∀ w1, Kept [bm] (w.alloc (.cells #[.int .i64 6, .int .i64 wh, .int .i64 (n : Int), .int .u64 f, v] 33)) w1 → w1.cell? ⟨w.heap.size, 2, none⟩ = some (.int .i64 (n : Int))) := fun w1 hk => by
    have h := HB0.kept hk (by simp; omega)
    rw [h.cell]; rfl
  have hln := hide (stp_length n s (n - 1))
  have t1 : ¬ (n : Int) > 300 := by omega
  have HSM := fun w1 v1 v2 q1 q2 => hide (same_any (w := w1) (v1 := v1) (v2 := v2) (l := (stp n s (n - 1)).1) q1 q2)
  have HA := hide (rshuffle_any (unhide hm0) n n1 (by omega))
  have HB := fun w1 (h : Dc w1 bd s) => hide (shuffle_any h n n1 (by omega))
  generalize (stp n s (n - 1)).1 = L at *
  generalize on s (stp n s (n - 1)).2 = t at *
  clear hd hm hne HB0
  go_enter Try.func12, Try.ntmps12
  go_wp2_with (first
    | (go_at_call 35; (refine (unhide HA).mono ?_; rintro e w1 ⟨g1, c1, rfl, ho, hm1, hk1⟩; have hd1 := hide ((unhide hd0).keep hk1 (by have := unhide hne'; simpa using this)); have cN := unhide HBk _ hk1; have ngb : Hid (g1 ≠ bd) := (Nat.ne_of_gt (Nat.lt_of_lt_of_le (unhide hd0).blk.lt (own_lt ho rfl).1)); replace hm1 := hide hm1; replace hk1 := hide hk1; replace ho := hide ho; clear hd0 hm0 HBk HA))
    | (go_at_call 36; refine (unhide (HB _ (unhide hd1))).mono ?_; rintro e w2 ⟨g2, rfl, hb2, hg2, hd2, hk2⟩; have ho2 := hide (own_kept (unhide ho) hk2 (by intro z e; cases e; have := unhide ngb; simpa using this)); have nn : Hid (g2 ≠ bd ∧ g2 ≠ bm ∧ w.heap.size ≤ g2) := ⟨Nat.ne_of_gt (Nat.lt_of_lt_of_le (unhide hd1).blk.lt hg2), Nat.ne_of_gt (Nat.lt_of_lt_of_le (unhide hm1).blk.lt hg2), Nat.le_trans (Nat.le_trans (unhide K0).size (unhide hk1).size) hg2⟩; replace hb2 := hide hb2; have hbo := hide (both_of (unhide K0) (unhide hk1) hk2 hd2 (unhide hm1) (unhide hne')); clear HB hd1 hm1 hk1 ho hk2 hd2 hg2)
    | (go_at_call 37; refine (unhide (HSM _ _ _ (by have h := unhide ho2; have e := unhide hln; rw [← e] at h; rw [show n = L.length from e.symm]; exact SeesI.of_own h) (by have h := ownI_of_blk (base := 0) (unhide hb2) (Nat.zero_le _) (unhide hln) (by omega); have e := unhide hln; rw [← e] at h; rw [show n = L.length from e.symm]; exact SeesI.of_own h))).mono ?_; rintro e w3 ⟨rfl, hmm⟩; have hk3 : Hid (Kept [] w2 w3) := (by obtain ⟨m, rfl⟩ := hmm; exact (Kept.refl _ _).drewN m); clear HSM hmm))
  go_loopw [14] (fun s14 wr => ∃ k : Nat, k ≤ n ∧ s14 = .int .i64 k ∧ (∃ L', L'.length = n ∧ Blk wr g2 (ints L').toArray 3) ∧ Kept [g2] w2 wr) (fun s14 _ => n - (intOf s14).toNat)
  case atStart => exact ⟨0, by omega, rfl, ⟨L, unhide hln, (unhide hb2).kept (unhide hk3) (by simp)⟩, (unhide hk3).mono (fun x hx => by simp at hx)⟩
  case round =>
    obtain ⟨k, hk, rfl, ⟨L', hl', hb'⟩, hk'⟩ := hrel
    by_cases hlt : k < n
    · have c1 := blk_at hb' (j := k) (by omega)
      have c2 := hb'.frozen k
      have N1 := hide (blk_put hb' k (-1))
      have N2 := hide (hk'.setCell (p := ⟨g2, k, none⟩) (Or.inl (by simp)) (.int .i64 (-1)))
      generalize L'.getD k 0 = y at c1
      clear hb' hk'
      go_wp2_with fail
      exact ⟨⟨k + 1, by omega, by simp, ⟨_, by rw [List.length_set]; exact hl', unhide N1⟩, unhide N2⟩, by simp [intOf]; omega⟩
    · obtain rfl : k = n := by omega
      have hk5 := hide hk'
      clear hk' hb'
      go_wp2_with fail
      go_ret
      refine ⟨rfl, ?_⟩
      obtain ⟨⟨u, q1, q2⟩, q3⟩ := unhide hbo
      refine ⟨⟨u, q1.keep (unhide hk5) (by have := (unhide nn).1; simpa using this.symm), q2.keep (unhide hk5) (by have := (unhide nn).2.1; simpa using this.symm)⟩, ?_⟩
      exact q3.trans (unhide hk5) (fun x hx => by simp at hx; subst hx; exact Or.inr (unhide nn).2.2)
end Go.Proofs.Ytoibkgjnnneagaa
