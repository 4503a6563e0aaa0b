/- JumpRanks, walked. -/
import Derived.Test.YtiafnfjgmfnnoaaJLentI
namespace Go.Proofs.Ytiafnfjgmfnnoaa
open Go.RowKit Go.Sort Go.Shelf

/-- the row is turned, so far -/
def turnI (l : List Int) (k : Nat) : List Int := l.reverse.take k ++ l.drop k
theorem turnI_zero (l : List Int) : turnI l 0 = l := by simp [turnI]
theorem turnI_all (l : List Int) : turnI l l.length = l.reverse := by
  unfold turnI
  rw [List.take_of_length_le (by simp), List.drop_length, List.append_nil]
theorem turnI_succ {l : List Int} {k : Nat} (hk : k < l.length) : (turnI l k).set k (l.getD (l.length - 1 - k) 0) = turnI l (k + 1) := by
  have hr : k < l.reverse.length := by simpa using hk
  have e1 : l.getD (l.length - 1 - k) 0 = l.reverse[k] := by
    rw [List.getD, List.getElem?_eq_getElem (by omega), Option.getD_some, List.getElem_reverse]
  have e2 : (l.reverse.take k).length = k := by simp; omega
  unfold turnI
  rw [List.set_append_right _ _ (by omega), e2, Nat.sub_self, List.drop_eq_getElem_cons hk, List.set_cons_zero, e1, List.take_add_one, List.getElem?_eq_getElem hr, Option.toList_some, List.append_assoc]
  rfl

set_option maxRecDepth 100000 in
set_option maxHeartbeats 2000000 in
theorem ranks_walk {w : World} {v : Value} {l : List Int} (hs : SeesI w v l) (hl : l.length ≤ 17592186043904) (h : Nat) (s wt : Int) (hh : h < 18446744073709551616) :
    Calls Try.prog 5 #[.int .u64 h, .int .i64 s, .int .i64 wt, v] w fun e w' => e = .returned (.bool true) ∧ Kept [] w w' := by
  obtain ⟨i0, hi, hz0, hz1, hz2⟩ := info_parts info3p
  have HI := hide (⟨hi, hz0, hz1, hz2⟩ : _ ∧ _ ∧ _ ∧ _)
  clear hi hz0 hz1 hz2
  have HS := hide hs
  obtain ⟨p, pc, hp, -⟩ := hs
  subst hp
  have HSC := hide (fun w => score_any w h s wt hh)
  have HRSC := hide (fun w => rscore_any w h s wt hh)
  generalize score h s wt = SC at *
  have HLE : Hid (∀ wx, Kept [] w wx → Calls Try.prog 24 #[.slice p l.length pc] wx fun e w' => ∃ g cap, e = .returned (.slice (some ⟨g, 0, none⟩) l.length cap) ∧ LentI w' w.heap.size g cap l.length l ∧ Kept [] w w') := fun wx hk =>
    (lentInts_any ((unhide HS).kept hk (Or.inr (by simp))) hl).mono fun e w' ⟨g, cap, he, h1, h2⟩ => ⟨g, cap, he, ⟨h1.1, own_base h1.2 hk.size⟩, hk.trans h2 (by simp)⟩
  have HRK : Hid (∀ (wx : World) (v : Value) (l : List Int), SeesI wx v l → Calls Try.prog 25 #[.int .u64 h, v] wx fun e w' => ∃ a cap, e = .returned (.slice a (rankOf h l).length cap) ∧ SeesI w' (.slice a (rankOf h l).length cap) (rankOf h l) ∧ Kept [] wx w') := fun wx v l hv =>
    (rank_any hv h hh).mono fun e w' ⟨a, cap, he, ho, hk⟩ => ⟨a, cap, he, SeesI.of_own ho, hk⟩
  have HRR : Hid (∀ (wx : World) (v : Value) (l : List Int), SeesI wx v l → Calls Try.prog 26 #[.int .u64 h, v] wx fun e w' => ∃ a cap, e = .returned (.slice a (rankOf h l).length cap) ∧ SeesI w' (.slice a (rankOf h l).length cap) (rankOf h l) ∧ Kept [] wx w') := fun wx v l hv =>
    (rrank_any hv h hh).mono fun e w' ⟨a, cap, he, ho, hk⟩ => ⟨a, cap, he, SeesI.of_own ho, hk⟩
  generalize hA : l.length = L at *
  have HA := hide hA
  clear hA
  go_enter Try.func5, Try.ntmps5
  go_wp2_with fail
  refine (unhide HSC _).mono ?_
  rintro e w1 ⟨rfl, hk1⟩
  have HK := hide hk1
  clear hk1
  go_wp2_with fail
  refine (unhide HRSC _).mono ?_
  rintro e w2 ⟨rfl, hk2⟩
  have HK2 : Hid (Kept [] w w2) := (unhide HK).trans hk2 (by simp)
  clear hk2 HK
  go_wp2_with fail
  refine (unhide HLE _ (unhide HK2)).mono ?_
  rintro e w3 ⟨g, cap, rfl, hle, hk3⟩
  have HL3 := hide hle
  have HK3 := hide hk3
  have hgw := hle.caps
  clear hle hk3 HK2
  go_wp2_with fail
  refine (unhide HRK _ _ l (unhide HL3).sees).mono ?_
  rintro e w4 ⟨a4, c4, rfl, hs4, hk4⟩
  have HS4 := hide hs4
  have HK4 : Hid (Kept [] w w4) := (unhide HK3).trans hk4 (by simp)
  have HL4 : Hid (LentI w4 w.heap.size g cap L l) := (unhide HL3).kept hk4 (by simp)
  clear hs4 hk4 HK3 HL3
  go_wp2_with fail
  refine (unhide HRR _ _ l ((unhide HS).kept (unhide HK4) (Or.inr (by simp)))).mono ?_
  rintro e w5 ⟨a5, c5, rfl, hs5, hk5⟩
  have HK5 : Hid (Kept [] w w5) := (unhide HK4).trans hk5 (by simp)
  have HL5 : Hid (LentI w5 w.heap.size g cap L l) := (unhide HL4).kept hk5 (by simp)
  have HSM := hide (same_any ((unhide HS4).kept hk5 (Or.inr (by simp))) hs5)
  have HKP := hide (keptInts_any (unhide HL5) ((unhide HS).kept (unhide HK5) (Or.inr (by simp))))
  clear hs5 hk5 HK4 HL4 HS4
  generalize (rankOf h l).length = RL at *
  go_wp2_with fail
  refine (unhide HSM).mono ?_
  rintro e w6 ⟨rfl, m6, rfl⟩
  have HKP2 : Hid (Calls Try.prog 27 #[.slice (some ⟨g, 0, none⟩) L cap, .slice p L pc] (w5.drewN m6) fun e w' => e = .returned (.bool true) ∧ Quiet (w5.drewN m6) w') := keptInts_any (w := w5.drewN m6) ((unhide HL5).kept ((Kept.refl [] w5).drewN m6) (by simp)) ((unhide HS).kept ((unhide HK5).drewN m6) (Or.inr (by simp)))
  clear HKP
  go_wp2_with fail
  refine (unhide HKP2).mono ?_
  rintro e w7 ⟨rfl, hq7⟩
  have HK7 : Hid (Kept [] w w7) := ((unhide HK5).drewN m6).trans hq7.kept (by simp)
  have HL7 : Hid (LentI w7 w.heap.size g cap L l) := (unhide HL5).kept (((Kept.refl [] w5).drewN m6).trans hq7.kept (by simp)) (by simp)
  clear hq7 HKP2 HSM HK5 HL5
  go_wp2_with fail
  go_loopw [10] (fun i wr => ∃ k : Nat, k ≤ L ∧ i = .int .i64 k ∧ LentI wr w.heap.size g cap L (turnI l k) ∧ Kept [] w wr) (fun i _ => L - (intOf i).toNat)
  case atStart => exact ⟨0, by omega, rfl, by rw [turnI_zero]; exact unhide HL7, unhide HK7⟩
  case round =>
    obtain ⟨k, hk, rfl, hL, hkw⟩ := hrel
    have HLk := hide hL
    have HKw := hide hkw
    clear hL hkw HK7 HL7
    by_cases hkl : k < L
    · obtain ⟨a', cap', hv, -, -, h4⟩ := (unhide HS).kept (unhide HKw) (Or.inr (by simp))
      have hv1 : a' = p := by cases hv; rfl
      subst hv1
      obtain ⟨b, off, hpa, hc⟩ := at_int (k := L - 1 - k) (unhide HA) h4 (by omega)
      subst hpa
      have hcell := (unhide HLk).cell hkl
      have hfr := (unhide HLk).frozen k
      have HN : Hid (LentI (wr.setCell ⟨g, k, none⟩ (.int .i64 (l.getD (L - 1 - k) 0))) w.heap.size g cap L (turnI l (k + 1))) := by
        have h := (unhide HLk).set (l.getD (L - 1 - k) 0) hkl
        rw [← unhide HA, turnI_succ (by rw [unhide HA]; exact hkl), unhide HA] at h
        exact h
      have HKn : Hid (Kept [] w (wr.setCell ⟨g, k, none⟩ (.int .i64 (l.getD (L - 1 - k) 0)))) := (unhide HKw).setCell (Or.inr hgw.2.2.1) _
      generalize l.getD (L - 1 - k) 0 = y at hc HN HKn
      generalize (turnI l k).getD k 0 = y0 at hcell
      clear hv h4
      have e1 : ((L : Int) - 1 - (k : Int)).toNat = L - 1 - k := by omega
      have e2 : (0 : Int) ≤ (L : Int) - 1 - (k : Int) := by omega
      have e3 : (L : Int) - 1 - (k : Int) < (L : Int) := by omega
      have e4 : k < L := hkl
      go_wp2
      refine ⟨⟨k + 1, by omega, by simp, unhide HN, unhide HKn⟩, ?_⟩
      simp [intOf]; omega
    · obtain rfl : k = L := by omega
      rw [← unhide HA, turnI_all, unhide HA] at HLk
      generalize hT : l.reverse = T at HLk
      have HT : Hid (T.length = k) := (unhide HLk).1
      clear hT
      go_wp2_with (at_builtin; refine wpList_twinI (w0 := wr) rfl _ _ 25 rfl i0 Try.underlying25 (unhide HI).1 (unhide HI).2.1 (unhide HI).2.2.1 (unhide HI).2.2.2 rfl _ T rfl (Kept.refl _ _) (unhide HLk).sees k (unhide HT) (by omega) ?_)
      intro a2 c2 w2 ho2 hk2
      have HS2 : Hid (SeesI w2 (.slice a2 k c2) T) := by
        have h9 := ho2
        rw [← unhide HT] at h9
        have := SeesI.of_own h9
        rw [unhide HT] at this
        exact this
      have HL2 : Hid (LentI w2 w.heap.size g cap k T) := (unhide HLk).kept hk2 (by simp)
      have HK2 : Hid (Kept [] w w2) := (unhide HKw).trans hk2 (by simp)
      clear ho2 hk2 HLk HKw
      go_wp2_with fail
      refine (unhide HRK _ _ T (unhide HL2).sees).mono ?_
      rintro e w4 ⟨a4, c4, rfl, hs4, hk4⟩
      have HS4 := hide hs4
      have HK4 : Hid (Kept [] w w4) := (unhide HK2).trans hk4 (by simp)
      have HL4 : Hid (LentI w4 w.heap.size g cap k T) := (unhide HL2).kept hk4 (by simp)
      have HS2b : Hid (SeesI w4 (.slice a2 k c2) T) := (unhide HS2).kept hk4 (Or.inr (by simp))
      clear hs4 hk4 HK2 HL2 HS2
      go_wp2_with fail
      refine (unhide HRR _ _ T (unhide HS2b)).mono ?_
      rintro e w5 ⟨a5, c5, rfl, hs5, hk5⟩
      have HK5 : Hid (Kept [] w w5) := (unhide HK4).trans hk5 (by simp)
      have HL5 : Hid (LentI w5 w.heap.size g cap k T) := (unhide HL4).kept hk5 (by simp)
      have HS5 : Hid (SeesI w5 (.slice a2 k c2) T) := (unhide HS2b).kept hk5 (Or.inr (by simp))
      have HSM := hide (same_any ((unhide HS4).kept hk5 (Or.inr (by simp))) hs5)
      clear hs5 hk5 HK4 HL4 HS4 HS2b
      generalize (rankOf h T).length = RL2 at *
      go_wp2_with fail
      refine (unhide HSM).mono ?_
      rintro e w6 ⟨rfl, m9, rfl⟩
      have HKP2 : Hid (Calls Try.prog 27 #[.slice (some ⟨g, 0, none⟩) k cap, .slice a2 k c2] (w5.drewN m9) fun e w' => e = .returned (.bool true) ∧ Quiet (w5.drewN m9) w') := keptInts_any (w := w5.drewN m9) ((unhide HL5).kept ((Kept.refl [] w5).drewN m9) (by simp)) ((unhide HS5).kept ((Kept.refl [] w5).drewN m9) (Or.inr (by simp)))
      clear HSM
      go_wp2_with fail
      refine (unhide HKP2).mono ?_
      rintro e w7 ⟨rfl, hq7⟩
      have HK7 : Hid (Kept [] w w7) := ((unhide HK5).drewN m9).trans hq7.kept (by simp)
      clear hq7
      go_wp2
      go_ret
      exact ⟨rfl, unhide HK7⟩
end Go.Proofs.Ytiafnfjgmfnnoaa
