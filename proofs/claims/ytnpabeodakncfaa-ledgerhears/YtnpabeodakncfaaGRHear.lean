/- The document's Hear. -/
import Derived.Test.YtnpabeodakncfaaGLook
import Derived.Test.YtnpabeodakncfaaGRef
import Derived.Deep.MidRow
import Derived.BigRegion
import Derived.Deep.DeepCutAuto
namespace Go.Proofs.Ytnpabeodakncfaa
open Go.RowKit

set_option maxRecDepth 100000 in
set_option maxHeartbeats 40000000 in
theorem rhear_any (w : World) (s : Int) (l : Ld) (k x y : Int) : Calls Try.prog 13 #[.int .i64 s, lv l, .int .i64 k, .int .i64 x, .int .i64 y] w fun e w' => e = .returned (.tuple #[.int .i64 (her s l k x y).1, .int .i64 (her s l k x y).2]) ∧ Kept [] w w' := by
  have HV := fun W => rvalid_any W s l
  have HS := fun W n => rserver_any W n
  have HA := fun W => answers_any W
  have HH := fun W (ps : List UInt8) (hp : ps.length ≤ 100) => rhas_lit W ps l.ph hp (decide (∃ c ∈ ps, ((c.toNat : Int) - 48) % 256 = l.ph)) (by simp)
  have F1 : vld s l = false → her s l k x y = (0, 0) := fun h => by rw [her, if_pos (Or.inl h)]
  have F2 : oth s y = false → her s l k x y = (0, 0) := fun h => by rw [her, if_pos (Or.inr h)]
  have F3 := @her_guard s l k x y
  have F4 := @look_her s l k x y
  obtain ⟨⟨R, Y⟩, hH⟩ : ∃ z, her s l k x y = z := ⟨_, rfl⟩
  simp only [hH] at F1 F2 F3 F4 ⊢
  clear hH
  rw [show lv l = .agg #[.int .i64 l.ph, .int .i64 l.ep, .int .i64 l.pe] from rfl] at *
  by_cases hbad : vld s l = false ∨ srv y = false ∨ y = s ∨ (k = 3 ∧ 1073741824 ≤ x ∧ l.ep < x)
  · have hRY : (R, Y) = ((0 : Int), (0 : Int)) := by
      rcases hbad with h | h | h | h
      · exact F1 h
      · exact F2 (by simp [srv, oth] at *; omega)
      · exact F2 (by simp [oth]; omega)
      · exact F3 h
    have hR : R = 0 := by injection hRY
    have hY : Y = 0 := by injection hRY
    clear F1 F2 F3 F4 hRY
    subst hR hY
    have HB := hide hbad
    clear hbad
    go_enter Try.func13, Try.ntmps13
    go_wp2_with (first
      | (go_at_call 33; refine (HV _).mono ?_; rintro e w1 ⟨rfl, hk⟩; have hb := (Blk.new w _ _).kept hk (by simp); have hK := ((Kept.refl [] w).alloc _).step hk; obtain ⟨c0, c1, c2⟩ := box3 hb; clear hk)
      | (go_at_call 44; refine (HS _ _).mono ?_; rintro e w8 ⟨rfl, hq⟩; have hq2 := hq.symm; subst hq2)
      | (go_at_call 45; refine (HA _).mono ?_; rintro e w2 ⟨rfl, hT, hk⟩; have hb2 := hb.kept hk (by simp); have hK2 := hK.step hk; clear hk))
    all_goals first
      | (go_ret2
         refine ⟨rfl, hK⟩)
      | (exfalso; have hbad := unhide HB; clear HV HS HA HH; simp_all; done)
      | (exfalso; have hbad := unhide HB; clear HV HS HA HH; simp_all; omega)
  · have h1 : vld s l = true := by cases h : vld s l <;> simp_all
    have h2 : srv y = true := by cases h : srv y <;> simp_all
    have h3 : ¬ y = s := fun h => hbad (Or.inr (Or.inr (Or.inl h)))
    have h4 : ¬ (k = 3 ∧ 1073741824 ≤ x ∧ l.ep < x) := fun h => hbad (Or.inr (Or.inr (Or.inr h)))
    have HL := hide (F4 h1 (by simp [srv, oth] at *; omega) h4)
    have h5 : k = 3 → 1073741824 ≤ x → (l.ep < x) = False := fun a b => by simp; omega
    clear F1 F2 F3 F4 hbad h4
    rw [h1] at HV
    go_enter Try.func13, Try.ntmps13
    go_wp2_with (first
      | (go_at_call 33; refine (HV _).mono ?_; rintro e w1 ⟨rfl, hk⟩; have hb := (Blk.new w _ _).kept hk (by simp); have hK := ((Kept.refl [] w).alloc _).step hk; obtain ⟨c0, c1, c2⟩ := box3 hb; clear hk)
      | (go_at_call 44; refine (HS _ _).mono ?_; rintro e w8 ⟨rfl, hq⟩; have hq2 := hq.symm; subst hq2)
      | (go_at_call 45; refine (HA _).mono ?_; rintro e w2 ⟨rfl, hT, hk⟩; have hb2 := hb.kept hk (by simp); have hK2 := hK.step hk; clear hk))
    all_goals
      clear HV HS HA hb hK c0 c1 c2
      go_loopw [13] (fun i wr => ∃ j : Nat, j ≤ 12 ∧ i = .int .i64 (j : Int) ∧ look l k x y (tbl.drop j) = (R, Y) ∧ Kept [] w wr ∧ Blk wr w.heap.size #[.int .i64 l.ph, .int .i64 l.ep, .int .i64 l.pe] 25 ∧ Blk wr w1.heap.size tblc 71) (fun i _ => 12 - (intOf i).toNat)
      case atStart => exact ⟨0, by omega, rfl, unhide HL, hK2, hb2, hT⟩
      case round =>
        obtain ⟨j, hj, rfl, hlook, hkp, hbl, htb⟩ := hrel
        by_cases hlt : j < 12
        · obtain ⟨a, ha⟩ : ∃ a, tbl[j]? = some a := ⟨tbl[j]'hlt, List.getElem?_eq_getElem hlt⟩
          rw [look_drop l k x y ha] at hlook
          obtain ⟨t1, t2, t3⟩ := tbl_rows ha
          have hrg := tbl_range htb ha
          rw [Nat.zero_add] at hrg
          obtain ⟨ak, ap, ae, aq, ar, ax⟩ := a
          unfold an at hrg
          dsimp only at *
          have HG := hide hrg
          have HLK := hide hlook
          have HT1 := hide t1
          have HKP := hide hkp
          have HBL := hide hbl
          have HTB := hide htb
          obtain ⟨c0, c1, c2⟩ := box3 hbl
          have hlb := hbl.lt
          clear hrg hlook t1 hkp hbl htb ha HL
          go_upto_region 8 with (first
            | (guard_target =~ wpList _ _ _ _ _ _; refine wpList_load_mid rfl 71 _ rfl w1.heap.size (j * 6) rfl _ _ (unhide HG) Try.underlying71 rfl sizeAns ?_))
          rcases t2 with rfl | rfl | rfl <;> rcases Int.lt_trichotomy l.ep x with ht | ht | ht
          case inl.inl =>
           as_aux_lemma =>
            have e1 : (l.ep == x) = false := by simp; omega
            have e2 : (l.ep < x) = True := by simp; omega
            have e3 : (x < l.ep) = False := by simp; omega
            have HT2 := hide ht
            clear ht t3
            go_wp2_with (first
              | (go_at_call 46; refine (HH _ ap (by have := unhide HT1; omega)).mono ?_; rintro e w9 ⟨rfl, hq⟩; have hq2 := hq.symm; subst hq2))
            all_goals try (guard_target =~ Code.wp _ _ _ _ _; go_region)
            all_goals try (guard_target =~ Exit.then _ _ _ _ _; go_wp2)
            all_goals first
              | (refine ⟨⟨j + 1, by omega, by simp, ?_, ?_, ?_, ?_⟩, by simp [intOf]; omega⟩
                 · have hl := unhide HLK
                   have ht := unhide HT2
                   rw [if_neg (by unfold fit; rintro ⟨f1, f2, f3, f4, f5⟩; dsimp only at *; first | omega | (simp_all; done) | (simp_all; omega))] at hl
                   exact hl
                 · first | exact (unhide HKP).alloc _ | exact ((unhide HKP).alloc _).drew
                 · exact (unhide HBL).alloc _
                 · exact (unhide HTB).alloc _)
              | (go_ret2
                 have hl := unhide HLK
                 have ht := unhide HT2
                 rw [if_pos (by unfold fit; dsimp only; refine ⟨?_, ?_, ?_, ?_, ?_⟩ <;> first | omega | (simp_all; done) | (simp_all; omega))] at hl
                 have hr : ar = R := by injection hl
                 have hy : ax = Y := by injection hl
                 refine ⟨ret_two hr hy, ?_⟩
                 first | exact (unhide HKP).alloc _ | exact ((unhide HKP).alloc _).drew)
              | (trace_state; sorry)
          case inl.inr.inl =>
           as_aux_lemma =>
            have e1 : (l.ep == x) = true := by simp; omega
            have e2 : (l.ep < x) = False := by simp; omega
            have e3 : (x < l.ep) = False := by simp; omega
            have HT2 := hide ht
            clear ht t3
            go_wp2_with (first
              | (go_at_call 46; refine (HH _ ap (by have := unhide HT1; omega)).mono ?_; rintro e w9 ⟨rfl, hq⟩; have hq2 := hq.symm; subst hq2))
            all_goals try (guard_target =~ Code.wp _ _ _ _ _; go_region)
            all_goals try (guard_target =~ Exit.then _ _ _ _ _; go_wp2)
            all_goals first
              | (refine ⟨⟨j + 1, by omega, by simp, ?_, ?_, ?_, ?_⟩, by simp [intOf]; omega⟩
                 · have hl := unhide HLK
                   have ht := unhide HT2
                   rw [if_neg (by unfold fit; rintro ⟨f1, f2, f3, f4, f5⟩; dsimp only at *; first | omega | (simp_all; done) | (simp_all; omega))] at hl
                   exact hl
                 · first | exact (unhide HKP).alloc _ | exact ((unhide HKP).alloc _).drew
                 · exact (unhide HBL).alloc _
                 · exact (unhide HTB).alloc _)
              | (go_ret2
                 have hl := unhide HLK
                 have ht := unhide HT2
                 rw [if_pos (by unfold fit; dsimp only; refine ⟨?_, ?_, ?_, ?_, ?_⟩ <;> first | omega | (simp_all; done) | (simp_all; omega))] at hl
                 have hr : ar = R := by injection hl
                 have hy : ax = Y := by injection hl
                 refine ⟨ret_two hr hy, ?_⟩
                 first | exact (unhide HKP).alloc _ | exact ((unhide HKP).alloc _).drew)
              | (trace_state; sorry)
          case inl.inr.inr =>
           as_aux_lemma =>
            have e1 : (l.ep == x) = false := by simp; omega
            have e2 : (l.ep < x) = False := by simp; omega
            have e3 : (x < l.ep) = True := by simp; omega
            have HT2 := hide ht
            clear ht t3
            go_wp2_with (first
              | (go_at_call 46; refine (HH _ ap (by have := unhide HT1; omega)).mono ?_; rintro e w9 ⟨rfl, hq⟩; have hq2 := hq.symm; subst hq2))
            all_goals try (guard_target =~ Code.wp _ _ _ _ _; go_region)
            all_goals try (guard_target =~ Exit.then _ _ _ _ _; go_wp2)
            all_goals first
              | (refine ⟨⟨j + 1, by omega, by simp, ?_, ?_, ?_, ?_⟩, by simp [intOf]; omega⟩
                 · have hl := unhide HLK
                   have ht := unhide HT2
                   rw [if_neg (by unfold fit; rintro ⟨f1, f2, f3, f4, f5⟩; dsimp only at *; first | omega | (simp_all; done) | (simp_all; omega))] at hl
                   exact hl
                 · first | exact (unhide HKP).alloc _ | exact ((unhide HKP).alloc _).drew
                 · exact (unhide HBL).alloc _
                 · exact (unhide HTB).alloc _)
              | (go_ret2
                 have hl := unhide HLK
                 have ht := unhide HT2
                 rw [if_pos (by unfold fit; dsimp only; refine ⟨?_, ?_, ?_, ?_, ?_⟩ <;> first | omega | (simp_all; done) | (simp_all; omega))] at hl
                 have hr : ar = R := by injection hl
                 have hy : ax = Y := by injection hl
                 refine ⟨ret_two hr hy, ?_⟩
                 first | exact (unhide HKP).alloc _ | exact ((unhide HKP).alloc _).drew)
              | (trace_state; sorry)
          case inr.inl.inl =>
           as_aux_lemma =>
            have e1 : (l.ep == x) = false := by simp; omega
            have e2 : (l.ep < x) = True := by simp; omega
            have e3 : (x < l.ep) = False := by simp; omega
            have HT2 := hide ht
            clear ht t3
            go_wp2_with (first
              | (go_at_call 46; refine (HH _ ap (by have := unhide HT1; omega)).mono ?_; rintro e w9 ⟨rfl, hq⟩; have hq2 := hq.symm; subst hq2))
            all_goals try (guard_target =~ Code.wp _ _ _ _ _; go_region)
            all_goals try (guard_target =~ Exit.then _ _ _ _ _; go_wp2)
            all_goals first
              | (refine ⟨⟨j + 1, by omega, by simp, ?_, ?_, ?_, ?_⟩, by simp [intOf]; omega⟩
                 · have hl := unhide HLK
                   have ht := unhide HT2
                   rw [if_neg (by unfold fit; rintro ⟨f1, f2, f3, f4, f5⟩; dsimp only at *; first | omega | (simp_all; done) | (simp_all; omega))] at hl
                   exact hl
                 · first | exact (unhide HKP).alloc _ | exact ((unhide HKP).alloc _).drew
                 · exact (unhide HBL).alloc _
                 · exact (unhide HTB).alloc _)
              | (go_ret2
                 have hl := unhide HLK
                 have ht := unhide HT2
                 rw [if_pos (by unfold fit; dsimp only; refine ⟨?_, ?_, ?_, ?_, ?_⟩ <;> first | omega | (simp_all; done) | (simp_all; omega))] at hl
                 have hr : ar = R := by injection hl
                 have hy : ax = Y := by injection hl
                 refine ⟨ret_two hr hy, ?_⟩
                 first | exact (unhide HKP).alloc _ | exact ((unhide HKP).alloc _).drew)
              | (trace_state; sorry)
          case inr.inl.inr.inl =>
           as_aux_lemma =>
            have e1 : (l.ep == x) = true := by simp; omega
            have e2 : (l.ep < x) = False := by simp; omega
            have e3 : (x < l.ep) = False := by simp; omega
            have HT2 := hide ht
            clear ht t3
            go_wp2_with (first
              | (go_at_call 46; refine (HH _ ap (by have := unhide HT1; omega)).mono ?_; rintro e w9 ⟨rfl, hq⟩; have hq2 := hq.symm; subst hq2))
            all_goals try (guard_target =~ Code.wp _ _ _ _ _; go_region)
            all_goals try (guard_target =~ Exit.then _ _ _ _ _; go_wp2)
            all_goals first
              | (refine ⟨⟨j + 1, by omega, by simp, ?_, ?_, ?_, ?_⟩, by simp [intOf]; omega⟩
                 · have hl := unhide HLK
                   have ht := unhide HT2
                   rw [if_neg (by unfold fit; rintro ⟨f1, f2, f3, f4, f5⟩; dsimp only at *; first | omega | (simp_all; done) | (simp_all; omega))] at hl
                   exact hl
                 · first | exact (unhide HKP).alloc _ | exact ((unhide HKP).alloc _).drew
                 · exact (unhide HBL).alloc _
                 · exact (unhide HTB).alloc _)
              | (go_ret2
                 have hl := unhide HLK
                 have ht := unhide HT2
                 rw [if_pos (by unfold fit; dsimp only; refine ⟨?_, ?_, ?_, ?_, ?_⟩ <;> first | omega | (simp_all; done) | (simp_all; omega))] at hl
                 have hr : ar = R := by injection hl
                 have hy : ax = Y := by injection hl
                 refine ⟨ret_two hr hy, ?_⟩
                 first | exact (unhide HKP).alloc _ | exact ((unhide HKP).alloc _).drew)
              | (trace_state; sorry)
          case inr.inl.inr.inr =>
           as_aux_lemma =>
            have e1 : (l.ep == x) = false := by simp; omega
            have e2 : (l.ep < x) = False := by simp; omega
            have e3 : (x < l.ep) = True := by simp; omega
            have HT2 := hide ht
            clear ht t3
            go_wp2_with (first
              | (go_at_call 46; refine (HH _ ap (by have := unhide HT1; omega)).mono ?_; rintro e w9 ⟨rfl, hq⟩; have hq2 := hq.symm; subst hq2))
            all_goals try (guard_target =~ Code.wp _ _ _ _ _; go_region)
            all_goals try (guard_target =~ Exit.then _ _ _ _ _; go_wp2)
            all_goals first
              | (refine ⟨⟨j + 1, by omega, by simp, ?_, ?_, ?_, ?_⟩, by simp [intOf]; omega⟩
                 · have hl := unhide HLK
                   have ht := unhide HT2
                   rw [if_neg (by unfold fit; rintro ⟨f1, f2, f3, f4, f5⟩; dsimp only at *; first | omega | (simp_all; done) | (simp_all; omega))] at hl
                   exact hl
                 · first | exact (unhide HKP).alloc _ | exact ((unhide HKP).alloc _).drew
                 · exact (unhide HBL).alloc _
                 · exact (unhide HTB).alloc _)
              | (go_ret2
                 have hl := unhide HLK
                 have ht := unhide HT2
                 rw [if_pos (by unfold fit; dsimp only; refine ⟨?_, ?_, ?_, ?_, ?_⟩ <;> first | omega | (simp_all; done) | (simp_all; omega))] at hl
                 have hr : ar = R := by injection hl
                 have hy : ax = Y := by injection hl
                 refine ⟨ret_two hr hy, ?_⟩
                 first | exact (unhide HKP).alloc _ | exact ((unhide HKP).alloc _).drew)
              | (trace_state; sorry)
          case inr.inr.inl =>
           as_aux_lemma =>
            have e1 : (l.ep == x) = false := by simp; omega
            have e2 : (l.ep < x) = True := by simp; omega
            have e3 : (x < l.ep) = False := by simp; omega
            have HT2 := hide ht
            clear ht t3
            go_wp2_with (first
              | (go_at_call 46; refine (HH _ ap (by have := unhide HT1; omega)).mono ?_; rintro e w9 ⟨rfl, hq⟩; have hq2 := hq.symm; subst hq2))
            all_goals try (guard_target =~ Code.wp _ _ _ _ _; go_region)
            all_goals try (guard_target =~ Exit.then _ _ _ _ _; go_wp2)
            all_goals first
              | (refine ⟨⟨j + 1, by omega, by simp, ?_, ?_, ?_, ?_⟩, by simp [intOf]; omega⟩
                 · have hl := unhide HLK
                   have ht := unhide HT2
                   rw [if_neg (by unfold fit; rintro ⟨f1, f2, f3, f4, f5⟩; dsimp only at *; first | omega | (simp_all; done) | (simp_all; omega))] at hl
                   exact hl
                 · first | exact (unhide HKP).alloc _ | exact ((unhide HKP).alloc _).drew
                 · exact (unhide HBL).alloc _
                 · exact (unhide HTB).alloc _)
              | (go_ret2
                 have hl := unhide HLK
                 have ht := unhide HT2
                 rw [if_pos (by unfold fit; dsimp only; refine ⟨?_, ?_, ?_, ?_, ?_⟩ <;> first | omega | (simp_all; done) | (simp_all; omega))] at hl
                 have hr : ar = R := by injection hl
                 have hy : ax = Y := by injection hl
                 refine ⟨ret_two hr hy, ?_⟩
                 first | exact (unhide HKP).alloc _ | exact ((unhide HKP).alloc _).drew)
              | (trace_state; sorry)
          case inr.inr.inr.inl =>
           as_aux_lemma =>
            have e1 : (l.ep == x) = true := by simp; omega
            have e2 : (l.ep < x) = False := by simp; omega
            have e3 : (x < l.ep) = False := by simp; omega
            have HT2 := hide ht
            clear ht t3
            go_wp2_with (first
              | (go_at_call 46; refine (HH _ ap (by have := unhide HT1; omega)).mono ?_; rintro e w9 ⟨rfl, hq⟩; have hq2 := hq.symm; subst hq2))
            all_goals try (guard_target =~ Code.wp _ _ _ _ _; go_region)
            all_goals try (guard_target =~ Exit.then _ _ _ _ _; go_wp2)
            all_goals first
              | (refine ⟨⟨j + 1, by omega, by simp, ?_, ?_, ?_, ?_⟩, by simp [intOf]; omega⟩
                 · have hl := unhide HLK
                   have ht := unhide HT2
                   rw [if_neg (by unfold fit; rintro ⟨f1, f2, f3, f4, f5⟩; dsimp only at *; first | omega | (simp_all; done) | (simp_all; omega))] at hl
                   exact hl
                 · first | exact (unhide HKP).alloc _ | exact ((unhide HKP).alloc _).drew
                 · exact (unhide HBL).alloc _
                 · exact (unhide HTB).alloc _)
              | (go_ret2
                 have hl := unhide HLK
                 have ht := unhide HT2
                 rw [if_pos (by unfold fit; dsimp only; refine ⟨?_, ?_, ?_, ?_, ?_⟩ <;> first | omega | (simp_all; done) | (simp_all; omega))] at hl
                 have hr : ar = R := by injection hl
                 have hy : ax = Y := by injection hl
                 refine ⟨ret_two hr hy, ?_⟩
                 first | exact (unhide HKP).alloc _ | exact ((unhide HKP).alloc _).drew)
              | (trace_state; sorry)
          case inr.inr.inr.inr =>
           as_aux_lemma =>
            have e1 : (l.ep == x) = false := by simp; omega
            have e2 : (l.ep < x) = False := by simp; omega
            have e3 : (x < l.ep) = True := by simp; omega
            have HT2 := hide ht
            clear ht t3
            go_wp2_with (first
              | (go_at_call 46; refine (HH _ ap (by have := unhide HT1; omega)).mono ?_; rintro e w9 ⟨rfl, hq⟩; have hq2 := hq.symm; subst hq2))
            all_goals try (guard_target =~ Code.wp _ _ _ _ _; go_region)
            all_goals try (guard_target =~ Exit.then _ _ _ _ _; go_wp2)
            all_goals first
              | (refine ⟨⟨j + 1, by omega, by simp, ?_, ?_, ?_, ?_⟩, by simp [intOf]; omega⟩
                 · have hl := unhide HLK
                   have ht := unhide HT2
                   rw [if_neg (by unfold fit; rintro ⟨f1, f2, f3, f4, f5⟩; dsimp only at *; first | omega | (simp_all; done) | (simp_all; omega))] at hl
                   exact hl
                 · first | exact (unhide HKP).alloc _ | exact ((unhide HKP).alloc _).drew
                 · exact (unhide HBL).alloc _
                 · exact (unhide HTB).alloc _)
              | (go_ret2
                 have hl := unhide HLK
                 have ht := unhide HT2
                 rw [if_pos (by unfold fit; dsimp only; refine ⟨?_, ?_, ?_, ?_, ?_⟩ <;> first | omega | (simp_all; done) | (simp_all; omega))] at hl
                 have hr : ar = R := by injection hl
                 have hy : ax = Y := by injection hl
                 refine ⟨ret_two hr hy, ?_⟩
                 first | exact (unhide HKP).alloc _ | exact ((unhide HKP).alloc _).drew)
              | (trace_state; sorry)
        · obtain rfl : j = 12 := by omega
          have HKP := hide hkp
          have HR : Hid ((R, Y) = ((0 : Int), (0 : Int))) := hlook.symm
          clear hkp hbl htb hlook HL
          go_wp2_with fail
          go_ret2
          refine ⟨ret_two (by have := unhide HR; injection this with h1; exact h1.symm) (by have := unhide HR; injection this with _ h1; exact h1.symm), unhide HKP⟩
end Go.Proofs.Ytnpabeodakncfaa
