/- one. -/
import Derived.Test.YtnpabeodakncfaaGKey
import Derived.Test.YtnpabeodakncfaaGTake
import Derived.Test.YtnpabeodakncfaaGInv2
import Derived.BigRegion
namespace Go.Proofs.Ytnpabeodakncfaa
open Go.RowKit

/-- how far 'one' has come behind k servers -/
def OnI (row : List Ld) (h k : Nat) (best ties owners : Int) : Prop :=
  (k ≤ h → (best < 0 ∨ ∃ j : Nat, j < k ∧ best = (j : Int) ∧ clm (row.getD j ⟨0, 0, 0⟩) = true)) ∧ (h < k → best = (h : Int) ∧ ties = 0) ∧ 0 ≤ ties ∧ ties ≤ k ∧ owners = (if h < k ∧ (row.getD h ⟨0, 0, 0⟩).ph = 1 then 1 else 0)
theorem le_s {t : Int} {k : Nat} (h : t ≤ (k : Int)) : t ≤ ((k + 1 : Nat) : Int) := by omega
theorem nn_s {t : Int} (h : 0 ≤ t) : 0 ≤ t + 1 := by omega
theorem ss_s {t : Int} {k : Nat} (h : t ≤ (k : Int)) : t + 1 ≤ ((k + 1 : Nat) : Int) := by omega
theorem key_beats {row : List Ld} {M : Ml → Prop} {S T : Int → Int} {h : Nat} (H : Inv (row.length : Int) (fr row) M S T (h : Int)) {j : Nat} (jl : j < row.length) (jh : j ≠ h) (jc : clm (row.getD j ⟨0, 0, 0⟩) = true) : kyO (row.getD j ⟨0, 0, 0⟩) < kyO (row.getD h ⟨0, 0, 0⟩) := by
  have := beats H (j := (j : Int)) (by omega) (by omega) (by omega) (by rw [fr_nat]; exact (clm_iff _).1 jc)
  rw [fr_nat, fr_nat] at this
  unfold kyO
  rw [if_neg (by omega)]
  split <;> omega
theorem own_one {row : List Ld} {M : Ml → Prop} {S T : Int → Int} {h : Nat} (H : Inv (row.length : Int) (fr row) M S T (h : Int)) {j : Nat} (jl : j < row.length) (jp : (row.getD j ⟨0, 0, 0⟩).ph = 1) : j = h := by
  refine Classical.byContradiction fun q => ?_
  have := (H.un (j : Int) (by omega) (by omega) (by omega)).1
  rw [fr_nat] at this
  exact this jp
theorem clm_h {row : List Ld} {M : Ml → Prop} {S T : Int → Int} {h : Nat} (H : Inv (row.length : Int) (fr row) M S T (h : Int)) : clm (row.getD h ⟨0, 0, 0⟩) = true := by
  have := H.hc
  rw [fr_nat] at this
  exact (clm_iff _).2 this
theorem OnI.skip {row : List Ld} {M : Ml → Prop} {S T : Int → Int} {h : Nat} (H : Inv (row.length : Int) (fr row) M S T (h : Int)) {k : Nat} {best ties owners : Int} (hc : clm (row.getD k ⟨0, 0, 0⟩) = false) (o : OnI row h k best ties owners) : OnI row h (k + 1) best ties owners := by
  have hkh : k ≠ h := fun q => by rw [q, clm_h H] at hc; cases hc
  have e1 : h < k + 1 → h < k := fun z => by omega
  have e2 : k + 1 ≤ h → k ≤ h := fun z => by omega
  obtain ⟨o1, o2, o3, o4, o5⟩ := o
  refine ⟨fun q => ?_, fun q => o2 (e1 q), o3, le_s o4, ?_⟩
  · rcases o1 (e2 q) with z | ⟨j, z1, z2, z3⟩
    · exact Or.inl z
    · exact Or.inr ⟨j, Nat.lt_succ_of_lt z1, z2, z3⟩
  · rw [o5]
    by_cases q : h < k
    · by_cases z : (row.getD h ⟨0, 0, 0⟩).ph = 1
      · rw [if_pos ⟨q, z⟩, if_pos ⟨Nat.lt_succ_of_lt q, z⟩]
      · rw [if_neg (fun y => z y.2), if_neg (fun y => z y.2)]
    · rw [if_neg (fun y => q y.1), if_neg (fun y => q (e1 y.1))]
theorem own_next {row : List Ld} {M : Ml → Prop} {S T : Int → Int} {h : Nat} (H : Inv (row.length : Int) (fr row) M S T (h : Int)) {k : Nat} {owners : Int} (hk : k < row.length) (o5 : owners = (if h < k ∧ (row.getD h ⟨0, 0, 0⟩).ph = 1 then 1 else 0)) :
    (if (row.getD k ⟨0, 0, 0⟩).ph = 1 then owners + 1 else owners) = (if h < k + 1 ∧ (row.getD h ⟨0, 0, 0⟩).ph = 1 then 1 else 0) := by
  rw [o5]
  by_cases q : k = h
  · subst q
    by_cases z : (row.getD k ⟨0, 0, 0⟩).ph = 1
    · rw [if_pos z, if_neg (fun y => absurd y.1 (Nat.lt_irrefl _)), if_pos ⟨Nat.lt_succ_self _, z⟩]; rfl
    · rw [if_neg z, if_neg (fun y => z y.2), if_neg (fun y => z y.2)]
  · have z : ¬ (row.getD k ⟨0, 0, 0⟩).ph = 1 := fun z => q (own_one H hk z)
    rw [if_neg z]
    by_cases y : h < k
    · by_cases z : (row.getD h ⟨0, 0, 0⟩).ph = 1
      · rw [if_pos ⟨y, z⟩, if_pos ⟨Nat.lt_succ_of_lt y, z⟩]
      · rw [if_neg (fun y => z y.2), if_neg (fun y => z y.2)]
    · rw [if_neg (fun x => y x.1), if_neg (fun x => y (by have := x.1; omega))]
theorem OnI.new {row : List Ld} {M : Ml → Prop} {S T : Int → Int} {h : Nat} (H : Inv (row.length : Int) (fr row) M S T (h : Int)) {k : Nat} {best ties owners : Int} (hk : k < row.length) (hc : clm (row.getD k ⟨0, 0, 0⟩) = true) (o : OnI row h k best ties owners) (hb : best < 0 ∨ ∃ j : Nat, best = (j : Int) ∧ kyO (row.getD j ⟨0, 0, 0⟩) < kyO (row.getD k ⟨0, 0, 0⟩)) :
    OnI row h (k + 1) (k : Int) 0 (if (row.getD k ⟨0, 0, 0⟩).ph = 1 then owners + 1 else owners) := by
  have e1 : ¬ k = h → h < k + 1 → h < k := fun y z => by omega
  have e2 : k + 1 ≤ h → k ≤ h := fun z => by omega
  obtain ⟨o1, o2, o3, o4, o5⟩ := o
  refine ⟨fun q => Or.inr ⟨k, Nat.lt_succ_self _, rfl, hc⟩, fun q => ⟨?_, rfl⟩, Int.le_refl _, Int.natCast_nonneg _, own_next H hk o5⟩
  by_cases z : k = h
  · rw [z]
  · exfalso
    have := o2 (e1 z (by assumption))
    have kb := key_beats H hk z hc
    rcases hb with y | ⟨j, y1, y2⟩
    · omega
    · have : j = h := by omega
      subst this
      omega
theorem OnI.tie {row : List Ld} {M : Ml → Prop} {S T : Int → Int} {h : Nat} (H : Inv (row.length : Int) (fr row) M S T (h : Int)) {k : Nat} {best ties owners : Int} (hk : k < row.length) (hc : clm (row.getD k ⟨0, 0, 0⟩) = true) (o : OnI row h k best ties owners) {j : Nat} (hj : best = (j : Int)) (hb : kyO (row.getD k ⟨0, 0, 0⟩) = kyO (row.getD j ⟨0, 0, 0⟩)) :
    OnI row h (k + 1) best (ties + 1) (if (row.getD k ⟨0, 0, 0⟩).ph = 1 then owners + 1 else owners) := by
  have e1 : ¬ k = h → h < k + 1 → h < k := fun y z => by omega
  have e2 : k + 1 ≤ h → k ≤ h := fun z => by omega
  obtain ⟨o1, o2, o3, o4, o5⟩ := o
  refine ⟨fun q => ?_, fun q => ?_, nn_s o3, ss_s o4, own_next H hk o5⟩
  · rcases o1 (e2 q) with z | ⟨j, z1, z2, z3⟩
    · exact Or.inl z
    · exact Or.inr ⟨j, Nat.lt_succ_of_lt z1, z2, z3⟩
  · exfalso
    by_cases z : k = h
    · subst z
      rcases o1 (Nat.le_refl _) with y | ⟨i, y1, y2, y3⟩
      · omega
      · have : i = j := by omega
        subst this
        have := key_beats H (j := i) (by omega) (by omega) y3
        omega
    · have := o2 (e1 z (by assumption))
      have kb := key_beats H hk z hc
      have : j = h := by omega
      subst this
      omega
theorem OnI.less {row : List Ld} {M : Ml → Prop} {S T : Int → Int} {h : Nat} (H : Inv (row.length : Int) (fr row) M S T (h : Int)) {k : Nat} {best ties owners : Int} (hk : k < row.length) (o : OnI row h k best ties owners) {j : Nat} (hj : best = (j : Int)) (hb : kyO (row.getD k ⟨0, 0, 0⟩) < kyO (row.getD j ⟨0, 0, 0⟩)) :
    OnI row h (k + 1) best ties (if (row.getD k ⟨0, 0, 0⟩).ph = 1 then owners + 1 else owners) := by
  have e1 : ¬ k = h → h < k + 1 → h < k := fun y z => by omega
  have e2 : k + 1 ≤ h → k ≤ h := fun z => by omega
  obtain ⟨o1, o2, o3, o4, o5⟩ := o
  refine ⟨fun q => ?_, fun q => ?_, o3, le_s o4, own_next H hk o5⟩
  · rcases o1 (e2 q) with z | ⟨j, z1, z2, z3⟩
    · exact Or.inl z
    · exact Or.inr ⟨j, Nat.lt_succ_of_lt z1, z2, z3⟩
  · by_cases z : k = h
    · exfalso
      subst z
      rcases o1 (Nat.le_refl _) with y | ⟨i, y1, y2, y3⟩
      · omega
      · have : i = j := by omega
        subst this
        have := key_beats H (j := i) (by omega) (by omega) y3
        omega
    · exact o2 (e1 z (by assumption))
set_option maxRecDepth 100000 in
set_option maxHeartbeats 2000000 in
theorem one_any {w : World} {b : Nat} {rv sv : Value} {row : List Ld} {sent : List Ml} (hw : Wd w b rv sv row sent) {M : Ml → Prop} {S T : Int → Int} {h : Nat} (H : Inv (row.length : Int) (fr row) M S T (h : Int)) :
    Calls Try.prog 21 #[.pointer (some ⟨b, 0, none⟩)] w fun e w' => e = .returned (.bool true) ∧ Kept [] w w' := by
  have HW := hide hw
  have HI := hide H
  have hn8 := H.n1
  have hh := H.h0
  have hrow : row.length ≤ 9223372036854775807 := by omega
  obtain ⟨a, cap, hrv⟩ := own_len hw.ro
  subst hrv
  have HV := fun W s a b c => valid_any W s ⟨a, b, c⟩
  have HK := fun W a b c => keyOf_any W ⟨a, b, c⟩
  have HHO := fun W (q : RowOf 3 lc W (.slice a row.length cap) row) => holder_any q
  have HSO := fun W (q : RowOf 3 lc W (.slice a row.length cap) row) => sound_any q true ⟨fun _ => snd_inv H, fun _ => rfl⟩
  rw [hldr_inv H] at HHO
  have b0 : w.cell? ⟨b, 0, none⟩ = some (.slice a row.length cap) := hw.blk.cell 0
  unfold lv at HV HK
  dsimp only at HV HK
  obtain ⟨n, hn⟩ : ∃ n, row.length = n := ⟨_, rfl⟩
  have HNI : Hid (Inv (row.length : Int) (fr row) M S T (h : Int)) := H
  simp only [hn] at HHO HSO b0 hn8 hh HW HI hrow
  have HN := hide hn
  clear hw H hn
  go_enter Try.func21, Try.ntmps21
  go_wp2_with fail
  go_loopw [3, 4, 5, 6] (fun be ti ow i wr => ∃ (k : Nat) (best ties owners : Int), k ≤ n ∧ i = .int .i64 (k : Int) ∧ be = .int .i64 best ∧ ti = .int .i64 ties ∧ ow = .int .i64 owners ∧ OnI row h k best ties owners ∧ Kept [] w wr) (fun _ _ _ i _ => n - (intOf i).toNat)
  case atStart => exact ⟨0, -1, 0, 0, by omega, rfl, rfl, rfl, rfl, ⟨fun _ => Or.inl (by omega), fun q => by omega, by omega, by omega, by simp⟩, Kept.refl _ _⟩
  case round =>
    obtain ⟨k, best, ties, owners, hk, rfl, rfl, rfl, rfl, ho, hkp⟩ := hrel
    have hwr := Wd.kept (unhide HW) hkp
    have b0r : wr.cell? ⟨b, 0, none⟩ = some (.slice a n cap) := hwr.blk.cell 0
    by_cases hlt : k < n
    · have hkl : k < row.length := by rw [unhide HN]; exact hlt
      obtain ⟨g, cap', hv', -, hgl, hrg⟩ := own_at (ce := lc) (fun _ => rfl) hwr.ro (led_lt hkl)
      rw [unhide HN] at hv'
      cases hv'
      obtain ⟨d0, d1, d2⟩ := row_cells hrg
      have hvl := (unhide HI).vld (i := (k : Int)) (by omega) (by omega)
      have hv2 := (unhide HI).v2 (k : Int) (by omega) (by omega)
      rw [fr_nat] at hvl hv2
      have HKP := hide hkp
      have HIX := hide hvl
      by_cases hc : clm (row.getD k ⟨0, 0, 0⟩) = false
      · have HON := hide (OnI.skip (unhide HNI) hc ho)
        have hc' : ¬ ((row.getD k ⟨0, 0, 0⟩).ph = 1 ∨ (row.getD k ⟨0, 0, 0⟩).ph = 2 ∨ (row.getD k ⟨0, 0, 0⟩).ph = 3) := fun q => by rw [(clm_iff _).2 q] at hc; cases hc
        generalize row.getD k ⟨0, 0, 0⟩ = l at *
        obtain ⟨la, lb, lc'⟩ := l
        dsimp only at *
        have t1 : (la == 1) = false := by simp; omega
        have t2 : (la == 2) = false := by simp; omega
        have t3 : (la == 3) = false := by simp; omega
        have u1 : (la != 1) = true := by simp; omega
        have u2' : (la != 2) = true := by simp; omega
        have u3' : (la != 3) = true := by simp; omega
        have s1 : (la = 1) = False := by simp; omega
        have s2 : (la = 2) = False := by simp; omega
        have s3 : (la = 3) = False := by simp; omega
        clear hc hc' ho hkp hwr hrg hgl HIX hv2
        go_wp2_with (first
          | (go_at_call 32; refine (HV _ _ _ _ _).mono ?_; rintro e w2 ⟨rfl, hk2⟩; have hk3 := ((unhide HKP).alloc _).step hk2; have HK3 := hide hk3; have hbx := (Blk.new wr _ _).kept hk2 (by simp); obtain ⟨x0, x1, x2⟩ := box3 hbx; have b0b : w2.cell? ⟨b, 0, none⟩ = some (.slice (some ⟨g, 0, none⟩) n cap) := (Wd.kept (unhide HW) hk3).blk.cell 0; clear hbx hk2 hk3))
        exact ⟨⟨k + 1, best, ties, owners, by omega, by simp, rfl, rfl, rfl, unhide HON, unhide HK3⟩, by simp [intOf]; omega⟩
      · have hc' : clm (row.getD k ⟨0, 0, 0⟩) = true := by simpa using hc
        clear hc
        have hkey : kyO (row.getD k ⟨0, 0, 0⟩) = if (row.getD k ⟨0, 0, 0⟩).ph = 1 then 2 * (row.getD k ⟨0, 0, 0⟩).ep + 1 else 2 * (row.getD k ⟨0, 0, 0⟩).ep := rfl
        by_cases hneg : best < 0
        · have HON := hide (OnI.new (unhide HNI) hkl hc' ho (Or.inl hneg))
          have hcl := (clm_iff _).1 hc'
          have hon : 0 ≤ owners ∧ owners ≤ 1 := by have := ho.2.2.2.2; split at this <;> omega
          generalize row.getD k ⟨0, 0, 0⟩ = l at *
          obtain ⟨la, lb, lc'⟩ := l
          dsimp only at *
          have hb0 : (best < 0) = True := by simp; omega
          have hw1 : IntKind.i64.wrap (2 * lb) = 2 * lb := by rw [IntKind.wrap_i64]; omega
          have hw2 : IntKind.i64.wrap (2 * lb + 1) = 2 * lb + 1 := by rw [IntKind.wrap_i64]; omega
          have hw3 : IntKind.i64.wrap (owners + 1) = owners + 1 := by rw [IntKind.wrap_i64]; omega
          clear hc' ho hkp hwr hrg hgl HIX hkey
          by_cases h1 : la = 1
          · subst h1
            rw [if_pos rfl] at HON
            go_wp2_with (first
              | (go_at_call 32; refine (HV _ _ _ _ _).mono ?_; rintro e w2 ⟨rfl, hk2⟩; have hk3 := ((unhide HKP).alloc _).step hk2; have HK3 := hide hk3; have hbx := (Blk.new wr _ _).kept hk2 (by simp); obtain ⟨x0, x1, x2⟩ := box3 hbx; have b0b : w2.cell? ⟨b, 0, none⟩ = some (.slice (some ⟨g, 0, none⟩) n cap) := (Wd.kept (unhide HW) hk3).blk.cell 0; clear hbx hk2 hk3))
            exact ⟨⟨k + 1, (k : Int), 0, owners + 1, by omega, by simp, rfl, rfl, rfl, unhide HON, unhide HK3⟩, by simp [intOf]; omega⟩
          · rw [if_neg h1] at HON
            have t1 : (la == 1) = false := by simp; omega
            have u1 : (la != 1) = true := by simp; omega
            rcases hcl with h | rfl | rfl
            · exact absurd h h1
            all_goals
              go_wp2_with (first
                | (go_at_call 32; refine (HV _ _ _ _ _).mono ?_; rintro e w2 ⟨rfl, hk2⟩; have hk3 := ((unhide HKP).alloc _).step hk2; have HK3 := hide hk3; have hbx := (Blk.new wr _ _).kept hk2 (by simp); obtain ⟨x0, x1, x2⟩ := box3 hbx; have b0b : w2.cell? ⟨b, 0, none⟩ = some (.slice (some ⟨g, 0, none⟩) n cap) := (Wd.kept (unhide HW) hk3).blk.cell 0; clear hbx hk2 hk3))
              exact ⟨⟨k + 1, (k : Int), 0, owners, by omega, by simp, rfl, rfl, rfl, unhide HON, unhide HK3⟩, by simp [intOf]; omega⟩
        · obtain ⟨j, rfl⟩ : ∃ j : Nat, best = (j : Int) := ⟨best.toNat, by omega⟩
          have hjk : j < k := by
            rcases Nat.lt_or_ge h k with q | q
            · have := (ho.2.1 q).1; omega
            · rcases ho.1 q with z | ⟨i, z1, z2, z3⟩
              · omega
              · omega
          have hjl : j < row.length := by omega
          have hjn : (j : Int) < (n : Int) := by omega
          obtain ⟨g2, cap2, hv2', -, hgw, hrq⟩ := own_at (ce := lc) (fun _ => rfl) (unhide HW).ro (led_lt hjl)
          rw [unhide HN] at hv2'
          cases hv2'
          have hqe := (unhide HI).v2 (j : Int) (by omega) (by omega)
          rw [fr_nat] at hqe
          have O1 := hide (fun q => OnI.new (unhide HNI) hkl hc' ho (Or.inr ⟨j, rfl, q⟩))
          have O2 := hide (fun q => OnI.tie (unhide HNI) hkl hc' ho (j := j) rfl q)
          have O3 := hide (fun q => OnI.less (unhide HNI) hkl ho (j := j) rfl q)
          have hcl := (clm_iff _).1 hc'
          have hon : 0 ≤ owners ∧ owners ≤ 1 := by have := ho.2.2.2.2; split at this <;> omega
          have htn : 0 ≤ ties ∧ ties ≤ k := ⟨ho.2.2.1, ho.2.2.2.1⟩
          have HRQ := hide hrq
          generalize row.getD k ⟨0, 0, 0⟩ = l at *
          generalize row.getD j ⟨0, 0, 0⟩ = q at *
          obtain ⟨la, lb, lc'⟩ := l
          obtain ⟨qa, qb, qc⟩ := q
          dsimp only at *
          have hb0 : ((j : Int) < 0) = False := by simp
          have hw1 : IntKind.i64.wrap (2 * lb) = 2 * lb := by rw [IntKind.wrap_i64]; omega
          have hw2 : IntKind.i64.wrap (2 * lb + 1) = 2 * lb + 1 := by rw [IntKind.wrap_i64]; omega
          have hw3 : IntKind.i64.wrap (owners + 1) = owners + 1 := by rw [IntKind.wrap_i64]; omega
          have hw4 : IntKind.i64.wrap (ties + 1) = ties + 1 := by rw [IntKind.wrap_i64]; omega
          clear hc' ho hkp hwr hrg hgl HIX hneg hrq
          generalize hyq : kyO ⟨qa, qb, qc⟩ = Q at *
          by_cases h1 : la = 1
          · subst h1
            have hky : kyO ⟨1, lb, lc'⟩ = 2 * lb + 1 := rfl
            rw [hky] at O1 O2 O3
            simp only [if_true] at O1 O2 O3
            go_wp2_with (first
              | (go_at_call 32; refine (HV _ _ _ _ _).mono ?_; rintro e w2 ⟨rfl, hk2⟩; have hk3 := ((unhide HKP).alloc _).step hk2; have HK3 := hide hk3; have hbx := (Blk.new wr _ _).kept hk2 (by simp); obtain ⟨x0, x1, x2⟩ := box3 hbx; have b0b : w2.cell? ⟨b, 0, none⟩ = some (.slice (some ⟨g, 0, none⟩) n cap) := (Wd.kept (unhide HW) hk3).blk.cell 0; obtain ⟨y0, y1, y2⟩ := row_cells (range_kept (unhide HRQ) hk3 hgw (by simp)); clear hbx hk2 hk3)
              | (go_at_call 51; refine (HK _ _ _ _ hqe).mono ?_; rintro e w4 ⟨rfl, hk4⟩; (first | (have hk5 := (unhide HK5).step hk4) | (have hk5 := (unhide HK3).step hk4)); have HK5 := hide hk5; have b0c : w4.cell? ⟨b, 0, none⟩ = some (.slice (some ⟨g, 0, none⟩) n cap) := (Wd.kept (unhide HW) hk5).blk.cell 0; obtain ⟨y0, y1, y2⟩ := row_cells (range_kept (unhide HRQ) hk5 hgw (by simp)); clear hk4 hk5))
            · rename_i q
              exact ⟨⟨k + 1, (k : Int), 0, owners + 1, by omega, by simp, rfl, rfl, rfl, unhide O1 q, unhide HK5⟩, by simp [intOf]; omega⟩
            · rename_i q
              exact ⟨⟨k + 1, (j : Int), ties + 1, owners + 1, by omega, by simp, rfl, rfl, rfl, unhide O2 (by simpa using q), unhide HK5⟩, by simp [intOf]; omega⟩
            · rename_i q
              exact ⟨⟨k + 1, (j : Int), ties, owners + 1, by omega, by simp, rfl, rfl, rfl, unhide O3 (by have q' : ¬ 2 * lb + 1 = Q := (by simpa using q); omega), unhide HK5⟩, by simp [intOf]; omega⟩
          · have hky : kyO ⟨la, lb, lc'⟩ = 2 * lb := by unfold kyO; rw [if_neg h1]
            rw [hky] at O1 O2 O3
            simp only [if_neg h1] at O1 O2 O3
            have t1 : (la == 1) = false := by simp; omega
            have u1 : (la != 1) = true := by simp; omega
            rcases hcl with h | rfl | rfl
            · exact absurd h h1
            all_goals
              go_wp2_with (first
                | (go_at_call 32; refine (HV _ _ _ _ _).mono ?_; rintro e w2 ⟨rfl, hk2⟩; have hk3 := ((unhide HKP).alloc _).step hk2; have HK3 := hide hk3; have hbx := (Blk.new wr _ _).kept hk2 (by simp); obtain ⟨x0, x1, x2⟩ := box3 hbx; have b0b : w2.cell? ⟨b, 0, none⟩ = some (.slice (some ⟨g, 0, none⟩) n cap) := (Wd.kept (unhide HW) hk3).blk.cell 0; obtain ⟨y0, y1, y2⟩ := row_cells (range_kept (unhide HRQ) hk3 hgw (by simp)); clear hbx hk2 hk3)
                | (go_at_call 51; refine (HK _ _ _ _ hqe).mono ?_; rintro e w4 ⟨rfl, hk4⟩; (first | (have hk5 := (unhide HK5).step hk4) | (have hk5 := (unhide HK3).step hk4)); have HK5 := hide hk5; have b0c : w4.cell? ⟨b, 0, none⟩ = some (.slice (some ⟨g, 0, none⟩) n cap) := (Wd.kept (unhide HW) hk5).blk.cell 0; obtain ⟨y0, y1, y2⟩ := row_cells (range_kept (unhide HRQ) hk5 hgw (by simp)); clear hk4 hk5))
              · rename_i q
                exact ⟨⟨k + 1, (k : Int), 0, owners, by omega, by simp, rfl, rfl, rfl, unhide O1 q, unhide HK5⟩, by simp [intOf]; omega⟩
              · rename_i q
                exact ⟨⟨k + 1, (j : Int), ties + 1, owners, by omega, by simp, rfl, rfl, rfl, unhide O2 (by simpa using q), unhide HK5⟩, by simp [intOf]; omega⟩
              · rename_i q
                exact ⟨⟨k + 1, (j : Int), ties, owners, by omega, by simp, rfl, rfl, rfl, unhide O3 (by have q' : ¬ 2 * lb = Q := (by simpa using q); omega), unhide HK5⟩, by simp [intOf]; omega⟩
    · obtain rfl : k = n := by omega
      obtain ⟨-, o2, o3, o4, o5⟩ := ho
      obtain ⟨rfl, rfl⟩ := o2 (by omega)
      have HKP := hide hkp
      clear hkp hwr
      have hhl : h < row.length := by rw [unhide HN]; omega
      have hrw := (unhide HW).kept (unhide HKP)
      obtain ⟨g, cap', hv', -, hgl, hrg⟩ := own_at (ce := lc) (fun _ => rfl) hrw.ro (led_lt hhl)
      rw [unhide HN] at hv'
      cases hv'
      obtain ⟨d0, d1, d2⟩ := row_cells hrg
      have hrwo : RowOf 3 lc wr (.slice (some ⟨g, 0, none⟩) k cap) row := by
        have := own_row (ce := lc) (fun _ => rfl) hrw.ro (by rw [unhide HN]; omega)
        exact this
      have HRO := hide hrwo
      have hb0 : ((h : Int) < 0) = False := by simp
      have hhk : (h : Int) < (k : Int) := by omega
      clear hrg hrw hrwo o3 o4 o2
      by_cases h1 : (row.getD h ⟨0, 0, 0⟩).ph = 1
      · rw [if_pos ⟨by omega, h1⟩] at o5
        subst o5
        rw [h1] at d0
        go_wp2_with (first
          | (go_at_call 14; refine (HHO _ (unhide HRO)).mono ?_; rintro e w2 ⟨rfl, hk2⟩; have HK2 := hide ((unhide HKP).step hk2); have hb2 : w2.cell? ⟨b, 0, none⟩ = some (.slice (some ⟨g, 0, none⟩) k cap) := (Wd.kept (unhide HW) (unhide HK2)).blk.cell 0; have HR2 := hide ((unhide HRO).kept hk2); clear hk2)
          | (go_at_call 16; refine (HSO _ (unhide HR2)).mono ?_; rintro e w3 ⟨rfl, hk3⟩; have HK3 := hide ((unhide HK2).step hk3); clear hk3))
        go_ret
        exact ⟨rfl, unhide HK3⟩
      · rw [if_neg (fun q => h1 q.2)] at o5
        subst o5
        go_wp2_with (first
          | (go_at_call 14; refine (HHO _ (unhide HRO)).mono ?_; rintro e w2 ⟨rfl, hk2⟩; have HK2 := hide ((unhide HKP).step hk2); have hb2 : w2.cell? ⟨b, 0, none⟩ = some (.slice (some ⟨g, 0, none⟩) k cap) := (Wd.kept (unhide HW) (unhide HK2)).blk.cell 0; have HR2 := hide ((unhide HRO).kept hk2); clear hk2)
          | (go_at_call 16; refine (HSO _ (unhide HR2)).mono ?_; rintro e w3 ⟨rfl, hk3⟩; have HK3 := hide ((unhide HK2).step hk3); clear hk3))
        go_ret
        exact ⟨rfl, unhide HK3⟩
end Go.Proofs.Ytnpabeodakncfaa
