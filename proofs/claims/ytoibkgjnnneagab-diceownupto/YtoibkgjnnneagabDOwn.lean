/- DiceOwn: the walk. -/
import Derived.Test.YtoibkgjnnneagabDTwinF
namespace Go.Proofs.Ytoibkgjnnneagab
open Go.RowKit

set_option maxRecDepth 100000 in
set_option maxHeartbeats 8000000 in
theorem own_walk (w : World) (s : Nat) (num : Int) (v : Value) (l : List Nat) (hs : s < 18446744073709551616) (hv : SeesU w v l) (hl : l.length ≤ 2097152) (hlt : ∀ j, j < l.length → l.getD j 0 < 18446744073709551616) :
    Calls Try.prog 5 #[.int .u64 s, .int .i64 num, v] w fun e w' => e = .returned (.bool true) ∧ Kept [] w w' := by
  have HV := hide hv
  have HLT := hide hlt
  obtain ⟨vp, vc, rfl, -, -, -⟩ := hv
  clear hlt
  generalize hLL : l.length = LL at *
  have HLL := hide hLL
  clear hLL
  have HA := hide (awake_any w)
  have HN := fun w => hide (new_any w s hs)
  have HN2 := HN
  have HR := fun w => hide (round_any w num 100 (by omega) (by omega))
  obtain ⟨r, hr, hrl⟩ : ∃ r : Nat, num % ((100 : Nat) : Int) = (r : Int) ∧ r < 100 := by
    have h1 := Int.emod_nonneg num (b := 100) (by omega)
    have h2 := Int.emod_lt_of_pos num (b := 100) (by omega)
    exact ⟨(num % 100).toNat, by show num % 100 = _; omega, by omega⟩
  rw [hr] at HR
  clear hr
  obtain ⟨n, hnr⟩ : ∃ n : Nat, 1 + r = n := ⟨_, rfl⟩
  have er : 1 + (r : Int) = (n : Int) := by omega
  have n1 : 1 ≤ n := by omega
  have n2 : n ≤ 100 := by omega
  clear hnr hrl
  have HQ : Hid (∀ t w1 b1, Dc w1 b1 t → Calls Try.prog 9 #[.pointer (some ⟨b1, 0, none⟩), .int .i64 n] w1 fun e w' => ∃ g, e = .returned (.slice (some ⟨g, 0, none⟩) n n) ∧ Blk w' g (ints (stp n t (n - 1)).1).toArray 3 ∧ w1.heap.size ≤ g ∧ Dc w' b1 (on t (stp n t (n - 1)).2) ∧ Kept [b1] w1 w') :=
    fun t w1 b1 h => shuffle_any h n (by omega) (by omega)
  obtain ⟨A, hA⟩ : ∃ A, (stp n s (n - 1)).1 = A := ⟨_, rfl⟩
  obtain ⟨s1, hs1⟩ : ∃ s1, on s (stp n s (n - 1)).2 = s1 := ⟨_, rfl⟩
  obtain ⟨B, hB⟩ : ∃ B, (stp n s1 (n - 1)).1 = B := ⟨_, rfl⟩
  obtain ⟨s2, hs2⟩ : ∃ s2, on s1 (stp n s1 (n - 1)).2 = s2 := ⟨_, rfl⟩
  have QA := fun w1 b1 h => hide (unhide HQ s w1 b1 h)
  have QB := fun w1 b1 h => hide (unhide HQ s1 w1 b1 h)
  rw [hA, hs1] at QA
  rw [hB, hs2] at QB
  have lA : Hid (A.length = n) := by unfold Hid; rw [← hA]; exact stp_length n s (n - 1)
  have lB : Hid (B.length = n) := by unfold Hid; rw [← hB]; exact stp_length n s1 (n - 1)
  clear hA hs1 hB hs2 HQ
  obtain ⟨i0, hi, hz0, hz1, hz2⟩ := info_parts info3p
  have HI := hide (⟨hi, hz0, hz1, hz2⟩ : _ ∧ _ ∧ _ ∧ _)
  clear hi hz0 hz1 hz2
  have QC := QA
  go_enter Try.func5, Try.ntmps5
  go_wp2_with (first
    | (go_at_call 6; refine (unhide HA).mono ?_; rintro e w1 ⟨rfl, hkp⟩; clear HA; replace hkp := hide hkp)
    | (go_at_call 7; refine (unhide (HR _)).mono ?_; rintro e w2 ⟨rfl, hq⟩; have hq' := hq.symm; subst hq'; clear HR)
    | (go_at_call 8; refine (unhide (HN _)).mono ?_; rintro e w2 ⟨bd, rfl, hd, hb, hk⟩; clear HN; have g1 : Hid (w.heap.size ≤ bd) := Nat.le_trans (unhide hkp).size hb; replace hkp := hide ((unhide hkp).more hk); replace hd := hide hd; clear hb hk)
    | (go_at_call 8; refine (unhide (HN2 _)).mono ?_; rintro e w3 ⟨be, rfl, he, hb, hk⟩; clear HN2; have g2 : Hid (w.heap.size ≤ be) := Nat.le_trans (unhide hkp).size hb; have nde : Hid (bd ≠ be) := (by have := (unhide hd).blk.lt; unfold Hid; omega); replace hkp := hide ((unhide hkp).more hk); replace hd := hide ((unhide hd).keep hk (by simp)); replace he := hide he; clear hb hk)
    | (go_at_call 9; refine (unhide (QA _ _ (unhide hd))).mono ?_; rintro e w4 ⟨ga, rfl, ha, hb, hd2, hk⟩; clear QA; have g3 : Hid (w.heap.size ≤ ga) := Nat.le_trans (unhide hkp).size hb; have nda : Hid (bd ≠ ga ∧ be ≠ ga) := (by have h1 := (unhide hd).blk.lt; have h2 := (unhide he).blk.lt; unfold Hid; omega); replace hkp := hide ((unhide hkp).push hk (unhide g1)); replace he := hide ((unhide he).keep hk (by have := unhide nde; simp; omega)); have hd1 := hide hd2; replace ha := hide ha; clear hb hk hd2 hd)
    | (at_builtin; refine wpList_twinI (w0 := w4) rfl _ _ 27 rfl i0 Try.underlying27 (unhide HI).1 (unhide HI).2.1 (unhide HI).2.2.1 (unhide HI).2.2.2 rfl _ A rfl (Kept.refl _ _) (seesI_of_blk (unhide ha) (unhide lA) (by omega)) n (unhide lA) (by omega) ?_))
  intro af cf w5 ho5 hk
  obtain ⟨gf, cf', hvf, hf1, hf2, -, -⟩ := rowI_of_own ho5 (by omega)
  have eaf : af = some ⟨gf, 0, none⟩ := by cases hvf; rfl
  subst eaf
  have g4 : Hid (w.heap.size ≤ gf) := Nat.le_trans (unhide hkp).size hf1
  have nf : Hid (bd ≠ gf ∧ be ≠ gf ∧ ga ≠ gf) := by have h1 := (unhide hd1).blk.lt; have h2 := (unhide he).blk.lt; have h3 := (unhide ha).lt; unfold Hid; omega
  replace hkp := hide ((unhide hkp).more hk)
  replace hd1 := hide ((unhide hd1).keep hk (by simp))
  replace he := hide ((unhide he).keep hk (by simp))
  replace ha := hide ((unhide ha).kept hk (by simp))
  have hf := hide (own_lower ho5 (Nat.zero_le _))
  clear hvf hf1 hf2 ho5 hk cf'
  go_wp2_with (first
    | (go_at_call 9; refine (unhide (QB _ _ (unhide hd1))).mono ?_; rintro e w6 ⟨gb, rfl, hb, hbb, hd2, hk⟩; have g5 : Hid (w.heap.size ≤ gb) := Nat.le_trans (unhide hkp).size hbb; have nb : Hid (bd ≠ gb ∧ be ≠ gb ∧ ga ≠ gb ∧ gf ≠ gb) := (by have h1 := (unhide hd1).blk.lt; have h2 := (unhide he).blk.lt; have h3 := (unhide ha).lt; have h4 := ((unhide hf).lt gf rfl).2; unfold Hid; omega); replace hkp := hide ((unhide hkp).push hk (unhide g1)); replace he := hide ((unhide he).keep hk (by have := unhide nde; simp; omega)); replace ha := hide ((unhide ha).kept hk (by have := unhide nda; simp; omega)); replace hf := hide (own_kept (unhide hf) hk (by intro k e; cases e; have := unhide nf; simp; omega)); replace hd2 := hide hd2; replace hb := hide hb; clear hbb hk hd1)
    | (at_builtin; refine wpList_twinI (w0 := w6) rfl _ _ 27 rfl i0 Try.underlying27 (unhide HI).1 (unhide HI).2.1 (unhide HI).2.2.1 (unhide HI).2.2.2 rfl _ B rfl (Kept.refl _ _) (seesI_of_blk (unhide hb) (unhide lB) (by omega)) n (unhide lB) (by omega) ?_))
  intro aw cw w7 ho7 hk
  obtain ⟨gw, cw', hvw, hw1, hw2, -, -⟩ := rowI_of_own ho7 (by omega)
  have eaw : aw = some ⟨gw, 0, none⟩ := by cases hvw; rfl
  subst eaw
  have g6 : Hid (w.heap.size ≤ gw) := Nat.le_trans (unhide hkp).size hw1
  have nw : Hid (bd ≠ gw ∧ be ≠ gw ∧ ga ≠ gw ∧ gf ≠ gw ∧ gb ≠ gw) := by have h1 := (unhide hd2).blk.lt; have h2 := (unhide he).blk.lt; have h3 := (unhide ha).lt; have h4 := ((unhide hf).lt gf rfl).2; have h5 := (unhide hb).lt; unfold Hid; omega
  replace hkp := hide ((unhide hkp).more hk)
  replace hd2 := hide ((unhide hd2).keep hk (by simp))
  replace he := hide ((unhide he).keep hk (by simp))
  replace ha := hide ((unhide ha).kept hk (by simp))
  replace hf := hide (own_kept (unhide hf) hk (by simp))
  replace hb := hide ((unhide hb).kept hk (by simp))
  have hw := hide (own_lower ho7 (Nat.zero_le _))
  clear hvw hw1 hw2 ho7 hk cw'
  have HSM := fun w1 v1 v2 s1 s2 => hide (same_any (w := w1) (v1 := v1) (v2 := v2) (l := A) s1 s2)
  go_wp2_with (first
    | (go_at_call 9; refine (unhide (QC _ _ (unhide he))).mono ?_; rintro e w8 ⟨gc, rfl, hc, hcc, he2, hk⟩; clear QC; have g7 : Hid (w.heap.size ≤ gc) := Nat.le_trans (unhide hkp).size hcc; have nc : Hid (bd ≠ gc ∧ be ≠ gc ∧ ga ≠ gc ∧ gf ≠ gc ∧ gb ≠ gc ∧ gw ≠ gc) := (by have h1 := (unhide hd2).blk.lt; have h2 := (unhide he).blk.lt; have h3 := (unhide ha).lt; have h4 := ((unhide hf).lt gf rfl).2; have h5 := (unhide hb).lt; have h6 := ((unhide hw).lt gw rfl).2; unfold Hid; omega); replace hkp := hide ((unhide hkp).push hk (unhide g2)); have hLy : Hid (Lays w8 bd be ga gb gc gf gw s2 s1 A B A A B cf cw n) := (by refine ⟨(unhide hd2).keep hk ?_, he2, (unhide ha).kept hk ?_, (unhide hb).kept hk ?_, hc, own_kept (unhide hf) hk ?_, own_kept (unhide hw) hk ?_⟩; (have := unhide nde; simp; omega); (have := unhide nda; simp; omega); (have := unhide nb; simp; omega); (intro k e; cases e; have := unhide nf; simp; omega); (intro k e; cases e; have := unhide nw; simp; omega)); clear hcc hk hd2 he ha hf hb hw hc he2)
    | (go_at_call 17; refine (unhide (HSM _ _ _ (seesI_of_blk (unhide hLy).a (unhide lA) (by omega)) (by have h := (unhide hLy).f; have e := unhide lA; have h' := h; rw [← e] at h' ; rw [show n = A.length from e.symm]; exact SeesI.of_own h'))).mono ?_; rintro e w9 ⟨rfl, hm⟩; have hk : Kept [] _ w9 := (by obtain ⟨m, rfl⟩ := hm; exact drewN_kept _ _); have hLz := hide ((unhide hLy).keep hk (by simp) (by simp) (by simp) (by simp) (by simp) (by simp) (by simp)); replace hkp := hide ((unhide hkp).more hk); clear hm hk hLy)
    | (go_at_call 17; refine (unhide (HSM _ _ _ (seesI_of_blk (unhide hLz).c (unhide lA) (by omega)) (by have h := (unhide hLz).f; have e := unhide lA; have h' := h; rw [← e] at h' ; rw [show n = A.length from e.symm]; exact SeesI.of_own h'))).mono ?_; rintro e w10 ⟨rfl, hm⟩; have hk : Kept [] _ w10 := (by obtain ⟨m, rfl⟩ := hm; exact drewN_kept _ _); have hLa := hide ((unhide hLz).keep hk (by simp) (by simp) (by simp) (by simp) (by simp) (by simp) (by simp)); replace hkp := hide ((unhide hkp).more hk); clear hm hk hLz HSM))
  have hap : Hid (Apart bd be ga gb gc gf gw) := by
    have q1 := unhide nde; have q2 := unhide nda; have q3 := unhide nf; have q4 := unhide nb; have q5 := unhide nw; have q6 := unhide nc
    exact ⟨q1, ⟨q2.1, q4.1, q6.1, q3.1, q5.1⟩, ⟨q2.2, q4.2.1, q6.2.1, q3.2.1, q5.2.1⟩, ⟨q4.2.2.1, q6.2.2.1, q3.2.2, q5.2.2.1⟩, ⟨q6.2.2.2.2.1, q4.2.2.2.symm, q5.2.2.2.2⟩, ⟨q6.2.2.2.1.symm, q6.2.2.2.2.2.symm⟩, q5.2.2.2.1⟩
  have nde0 := nde
  clear nde nda nf nb nw nc
  go_loopw [14] (fun s14 wr => ∃ i : Nat, i ≤ n ∧ s14 = .int .i64 i ∧ (∃ X Y Z, Lays wr bd be ga gb gc gf gw s2 s1 X Y Z A B cf cw n ∧ Laid 1000 X n i ∧ Laid 2000 Y n i ∧ Laid 3000 Z n i) ∧ Kept [] w wr) (fun s14 _ => n - (intOf s14).toNat)
  case atStart => exact ⟨0, by omega, rfl, ⟨A, B, A, unhide hLa, ⟨unhide lA, fun k hk => by omega⟩, ⟨unhide lB, fun k hk => by omega⟩, ⟨unhide lA, fun k hk => by omega⟩⟩, unhide hkp⟩
  case round =>
    obtain ⟨i, hi, rfl, ⟨X, Y, Z, hL, hx, hy, hz⟩, hkp⟩ := hrel
    clear hLa
    by_cases hlt : i < n
    · have c1 := blk_at hL.a (j := i) (by rw [hx.1]; exact hlt)
      have c2 := blk_at hL.b (j := i) (by rw [hy.1]; exact hlt)
      have c3 := blk_at hL.c (j := i) (by rw [hz.1]; exact hlt)
      have f1 := hL.a.frozen i
      have f2 := hL.b.frozen i
      have f3 := hL.c.frozen i
      have N1 := hide (hL.set3 (unhide hap) i (1000 + (i : Int)) (2000 + (i : Int)) (3000 + (i : Int)))
      have N2 : Hid (Kept [] w (((wr.setCell ⟨ga, i, none⟩ (.int .i64 (1000 + (i : Int)))).setCell ⟨gb, i, none⟩ (.int .i64 (2000 + (i : Int)))).setCell ⟨gc, i, none⟩ (.int .i64 (3000 + (i : Int))))) :=
        ((hkp.setCell (p := ⟨ga, i, none⟩) (Or.inr (unhide g3)) _).setCell (p := ⟨gb, i, none⟩) (Or.inr (unhide g5)) _).setCell (p := ⟨gc, i, none⟩) (Or.inr (unhide g7)) _
      have hx' := hide (hx.set hlt)
      have hy' := hide (hy.set hlt)
      have hz' := hide (hz.set hlt)
      generalize X.getD i 0 = x0 at c1
      generalize Y.getD i 0 = y0 at c2
      generalize Z.getD i 0 = z0 at c3
      have ab : ga ≠ gb := (unhide hap).a.1
      have ac : ga ≠ gc := (unhide hap).a.2.1
      have bc : gb ≠ gc := (unhide hap).b.1
      clear hL hx hy hz hkp QB
      go_wp2_with fail
      exact ⟨⟨i + 1, by omega, by simp, ⟨_, _, _, unhide N1, unhide hx', unhide hy', unhide hz'⟩, unhide N2⟩, by simp [intOf]; omega⟩
    · obtain rfl : i = n := by omega
      replace hkp := hide hkp
      replace hL := hide hL
      replace hx := hide hx
      replace hy := hide hy
      replace hz := hide hz
      rename World => W0
      have hW0 : Hid (ga < W0.heap.size ∧ gb < W0.heap.size ∧ gc < W0.heap.size) := ⟨(unhide hL).a.lt, (unhide hL).b.lt, (unhide hL).c.lt⟩
      have gx0 : Hid (Gr W0 W0 ga i 0 1000 4000 X (.slice (some ⟨ga, 0, none⟩) i i)) :=
        ⟨by rw [show app 4000 0 = [] from rfl, List.append_nil]; exact ownI_of_blk (unhide hL).a (Nat.zero_le _) (unhide hx).1 (by omega), fun b e => Or.inl (by cases e; rfl), fun k hk => by rw [blk_at (unhide hL).a (by rw [(unhide hx).1]; exact hk), (unhide hx).2 k hk], (unhide hL).a.lt, Nat.le_refl _⟩
      have gy0 : Hid (Gr W0 W0 gb i 0 2000 5000 Y (.slice (some ⟨gb, 0, none⟩) i i)) :=
        ⟨by rw [show app 5000 0 = [] from rfl, List.append_nil]; exact ownI_of_blk (unhide hL).b (Nat.zero_le _) (unhide hy).1 (by omega), fun b e => Or.inl (by cases e; rfl), fun k hk => by rw [blk_at (unhide hL).b (by rw [(unhide hy).1]; exact hk), (unhide hy).2 k hk], (unhide hL).b.lt, Nat.le_refl _⟩
      have gz0 : Hid (Gr W0 W0 gc i 0 3000 6000 Z (.slice (some ⟨gc, 0, none⟩) i i)) :=
        ⟨by rw [show app 6000 0 = [] from rfl, List.append_nil]; exact ownI_of_blk (unhide hL).c (Nat.zero_le _) (unhide hz).1 (by omega), fun b e => Or.inl (by cases e; rfl), fun k hk => by rw [blk_at (unhide hL).c (by rw [(unhide hz).1]; exact hk), (unhide hz).2 k hk], (unhide hL).c.lt, Nat.le_refl _⟩
      go_wp2_with fail
      go_loopw [15, 16, 17, 18] (fun vx vy vz s18 wx => ∃ j : Nat, j ≤ 60 ∧ s18 = .int .i64 j ∧ Gr W0 wx ga i j 1000 4000 X vx ∧ Gr W0 wx gb i j 2000 5000 Y vy ∧ Gr W0 wx gc i j 3000 6000 Z vz ∧ (∀ b, vx.ownBlock = some b → vy.ownBlock ≠ some b) ∧ (∀ b, vx.ownBlock = some b → vz.ownBlock ≠ some b) ∧ (∀ b, vy.ownBlock = some b → vz.ownBlock ≠ some b) ∧ Kept [ga, gb, gc] W0 wx) (fun _ _ _ s18 _ => 60 - (intOf s18).toNat)
      case atStart =>
        refine ⟨0, by omega, rfl, unhide gx0, unhide gy0, unhide gz0, ?_, ?_, ?_, Kept.refl _ _⟩
        · intro b h1 h2; cases h1; cases h2; exact (unhide hap).a.1 rfl
        · intro b h1 h2; cases h1; cases h2; exact (unhide hap).a.2.1 rfl
        · intro b h1 h2; cases h1; cases h2; exact (unhide hap).b.1 rfl
      case round =>
        obtain ⟨j, hj, rfl, rx, ry, rz, dxy, dxz, dyz, hkc⟩ := hrel
        clear gx0 gy0 gz0
        obtain ⟨ax, cx, hvx⟩ := own_len rx.own
        obtain ⟨ay, cy, hvy⟩ := own_len ry.own
        obtain ⟨az, cz, hvz⟩ := own_len rz.own
        subst hvx; subst hvy; subst hvz
        have Gx := hide rx
        have Gy := hide ry
        have Gz := hide rz
        have Dxy := hide dxy
        have Dxz := hide dxz
        have Dyz := hide dyz
        have KC := hide hkc
        clear rx ry rz dxy dxz dyz hkc
        by_cases hlt : j < 60
        · go_wp2_with (first
            | (at_builtin; refine wpList_append_keep _ rfl _ _ 27 rfl 0 i0 _ Try.underlying27 (unhide HI).1 (unhide HI).2.1 (unhide HI).2.2.1 (unhide HI).2.2.2 rfl _ _ _ rfl ((unhide Gx).own.alloc _) ⟨_, 0, none⟩ (.int .i64 (4000 + (j : Int))) rfl rfl (cell_one_new _ _ _) (by omega) (Nat.zero_le _) ?_))
          intro v' W' o1 o2 o3 o4
          obtain ⟨ax', cx', hv'⟩ := own_len o1
          subst hv'
          obtain ⟨gr, gk⟩ := (unhide Gx).grow o1 o2 o3 o4
          have Kc : Hid (Kept [ga, gb, gc] W0 W') := (unhide KC).trans gk (fun b hb => by have hb2 := (unhide Gx).blk b (by simpa using hb); rcases hb2 with h | h; left; rw [h]; simp; right; exact h)
          have Gy2 := hide ((unhide Gy).other gk (unhide Dxy) (fun b hb => by rcases (unhide Gx).blk b hb with h | h; rw [h]; exact (unhide hap).a.1; have := (unhide hW0).2.1; omega))
          have Gz2 := hide ((unhide Gz).other gk (unhide Dxz) (fun b hb => by rcases (unhide Gx).blk b hb with h | h; rw [h]; exact (unhide hap).a.2.1; have := (unhide hW0).2.2; omega))
          have Dxy2 := hide (new_apart o3 (unhide Dxy) (fun b hb => ((unhide Gy).own.lt b hb).2))
          have Dxz2 := hide (new_apart o3 (unhide Dxz) (fun b hb => ((unhide Gz).own.lt b hb).2))
          have Gx2 := hide gr
          clear gr gk o1 o2 o3 o4 Gx Gy Gz KC Dxy Dxz
          go_wp2_with (first
            | (at_builtin; refine wpList_append_keep _ rfl _ _ 27 rfl 0 i0 _ Try.underlying27 (unhide HI).1 (unhide HI).2.1 (unhide HI).2.2.1 (unhide HI).2.2.2 rfl _ _ _ rfl ((unhide Gy2).own.alloc _) ⟨_, 0, none⟩ (.int .i64 (5000 + (j : Int))) rfl rfl (cell_one_new _ _ _) (by omega) (Nat.zero_le _) ?_))
          intro v' W' o1 o2 o3 o4
          obtain ⟨ay', cy', hv'⟩ := own_len o1
          subst hv'
          obtain ⟨gr, gk⟩ := (unhide Gy2).grow o1 o2 o3 o4
          have Kd : Hid (Kept [ga, gb, gc] W0 W') := (unhide Kc).trans gk (fun b hb => by have hb2 := (unhide Gy2).blk b (by simpa using hb); rcases hb2 with h | h; left; rw [h]; simp; right; exact h)
          have Gx3 := hide ((unhide Gx2).other gk (swap_apart (unhide Dxy2)) (fun b hb => by rcases (unhide Gy2).blk b hb with h | h; rw [h]; exact (unhide hap).a.1.symm; have := (unhide hW0).1; omega))
          have Gz3 := hide ((unhide Gz2).other gk (unhide Dyz) (fun b hb => by rcases (unhide Gy2).blk b hb with h | h; rw [h]; exact (unhide hap).b.1; have := (unhide hW0).2.2; omega))
          have Dxy3 := hide (swap_apart (new_apart o3 (swap_apart (unhide Dxy2)) (fun b hb => ((unhide Gx2).own.lt b hb).2)))
          have Dyz3 := hide (new_apart o3 (unhide Dyz) (fun b hb => ((unhide Gz2).own.lt b hb).2))
          have Gy3 := hide gr
          clear gr gk o1 o2 o3 o4 Gx2 Gy2 Gz2 Kc Dxy2 Dyz
          go_wp2_with (first
            | (at_builtin; refine wpList_append_keep _ rfl _ _ 27 rfl 0 i0 _ Try.underlying27 (unhide HI).1 (unhide HI).2.1 (unhide HI).2.2.1 (unhide HI).2.2.2 rfl _ _ _ rfl ((unhide Gz3).own.alloc _) ⟨_, 0, none⟩ (.int .i64 (6000 + (j : Int))) rfl rfl (cell_one_new _ _ _) (by omega) (Nat.zero_le _) ?_))
          intro v' W' o1 o2 o3 o4
          obtain ⟨az', cz', hv'⟩ := own_len o1
          subst hv'
          obtain ⟨gr, gk⟩ := (unhide Gz3).grow o1 o2 o3 o4
          have Ke : Hid (Kept [ga, gb, gc] W0 W') := (unhide Kd).trans gk (fun b hb => by have hb2 := (unhide Gz3).blk b (by simpa using hb); rcases hb2 with h | h; left; rw [h]; simp; right; exact h)
          have Gx4 := hide ((unhide Gx3).other gk (swap_apart (unhide Dxz2)) (fun b hb => by rcases (unhide Gz3).blk b hb with h | h; rw [h]; exact (unhide hap).a.2.1.symm; have := (unhide hW0).1; omega))
          have Gy4 := hide ((unhide Gy3).other gk (swap_apart (unhide Dyz3)) (fun b hb => by rcases (unhide Gz3).blk b hb with h | h; rw [h]; exact (unhide hap).b.1.symm; have := (unhide hW0).2.1; omega))
          have Dxz4 := hide (swap_apart (new_apart o3 (swap_apart (unhide Dxz2)) (fun b hb => ((unhide Gx3).own.lt b hb).2)))
          have Dyz4 := hide (swap_apart (new_apart o3 (swap_apart (unhide Dyz3)) (fun b hb => ((unhide Gy3).own.lt b hb).2)))
          have Gz4 := hide gr
          clear gr gk o1 o2 o3 o4 Gx3 Gy3 Gz3 Kd Dxz2 Dyz3
          go_wp2_with fail
          exact ⟨⟨j + 1, by omega, by simp, unhide Gx4, unhide Gy4, unhide Gz4, unhide Dxy3, unhide Dxz4, unhide Dyz4, unhide Ke⟩, by simp [intOf]; omega⟩
        · obtain rfl : j = 60 := by omega
          rename World => W1
          have hd1 : Hid (Dc W1 bd s2) := (unhide hL).d.keep (unhide KC) (by have := (unhide hap).d; simp [this.1, this.2.1, this.2.2.1])
          have he1 : Hid (Dc W1 be s1) := (unhide hL).e.keep (unhide KC) (by have := (unhide hap).e; simp [this.1, this.2.1, this.2.2.1])
          have hw1 : Hid (W1.ownsRow 0 3 1 (.slice (some ⟨gw, 0, none⟩) i cw) i (ints B)) := own_kept (unhide hL).g (unhide KC) (by intro k e; cases e; simp [(unhide hap).a.2.2.2.symm, (unhide hap).b.2.2.symm, (unhide hap).c.2.symm])
          have hk1 : Hid (Kept [] w W1) := (unhide hkp).trans (unhide KC) (fun x hx => by simp at hx; rcases hx with h | h | h; (rw [h]; exact Or.inr (unhide g3)); (rw [h]; exact Or.inr (unhide g5)); (rw [h]; exact Or.inr (unhide g7)))
          obtain ⟨bx, cx', hvx, -, -, -, -⟩ := rowI_of_own (unhide Gx).own (by omega)
          obtain ⟨by', cy', hvy, -, -, -, -⟩ := rowI_of_own (unhide Gy).own (by omega)
          obtain ⟨bz, cz', hvz, -, -, -, -⟩ := rowI_of_own (unhide Gz).own (by omega)
          have eax : ax = some ⟨bx, 0, none⟩ := by cases hvx; rfl
          have eay : ay = some ⟨by', 0, none⟩ := by cases hvy; rfl
          have eaz : az = some ⟨bz, 0, none⟩ := by cases hvz; rfl
          subst eax; subst eay; subst eaz
          clear hvx hvy hvz
          have CX : Hid (∀ k, k < 60 → W1.cell? ⟨bx, i + k, none⟩ = some (.int .i64 (4000 + (k : Int)))) := fun k hk => by
            rw [ownI_cell (unhide Gx).own (by rw [List.length_append, app_length, (unhide hx).1]; omega), List.getD, List.getElem?_append_right (by rw [(unhide hx).1]; omega), (unhide hx).1, Nat.add_sub_cancel_left]
            have := app_at 4000 hk; rw [List.getD] at this; rw [this]
          have CY : Hid (∀ k, k < 60 → W1.cell? ⟨by', i + k, none⟩ = some (.int .i64 (5000 + (k : Int)))) := fun k hk => by
            rw [ownI_cell (unhide Gy).own (by rw [List.length_append, app_length, (unhide hy).1]; omega), List.getD, List.getElem?_append_right (by rw [(unhide hy).1]; omega), (unhide hy).1, Nat.add_sub_cancel_left]
            have := app_at 5000 hk; rw [List.getD] at this; rw [this]
          have CZ : Hid (∀ k, k < 60 → W1.cell? ⟨bz, i + k, none⟩ = some (.int .i64 (6000 + (k : Int)))) := fun k hk => by
            rw [ownI_cell (unhide Gz).own (by rw [List.length_append, app_length, (unhide hz).1]; omega), List.getD, List.getElem?_append_right (by rw [(unhide hz).1]; omega), (unhide hz).1, Nat.add_sub_cancel_left]
            have := app_at 6000 hk; rw [List.getD] at this; rw [this]
          have OX := hide (unhide Gx).old
          have OY := hide (unhide Gy).old
          have OZ := hide (unhide Gz).old
          have mx : Hid (i + 60 ≤ cx) := by rcases (unhide Gx).own.2 with ⟨h, _⟩ | ⟨_, _, _, hv, _, _, hc, _⟩; cases h; cases hv; exact hc
          have my : Hid (i + 60 ≤ cy) := by rcases (unhide Gy).own.2 with ⟨h, _⟩ | ⟨_, _, _, hv, _, _, hc, _⟩; cases h; cases hv; exact hc
          have mz : Hid (i + 60 ≤ cz) := by rcases (unhide Gz).own.2 with ⟨h, _⟩ | ⟨_, _, _, hv, _, _, hc, _⟩; cases h; cases hv; exact hc
          clear Gx Gy Gz hL hx hy hz KC Dxy Dxz Dyz hkp hap hW0 HI
          go_wp2_with fail
          go_loop [19] (fun s19 => ∃ k : Nat, k ≤ i ∧ s19 = .int .i64 k) (fun s19 => i - (intOf s19).toNat)
          case atStart => exact ⟨0, by omega, rfl⟩
          case round =>
            obtain ⟨k, hk, rfl⟩ := hrel
            by_cases hlt : k < i
            · have c1 := unhide OX k hlt
              have c2 := unhide OY k hlt
              have c3 := unhide OZ k hlt
              clear hd1 he1 hw1 hk1
              go_wp2_with fail
              exact ⟨⟨k + 1, by omega, by simp⟩, by simp [intOf]; omega⟩
            · obtain rfl : k = i := by omega
              clear OX OY OZ
              go_wp2_with fail
              go_loop [20] (fun s20 => ∃ j : Nat, j ≤ 60 ∧ s20 = .int .i64 j) (fun s20 => 60 - (intOf s20).toNat)
              case atStart => exact ⟨0, by omega, rfl⟩
              case round =>
                obtain ⟨j, hj, rfl⟩ := hrel
                by_cases hlt : j < 60
                · have c1 := unhide CX j hlt
                  have c2 := unhide CY j hlt
                  have c3 := unhide CZ j hlt
                  have m1 := unhide mx
                  have m2 := unhide my
                  have m3 := unhide mz
                  clear hd1 he1 hw1 hk1
                  go_wp2_with fail
                  exact ⟨⟨j + 1, by omega, by simp⟩, by simp [intOf]; omega⟩
                · obtain rfl : j = 60 := by omega
                  clear CX CY CZ mx my mz
                  have nde : Hid (bd ≠ be) := fun e => unhide nde0 e
                  have HSM := fun w1 v1 v2 q1 q2 => hide (same_any (w := w1) (v1 := v1) (v2 := v2) (l := B) q1 q2)
                  have HFL := fun w1 (hk : Kept [] w w1) => hide (floats_any ((unhide HV).kept hk (Or.inr (by simp))) (by rw [unhide HLL]; exact hl))
                  rw [unhide HLL] at HFL
                  obtain ⟨K1, E1, s3, hP1⟩ := pick_det l s2 (by rw [unhide HLL]; exact unhide HLT) (by rw [unhide HLL]; omega)
                  have HP1 := hide hP1
                  clear hP1
                  go_wp2_with (first
                    | (go_at_call 9; refine (unhide (QB _ _ (unhide he1))).mono ?_; rintro e w11 ⟨gg, rfl, hgg, hg2, he2, hk⟩; clear QB; have hd2 := hide ((unhide hd1).keep hk (by have := unhide nde; simpa using this)); have hw2 := hide (own_kept (unhide hw1) hk (by intro k e; cases e; intro hm; simp at hm; have h1 := (unhide he1).blk; have h2 := (unhide hw1); subst hm; rcases h2.2 with ⟨h3, _⟩ | ⟨g', _, cur, hv, _, hg', _⟩; cases h3; cases hv; exact absurd (blk_type3 hg' h1) (by decide))); replace he2 := hide he2; replace hgg := hide hgg; have hk2 := hide ((unhide hk1).push hk (unhide g2)); clear hk hg2 hd1 he1 hw1 hk1)
                    | (go_at_call 17; refine (unhide (HSM _ _ _ (seesI_of_blk (unhide hgg) (unhide lB) (by omega)) (by have h := (unhide hw2); have e := unhide lB; have h' := h; rw [← e] at h' ; rw [show k = B.length from e.symm]; exact SeesI.of_own h'))).mono ?_; rintro e w12 ⟨rfl, hm⟩; have hk : Kept [] _ w12 := (by obtain ⟨m, rfl⟩ := hm; exact drewN_kept _ _); have hd3 := hide ((unhide hd2).keep hk (by simp)); have he3 := hide ((unhide he2).keep hk (by simp)); have hk3 := hide ((unhide hk2).more hk); clear hm hk hd2 he2 hw2 hk2 hgg HSM; have HS1 := hide (state_any (unhide hd3)); have HS2 := hide (state_any (unhide he3)))
                    | (go_at_call 10; refine (unhide HS1).mono ?_; rintro e w13 ⟨rfl, hq⟩; have hq' := hq.symm; subst hq'; clear HS1)
                    | (go_at_call 10; refine (unhide HS2).mono ?_; rintro e w13 ⟨rfl, hq⟩; have hq' := hq.symm; subst hq'; clear HS2)
                    | (go_at_call 13; refine (unhide (HFL _ (unhide hk3))).mono ?_; rintro e w14 ⟨gx, cxx, rfl, hfr, hk⟩; clear HFL; have gx1 := hide (Nat.le_trans (unhide hk3).size hfr.lt.1); have ngx : Hid (gx ≠ bd ∧ gx ≠ be) := (by have h1 := (unhide hd3).blk.lt; have h2 := (unhide he3).blk.lt; have h3 := hfr.lt.1; exact ⟨by omega, by omega⟩); have hd4 := hide ((unhide hd3).keep hk (by simp)); have he4 := hide ((unhide he3).keep hk (by simp)); have hk4 := hide ((unhide hk3).more hk); replace hfr := hide hfr; clear hk hd3 he3 hk3)
                    | (go_at_call 14; refine (unhide HP1 _ _ _ (unhide hd4) (by have h := (unhide hfr).sees; rw [unhide HLL] at h; exact h) (by intro z e; cases e; exact (unhide ngx).1)).mono ?_; rintro e w15 ⟨rfl, hd, hk⟩; have hd5 := hide hd; have he5 := hide ((unhide he4).keep hk (by have := unhide nde; simpa using this.symm)); have hfr5 := hide ((unhide hfr).keep hk (by have := (unhide ngx).1; simpa using this)); have hk5 := hide ((unhide hk4).push hk (unhide g1)); clear hk hd hd4 he4 hk4 hfr)
                    | (go_at_call 14; refine (unhide HP1 _ _ _ (unhide he5) (by have h := (unhide hfr5).sees; rw [unhide HLL] at h; exact h) (by intro z e; cases e; exact (unhide ngx).2)).mono ?_; rintro e w16 ⟨rfl, he, hk⟩; have he6 := hide he; have hd6 := hide ((unhide hd5).keep hk (by have := unhide nde; simpa using this)); have hfr6 := hide ((unhide hfr5).keep hk (by have := (unhide ngx).2; simpa using this)); have hk6 := hide ((unhide hk5).push hk (unhide g2)); clear hk he hd5 he5 hk5 hfr5 HP1))
                  generalize w12.heap.size = base0 at *
                  go_loopw [23] (fun s23 wr => ∃ t : Nat, t ≤ LL ∧ s23 = .int .i64 t ∧ (∃ ws, (ws.length = LL ∧ ∀ j, j < LL → ws.getD j 0 < 18446744073709551616) ∧ FRow wr base0 gx cxx ws) ∧ Dc wr bd s3 ∧ Dc wr be s3 ∧ Kept [] w wr) (fun s23 _ => LL - (intOf s23).toNat)
                  case atStart => exact ⟨0, by omega, rfl, ⟨l, ⟨unhide HLL, unhide HLT⟩, unhide hfr6⟩, unhide hd6, unhide he6, unhide hk6⟩
                  case round =>
                    obtain ⟨t, ht, rfl, ⟨ws, hws, hfr⟩, hd, he, hkp⟩ := hrel
                    clear hd6 he6 hk6 hfr6
                    have hcap := hfr.cap
                    rw [hws.1] at hcap
                    by_cases hlt : t < LL
                    · have c1 := hfr.at (j := t) (by rw [hws.1]; exact hlt)
                      have f1 := hfr.frozen t
                      generalize ws.getD t 0 = y0 at c1
                      obtain ⟨q, em⟩ : ∃ q : Nat, (t : Int) % 3 = (q : Int) := ⟨t % 3, by omega⟩
                      have Y := of_int_lt q
                      generalize hy : floatOfInt .f64 (q : Int) = y at *
                      have hst : (store ⟨gx, t, none⟩ (.float .f64 y)).run Try.prog wr = .ok () (wr.setCell ⟨gx, t, none⟩ (.float .f64 y)) := by rw [run_store_float]; simp [stored, c1, f1]
                      have hKK : Kept [gx] wr (wr.setCell ⟨gx, t, none⟩ (.float .f64 y)) := (Kept.refl _ _).setCell (p := ⟨gx, t, none⟩) (Or.inl (by simp)) _
                      have N1 := hide (hfr.set (k := t) (by rw [hws.1]; exact hlt) y)
                      have N2 := hide (set_all (i := t) hws Y)
                      have N3 := hide (hd.keep hKK (by have := (unhide ngx).1; simpa using this.symm))
                      have N4 := hide (he.keep hKK (by have := (unhide ngx).2; simpa using this.symm))
                      have N5 := hide (hkp.push hKK (unhide gx1))
                      clear hfr hws hd he hkp hKK Y
                      go_wp2_with fail
                      exact ⟨⟨t + 1, by omega, by simp, ⟨_, unhide N2, unhide N1⟩, unhide N3, unhide N4, unhide N5⟩, by simp [intOf]; omega⟩
                    · obtain rfl : t = LL := by omega
                      obtain ⟨K2, E2, s4, hP2⟩ := pick_det ws s3 (by rw [hws.1]; exact hws.2) (by rw [hws.1]; omega)
                      have HP2 := hide hP2
                      obtain ⟨iF, hi, hz0, hz1, hz2⟩ := info_parts infoFp
                      have HIF := hide (⟨hi, hz0, hz1, hz2⟩ : _ ∧ _ ∧ _ ∧ _)
                      have HW := hide hws
                      replace hfr := hide hfr
                      replace hd := hide hd
                      replace he := hide he
                      replace hkp := hide hkp
                      clear hi hz0 hz1 hz2 hP2 hws
                      go_wp2_with (first
                        | (go_at_call 14; refine (unhide HP2 _ _ _ (unhide hd) (by have h := (unhide hfr).sees; rw [(unhide HW).1] at h; exact h) (by intro z e; cases e; exact (unhide ngx).1)).mono ?_; rintro e w17 ⟨rfl, hdd, hk⟩; have hd7 := hide hdd; have he7 := hide ((unhide he).keep hk (by have := unhide nde; simpa using this.symm)); have hfr7 := hide ((unhide hfr).keep hk (by have := (unhide ngx).1; simpa using this)); have hk7 := hide ((unhide hkp).push hk (unhide g1)); clear hk hdd hd he hkp hfr)
                        | (at_builtin; refine wpList_twinF (w0 := w17) rfl _ _ 35 rfl iF Try.underlying35 (unhide HIF).1 (unhide HIF).2.1 (unhide HIF).2.2.1 (unhide HIF).2.2.2 rfl _ ws rfl (Kept.refl _ _) (by have h := (unhide hfr7).sees; rw [(unhide HW).1] at h; exact h) t (unhide HW).1 (by omega) ?_))
                      intro aq cq w18 ho hk
                      have hd8 := hide ((unhide hd7).keep hk (by simp))
                      have he8 := hide ((unhide he7).keep hk (by simp))
                      have hk8 := hide ((unhide hk7).more hk)
                      have hv8 : Hid (SeesF w18 (.slice aq t cq) ws) := by
                        have e := (unhide HW).1
                        rw [← e] at ho
                        have := SeesF.of_own ho
                        rw [e] at this
                        exact this
                      have hb8 : Hid (∀ z, (Value.slice aq t cq).ownBlock = some z → z ≠ be) := fun z hz => by
                        have h1 := (own_lt ho hz).1
                        have h2 := (unhide he7).blk.lt
                        omega
                      clear ho hk hd7 he7 hk7 hfr7 HIF
                      go_wp2_with (first
                        | (go_at_call 14; refine (unhide HP2 _ _ _ (unhide he8) (unhide hv8) (unhide hb8)).mono ?_; rintro e w19 ⟨rfl, hee, hk⟩; have hd9 := hide ((unhide hd8).keep hk (by have := unhide nde; simpa using this)); have hk9 := hide ((unhide hk8).push hk (unhide g2)); have HS1 := hide (state_any (unhide hd9)); have HS2 := hide (state_any hee); clear hk hee hd8 he8 hk8 hv8 hb8 HP2 hd9)
                        | (go_at_call 10; refine (unhide HS1).mono ?_; rintro e w20 ⟨rfl, hq⟩; have hq' := hq.symm; subst hq'; clear HS1)
                        | (go_at_call 10; refine (unhide HS2).mono ?_; rintro e w20 ⟨rfl, hq⟩; have hq' := hq.symm; subst hq'; clear HS2))
                      go_ret
                      exact ⟨rfl, unhide hk9⟩
end Go.Proofs.Ytoibkgjnnneagab
