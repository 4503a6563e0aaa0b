/- One case of LedgerSteps. -/
import Derived.Test.YtnpabeodakncfaaGLent
import Derived.Test.YtnpabeodakncfaaGRis
namespace Go.Proofs.Ytnpabeodakncfaa
open Go.RowKit

theorem calls_at {P : Program} {f : Nat} {args : Array Value} {Q : Ending → World → Prop} {R : World → Prop} {x : World} (h : R x) (H : ∀ wr, R wr → Calls P f args wr Q) : Calls P f args x Q := H x h
structure Sx (w W : World) (cs rs : Array Value) (b1 b2 : Nat) : Prop where
  C : Blk W w.heap.size cs 27
  R : Blk W (w.heap.size + 1) rs 35
  A : Blk W (w.heap.size + 1 + 1) mk5 5
  B : Blk W b1 mk5 5
  D : Blk W b2 mk5 5
  K : Kept [] w W
theorem Sx.kept {w W W' : World} {cs rs : Array Value} {b1 b2 : Nat} (h : Sx w W cs rs b1 b2) (hk : Kept [] W W') : Sx w W' cs rs b1 b2 :=
  ⟨h.C.kept hk (by simp), h.R.kept hk (by simp), h.A.kept hk (by simp), h.B.kept hk (by simp), h.D.kept hk (by simp), h.K.step hk⟩
theorem Sx.alloc {w W : World} {cs rs : Array Value} {b1 b2 : Nat} (h : Sx w W cs rs b1 b2) (o : Obj) : Sx w (W.alloc o) cs rs b1 b2 :=
  ⟨h.C.alloc _, h.R.alloc _, h.A.alloc _, h.B.alloc _, h.D.alloc _, h.K.alloc _⟩
set_option maxRecDepth 100000 in
set_option maxHeartbeats 4000000 in
theorem steps_any (w : World) (c : Cs) : Calls Try.prog 9 #[cv c] w fun e w' => e = .returned (.bool true) ∧ Kept [] w w' := by
  obtain ⟨sv, hm, ph, ep, pe, rc, re, rp, ms, se, sd⟩ := c
  rw [show cv ⟨sv, hm, ph, ep, pe, rc, re, rp, ms, se, sd⟩ = .agg #[.int .i64 sv, .int .i64 hm, .int .i64 ph, .int .i64 ep, .int .i64 pe, .int .i64 rc, .int .i64 re, .int .i64 rp, .int .i64 ms, .int .i64 se, .int .i64 sd] from rfl]
  have HL1 := fun W => lent1 W
  have HL2 := fun W => lent2 W
  have HL3 := fun W => lent3 W
  go_enter Try.func9, Try.ntmps9
  go_wp2_with (first
    | (go_at_call_of 27 (Value.int IntKind.i64 1); refine (HL1 _).mono ?_; rintro e w1 ⟨rfl, hA, hk⟩; have hC := ((Blk.new w _ _).alloc _).kept hk (by simp); have hR := (new2 w _ _ _).kept hk (by simp); have hK := (((Kept.refl [] w).alloc _).alloc _).step hk; have q1 := hide hR.lt; clear hk)
    | (go_at_call_of 27 (Value.int IntKind.i64 2); refine (HL2 _).mono ?_; rintro e w2 ⟨rfl, hB, hk⟩; replace hC := hC.kept hk (by simp); replace hR := hR.kept hk (by simp); replace hA := hA.kept hk (by simp); replace hK := hK.step hk; have q2 := hide hR.lt; clear hk)
    | (go_at_call_of 27 (Value.int IntKind.i64 3); refine (HL3 _).mono ?_; rintro e w3 ⟨rfl, hD, hk⟩; replace hC := hC.kept hk (by simp); replace hR := hR.kept hk (by simp); replace hA := hA.kept hk (by simp); replace hB := hB.kept hk (by simp); replace hK := hK.step hk; clear hk; obtain ⟨c0, c1, c2, c3, c4, c5, c6, c7, c8, c9, c10⟩ := box11 hC; obtain ⟨r0, r1, r2, r3, r4, r5, r6, r7, r8, r9, r10⟩ := box11 hR; have z0 := hR.frozen 10; have z1 := hR.frozen 7; have z2 := hR.frozen 8))
  have hA' : Blk w3 (w.heap.size + 1 + 1) mk5 5 := by simpa using hA
  have hQ1 := unhide q1
  have hQ2 := unhide q2
  have hS : Sx w (((w3.setCell ⟨w.heap.size + 1, 10, none⟩ (.slice (some ⟨w.heap.size + 1 + 1, 2, none⟩) 1 3)).setCell ⟨w.heap.size + 1, 7, none⟩ (.slice (some ⟨w1.heap.size, 1, none⟩) 2 4)).setCell ⟨w.heap.size + 1, 8, none⟩ (.slice (some ⟨w2.heap.size, 0, none⟩) 3 5))
      #[.int .i64 sv, .int .i64 hm, .int .i64 ph, .int .i64 ep, .int .i64 pe, .int .i64 rc, .int .i64 re, .int .i64 rp, .int .i64 ms, .int .i64 se, .int .i64 sd]
      #[.int .i64 rc, .int .i64 0, .int .i64 re, .int .i64 rp, .int .i64 0, .int .i64 0, .int .i64 0, .slice (some ⟨w1.heap.size, 1, none⟩) 2 4, .slice (some ⟨w2.heap.size, 0, none⟩) 3 5, .int .i64 0, .slice (some ⟨w.heap.size + 1 + 1, 2, none⟩) 1 3] w1.heap.size w2.heap.size :=
    ⟨((hC.other _ (by simp) _).other _ (by simp) _).other _ (by simp) _, ((hR.set 10 _).set 7 _).set 8 _, ((hA'.other _ (by simp) _).other _ (by simp) _).other _ (by simp) _,
      ((hB.other _ (by simp; omega) _).other _ (by simp; omega) _).other _ (by simp; omega) _, ((hD.other _ (by simp; omega) _).other _ (by simp; omega) _).other _ (by simp; omega) _,
      ((hK.setCell (Or.inr (by simp)) _).setCell (Or.inr (by simp)) _).setCell (Or.inr (by simp)) _⟩
  refine calls_at (R := fun W => Sx w W
      #[.int .i64 sv, .int .i64 hm, .int .i64 ph, .int .i64 ep, .int .i64 pe, .int .i64 rc, .int .i64 re, .int .i64 rp, .int .i64 ms, .int .i64 se, .int .i64 sd]
      #[.int .i64 rc, .int .i64 0, .int .i64 re, .int .i64 rp, .int .i64 0, .int .i64 0, .int .i64 0, .slice (some ⟨w1.heap.size, 1, none⟩) 2 4, .slice (some ⟨w2.heap.size, 0, none⟩) 3 5, .int .i64 0, .slice (some ⟨w.heap.size + 1 + 1, 2, none⟩) 1 3] w1.heap.size w2.heap.size) hS ?_
  clear hS hA hA' hB hC hD hK hR c0 c1 c2 c3 c4 c5 c6 c7 c8 c9 c10 r0 r1 r2 r3 r4 r5 r6 r7 r8 r9 r10 z0 z1 z2 q1 q2 hQ1 hQ2
  intro W hS
  generalize hb1 : w1.heap.size = b1 at *
  generalize hb2 : w2.heap.size = b2 at *
  clear hb1 hb2
  have HS := fun W => step_any W sv ⟨ph, ep, pe⟩ ⟨rc, 0, re, rp, 0, 0, 0, .slice (some ⟨b1, 1, none⟩) 2 4, .slice (some ⟨b2, 0, none⟩) 3 5, 0, .slice (some ⟨w.heap.size + 1 + 1, 2, none⟩) 1 3⟩
  have HT := fun W => rstep_any W sv ⟨ph, ep, pe⟩ ⟨rc, 0, re, rp, 0, 0, 0, .slice (some ⟨b1, 1, none⟩) 2 4, .slice (some ⟨b2, 0, none⟩) 3 5, 0, .slice (some ⟨w.heap.size + 1 + 1, 2, none⟩) 1 3⟩
  have HN := fun W n => num_any W n
  have HB := fun W => begin_any W sv hm
  have HRB := fun W => rbegin_any W sv hm
  have HV := fun W => valid_any W sv ⟨ph, ep, pe⟩
  have HRV := fun W => rvalid_any W sv ⟨ph, ep, pe⟩
  have HE := fun W => serves_any W ⟨ph, ep, pe⟩
  have HRE := fun W => rserves_any W ⟨ph, ep, pe⟩
  have HP := fun W => keeps_any W ⟨ph, ep, pe⟩
  have HRP := fun W => rkeeps_any W ⟨ph, ep, pe⟩
  have HG := fun W => nag_any W ⟨ph, ep, pe⟩
  have HRG := fun W => rnag_any W ⟨ph, ep, pe⟩
  dsimp only at HS HT HE HRE
  generalize stp sv ⟨ph, ep, pe⟩ rc re rp = X at *
  generalize rfs sv ⟨ph, ep, pe⟩ rc re rp = E at *
  generalize bgn sv hm = G at *
  generalize vld sv ⟨ph, ep, pe⟩ = V at *
  generalize kps ⟨ph, ep, pe⟩ = Kp at *
  generalize nag ⟨ph, ep, pe⟩ = Ng at *
  generalize hse : decide (ph = 1) = Se at *
  clear hse
  unfold lv rv at *
  dsimp only at *
  obtain ⟨xa, xb, xc⟩ := X
  obtain ⟨ga, gb, gc⟩ := G
  obtain ⟨c0, c1, c2, c3, c4, c5, c6, c7, c8, c9, c10⟩ := box11 hS.C
  obtain ⟨r0, r1, r2, r3, r4, r5, r6, r7, r8, r9, r10⟩ := box11 hS.R
  go_wp2_with (first
    | (go_at_call 10; refine (HS _).mono ?_; rintro e w4 ⟨rfl, hk⟩; replace hS := hS.kept hk; clear hk; have hxl := hS.C.lt; have hxl2 := hS.R.lt; obtain ⟨c0, c1, c2, c3, c4, c5, c6, c7, c8, c9, c10⟩ := box11 hS.C; obtain ⟨r0, r1, r2, r3, r4, r5, r6, r7, r8, r9, r10⟩ := box11 hS.R)
    | (go_at_call_of 28 (Value.int IntKind.i64 1); refine (kept1 ((hS.alloc _).A)).mono ?_; rintro e w5 ⟨rfl, hk⟩; replace hS := (hS.alloc _).kept hk; have hX := (Blk.new w4 _ _).kept hk (by simp); clear hk; obtain ⟨c0, c1, c2, c3, c4, c5, c6, c7, c8, c9, c10⟩ := box11 hS.C; obtain ⟨r0, r1, r2, r3, r4, r5, r6, r7, r8, r9, r10⟩ := box11 hS.R)
    | (go_at_call_of 28 (Value.int IntKind.i64 2); refine (kept2 hS.B).mono ?_; rintro e w6 ⟨rfl, hk⟩; replace hS := hS.kept hk; replace hX := hX.kept hk (by simp); clear hk; obtain ⟨c0, c1, c2, c3, c4, c5, c6, c7, c8, c9, c10⟩ := box11 hS.C; obtain ⟨r0, r1, r2, r3, r4, r5, r6, r7, r8, r9, r10⟩ := box11 hS.R)
    | (go_at_call_of 28 (Value.int IntKind.i64 3); refine (kept3 hS.D).mono ?_; rintro e w7 ⟨rfl, hk⟩; replace hS := hS.kept hk; replace hX := hX.kept hk (by simp); clear hk; obtain ⟨c0, c1, c2, c3, c4, c5, c6, c7, c8, c9, c10⟩ := box11 hS.C; obtain ⟨r0, r1, r2, r3, r4, r5, r6, r7, r8, r9, r10⟩ := box11 hS.R)
    | (go_at_call 29; refine (HT _).mono ?_; rintro e w8 ⟨rfl, hk⟩; replace hS := hS.kept hk; replace hX := hX.kept hk (by simp); have hxl := hX.lt; clear hk; obtain ⟨c0, c1, c2, c3, c4, c5, c6, c7, c8, c9, c10⟩ := box11 hS.C; obtain ⟨r0, r1, r2, r3, r4, r5, r6, r7, r8, r9, r10⟩ := box11 hS.R; obtain ⟨x0, x1, x2⟩ := box3 hX)
    | (go_at_call 11; refine (HN _ _).mono ?_; rintro e w9 ⟨rfl, hq⟩; have hq2 := hq.symm; subst hq2)
    | (go_at_call 30; refine (HB _).mono ?_; rintro e wa ⟨rfl, hk⟩; (first | replace hS := hS.kept hk | replace hS := (hS.alloc _).kept hk); clear hk; obtain ⟨c0, c1, c2, c3, c4, c5, c6, c7, c8, c9, c10⟩ := box11 hS.C; obtain ⟨r0, r1, r2, r3, r4, r5, r6, r7, r8, r9, r10⟩ := box11 hS.R)
    | (go_at_call 31; refine (HRB _).mono ?_; rintro e wb ⟨rfl, hk⟩; (first | replace hS := hS.kept hk | replace hS := (hS.alloc _).kept hk); clear hk; obtain ⟨c0, c1, c2, c3, c4, c5, c6, c7, c8, c9, c10⟩ := box11 hS.C; obtain ⟨r0, r1, r2, r3, r4, r5, r6, r7, r8, r9, r10⟩ := box11 hS.R)
    | (go_at_call 32; refine (HV _).mono ?_; rintro e wc ⟨rfl, hk⟩; (first | replace hS := hS.kept hk | replace hS := (hS.alloc _).kept hk); clear hk; obtain ⟨c0, c1, c2, c3, c4, c5, c6, c7, c8, c9, c10⟩ := box11 hS.C; obtain ⟨r0, r1, r2, r3, r4, r5, r6, r7, r8, r9, r10⟩ := box11 hS.R)
    | (go_at_call 33; refine (HRV _).mono ?_; rintro e wd ⟨rfl, hk⟩; (first | replace hS := hS.kept hk | replace hS := (hS.alloc _).kept hk); clear hk; obtain ⟨c0, c1, c2, c3, c4, c5, c6, c7, c8, c9, c10⟩ := box11 hS.C; obtain ⟨r0, r1, r2, r3, r4, r5, r6, r7, r8, r9, r10⟩ := box11 hS.R)
    | (go_at_call 26; refine (HE _).mono ?_; rintro e we ⟨rfl, hk⟩; (first | replace hS := hS.kept hk | replace hS := (hS.alloc _).kept hk); clear hk; obtain ⟨c0, c1, c2, c3, c4, c5, c6, c7, c8, c9, c10⟩ := box11 hS.C; obtain ⟨r0, r1, r2, r3, r4, r5, r6, r7, r8, r9, r10⟩ := box11 hS.R)
    | (go_at_call 34; refine (HRE _).mono ?_; rintro e wf ⟨rfl, hk⟩; (first | replace hS := hS.kept hk | replace hS := (hS.alloc _).kept hk); clear hk; obtain ⟨c0, c1, c2, c3, c4, c5, c6, c7, c8, c9, c10⟩ := box11 hS.C; obtain ⟨r0, r1, r2, r3, r4, r5, r6, r7, r8, r9, r10⟩ := box11 hS.R)
    | (go_at_call 25; refine (HP _).mono ?_; rintro e wg ⟨rfl, hk⟩; (first | replace hS := hS.kept hk | replace hS := (hS.alloc _).kept hk); clear hk; obtain ⟨c0, c1, c2, c3, c4, c5, c6, c7, c8, c9, c10⟩ := box11 hS.C; obtain ⟨r0, r1, r2, r3, r4, r5, r6, r7, r8, r9, r10⟩ := box11 hS.R)
    | (go_at_call 35; refine (HRP _).mono ?_; rintro e wh ⟨rfl, hk⟩; (first | replace hS := hS.kept hk | replace hS := (hS.alloc _).kept hk); clear hk; obtain ⟨c0, c1, c2, c3, c4, c5, c6, c7, c8, c9, c10⟩ := box11 hS.C; obtain ⟨r0, r1, r2, r3, r4, r5, r6, r7, r8, r9, r10⟩ := box11 hS.R)
    | (go_at_call 24; refine (HG _).mono ?_; rintro e wi ⟨rfl, hk⟩; (first | replace hS := hS.kept hk | replace hS := (hS.alloc _).kept hk); clear hk; obtain ⟨c0, c1, c2, c3, c4, c5, c6, c7, c8, c9, c10⟩ := box11 hS.C; obtain ⟨r0, r1, r2, r3, r4, r5, r6, r7, r8, r9, r10⟩ := box11 hS.R)
    | (go_at_call 36; refine (HRG _).mono ?_; rintro e wj ⟨rfl, hk⟩; (first | replace hS := hS.kept hk | replace hS := (hS.alloc _).kept hk); clear hk; obtain ⟨c0, c1, c2, c3, c4, c5, c6, c7, c8, c9, c10⟩ := box11 hS.C; obtain ⟨r0, r1, r2, r3, r4, r5, r6, r7, r8, r9, r10⟩ := box11 hS.R))
  refine world_at (R := fun W => Sx w W #[.int .i64 sv, .int .i64 hm, .int .i64 ph, .int .i64 ep, .int .i64 pe, .int .i64 rc, .int .i64 re, .int .i64 rp, .int .i64 ms, .int .i64 se, .int .i64 sd] #[.int .i64 rc, .int .i64 0, .int .i64 re, .int .i64 rp, .int .i64 0, .int .i64 0, .int .i64 0, .slice (some ⟨b1, 1, none⟩) 2 4, .slice (some ⟨b2, 0, none⟩) 3 5, .int .i64 0, .slice (some ⟨w.heap.size + 1 + 1, 2, none⟩) 1 3] b1 b2 ∧ Blk W w4.heap.size #[.int .i64 xa, .int .i64 xb, .int .i64 xc] 25 ∧ Blk W w8.heap.size #[.int .i64 xa, .int .i64 xb, .int .i64 xc] 25) ⟨hS.alloc _, hX.alloc _, Blk.new _ _ _⟩ ?_
  clear hS hX c0 c1 c2 c3 c4 c5 c6 c7 c8 c9 c10 r0 r1 r2 r3 r4 r5 r6 r7 r8 r9 r10 x0 x1 x2 hxl2
  generalize hbl : w4.heap.size = bl at *
  generalize hbm : w8.heap.size = bm at *
  clear hxl hbl hbm
  rintro W9 ⟨hS, hX, hM⟩
  obtain ⟨c0, c1, c2, c3, c4, c5, c6, c7, c8, c9, c10⟩ := box11 hS.C
  obtain ⟨x0, x1, x2⟩ := box3 hX
  obtain ⟨m0, m1, m2⟩ := box3 hM
  have hSd : Sx w W9.drew #[.int .i64 sv, .int .i64 hm, .int .i64 ph, .int .i64 ep, .int .i64 pe, .int .i64 rc, .int .i64 re, .int .i64 rp, .int .i64 ms, .int .i64 se, .int .i64 sd] #[.int .i64 rc, .int .i64 0, .int .i64 re, .int .i64 rp, .int .i64 0, .int .i64 0, .int .i64 0, .slice (some ⟨b1, 1, none⟩) 2 4, .slice (some ⟨b2, 0, none⟩) 3 5, .int .i64 0, .slice (some ⟨w.heap.size + 1 + 1, 2, none⟩) 1 3] b1 b2 := ⟨hS.C, hS.R, hS.A, hS.B, hS.D, hS.K.drew⟩
  have hXd : Blk W9.drew bl #[.int .i64 xa, .int .i64 xb, .int .i64 xc] 25 := hX
  have hMd : Blk W9.drew bm #[.int .i64 xa, .int .i64 xb, .int .i64 xc] 25 := hM
  go_region_held3 (fun w' => w'.cell? ⟨w.heap.size, 0, none⟩ = some (.int .i64 sv) ∧ w'.cell? ⟨w.heap.size, 1, none⟩ = some (.int .i64 hm) ∧ w'.cell? ⟨bl, 0, none⟩ = some (.int .i64 xa) ∧ w'.cell? ⟨bl, 1, none⟩ = some (.int .i64 xb) ∧ w'.cell? ⟨bl, 2, none⟩ = some (.int .i64 xc) ∧ w'.cell? ⟨bm, 0, none⟩ = some (.int .i64 xa) ∧ w'.cell? ⟨bm, 1, none⟩ = some (.int .i64 xb) ∧ w'.cell? ⟨bm, 2, none⟩ = some (.int .i64 xc) ∧ Sx w w' #[.int .i64 sv, .int .i64 hm, .int .i64 ph, .int .i64 ep, .int .i64 pe, .int .i64 rc, .int .i64 re, .int .i64 rp, .int .i64 ms, .int .i64 se, .int .i64 sd] #[.int .i64 rc, .int .i64 0, .int .i64 re, .int .i64 rp, .int .i64 0, .int .i64 0, .int .i64 0, .slice (some ⟨b1, 1, none⟩) 2 4, .slice (some ⟨b2, 0, none⟩) 3 5, .int .i64 0, .slice (some ⟨w.heap.size + 1 + 1, 2, none⟩) 1 3] b1 b2 ∧ Blk w' bl #[.int .i64 xa, .int .i64 xb, .int .i64 xc] 25 ∧ Blk w' bm #[.int .i64 xa, .int .i64 xb, .int .i64 xc] 25) (first | assumption | exact ⟨hSd.C.cell 0, hSd.C.cell 1, hXd.cell 0, hXd.cell 1, hXd.cell 2, hMd.cell 0, hMd.cell 1, hMd.cell 2, hSd, hXd, hMd⟩) (first
    | (go_at_call 11; refine (HN _ _).mono ?_; rintro e wz ⟨rfl, hq⟩; have hq2 := hq.symm; subst hq2)
    | (go_at_call 30; refine (HB _).mono ?_; rintro e w3 ⟨rfl, hk⟩
       obtain ⟨-, -, -, -, -, -, -, -, hSq, hXq, hMq⟩ : _ ∧ _ ∧ _ ∧ _ ∧ _ ∧ _ ∧ _ ∧ _ ∧ Sx w _ _ _ _ _ ∧ Blk _ bl _ _ ∧ Blk _ bm _ _ := by assumption
       have hSq3 := hSq.kept hk
       have hXq3 := hXq.kept hk (by simp)
       have hMq3 := hMq.kept hk (by simp)
       have HS3 : w3.cell? ⟨w.heap.size, 0, none⟩ = some (.int .i64 sv) ∧ w3.cell? ⟨w.heap.size, 1, none⟩ = some (.int .i64 hm) ∧ w3.cell? ⟨bl, 0, none⟩ = some (.int .i64 xa) ∧ w3.cell? ⟨bl, 1, none⟩ = some (.int .i64 xb) ∧ w3.cell? ⟨bl, 2, none⟩ = some (.int .i64 xc) ∧ w3.cell? ⟨bm, 0, none⟩ = some (.int .i64 xa) ∧ w3.cell? ⟨bm, 1, none⟩ = some (.int .i64 xb) ∧ w3.cell? ⟨bm, 2, none⟩ = some (.int .i64 xc) ∧ Sx w w3 #[.int .i64 sv, .int .i64 hm, .int .i64 ph, .int .i64 ep, .int .i64 pe, .int .i64 rc, .int .i64 re, .int .i64 rp, .int .i64 ms, .int .i64 se, .int .i64 sd] #[.int .i64 rc, .int .i64 0, .int .i64 re, .int .i64 rp, .int .i64 0, .int .i64 0, .int .i64 0, .slice (some ⟨b1, 1, none⟩) 2 4, .slice (some ⟨b2, 0, none⟩) 3 5, .int .i64 0, .slice (some ⟨w.heap.size + 1 + 1, 2, none⟩) 1 3] b1 b2 ∧ Blk w3 bl #[.int .i64 xa, .int .i64 xb, .int .i64 xc] 25 ∧ Blk w3 bm #[.int .i64 xa, .int .i64 xb, .int .i64 xc] 25 := ⟨hSq3.C.cell 0, hSq3.C.cell 1, hXq3.cell 0, hXq3.cell 1, hXq3.cell 2, hMq3.cell 0, hMq3.cell 1, hMq3.cell 2, hSq3, hXq3, hMq3⟩)
    | (go_at_call 31; refine (HRB _).mono ?_; rintro e w3 ⟨rfl, hk⟩
       obtain ⟨-, -, -, -, -, -, -, -, hSq, hXq, hMq⟩ : _ ∧ _ ∧ _ ∧ _ ∧ _ ∧ _ ∧ _ ∧ _ ∧ Sx w _ _ _ _ _ ∧ Blk _ bl _ _ ∧ Blk _ bm _ _ := by assumption
       have hSq3 := hSq.kept hk
       have hXq3 := hXq.kept hk (by simp)
       have hMq3 := hMq.kept hk (by simp)
       have HS3 : w3.cell? ⟨w.heap.size, 0, none⟩ = some (.int .i64 sv) ∧ w3.cell? ⟨w.heap.size, 1, none⟩ = some (.int .i64 hm) ∧ w3.cell? ⟨bl, 0, none⟩ = some (.int .i64 xa) ∧ w3.cell? ⟨bl, 1, none⟩ = some (.int .i64 xb) ∧ w3.cell? ⟨bl, 2, none⟩ = some (.int .i64 xc) ∧ w3.cell? ⟨bm, 0, none⟩ = some (.int .i64 xa) ∧ w3.cell? ⟨bm, 1, none⟩ = some (.int .i64 xb) ∧ w3.cell? ⟨bm, 2, none⟩ = some (.int .i64 xc) ∧ Sx w w3 #[.int .i64 sv, .int .i64 hm, .int .i64 ph, .int .i64 ep, .int .i64 pe, .int .i64 rc, .int .i64 re, .int .i64 rp, .int .i64 ms, .int .i64 se, .int .i64 sd] #[.int .i64 rc, .int .i64 0, .int .i64 re, .int .i64 rp, .int .i64 0, .int .i64 0, .int .i64 0, .slice (some ⟨b1, 1, none⟩) 2 4, .slice (some ⟨b2, 0, none⟩) 3 5, .int .i64 0, .slice (some ⟨w.heap.size + 1 + 1, 2, none⟩) 1 3] b1 b2 ∧ Blk w3 bl #[.int .i64 xa, .int .i64 xb, .int .i64 xc] 25 ∧ Blk w3 bm #[.int .i64 xa, .int .i64 xb, .int .i64 xc] 25 := ⟨hSq3.C.cell 0, hSq3.C.cell 1, hXq3.cell 0, hXq3.cell 1, hXq3.cell 2, hMq3.cell 0, hMq3.cell 1, hMq3.cell 2, hSq3, hXq3, hMq3⟩))
  refine world_at (R := fun W => Sx w W #[.int .i64 sv, .int .i64 hm, .int .i64 ph, .int .i64 ep, .int .i64 pe, .int .i64 rc, .int .i64 re, .int .i64 rp, .int .i64 ms, .int .i64 se, .int .i64 sd] #[.int .i64 rc, .int .i64 0, .int .i64 re, .int .i64 rp, .int .i64 0, .int .i64 0, .int .i64 0, .slice (some ⟨b1, 1, none⟩) 2 4, .slice (some ⟨b2, 0, none⟩) 3 5, .int .i64 0, .slice (some ⟨w.heap.size + 1 + 1, 2, none⟩) 1 3] b1 b2) hSq3 ?_
  clear hSq3 HS3 hSq hXq hMq hk hXq3 hMq3 hSd hXd hMd hS hX hM c0 c1 c2 c3 c4 c5 c6 c7 c8 c9 c10 x0 x1 x2 m0 m1 m2
  intro Wb hS
  obtain ⟨c0, c1, c2, c3, c4, c5, c6, c7, c8, c9, c10⟩ := box11 hS.C
  go_wp2_with fail
  have hSd : Sx w Wb.drew #[.int .i64 sv, .int .i64 hm, .int .i64 ph, .int .i64 ep, .int .i64 pe, .int .i64 rc, .int .i64 re, .int .i64 rp, .int .i64 ms, .int .i64 se, .int .i64 sd] #[.int .i64 rc, .int .i64 0, .int .i64 re, .int .i64 rp, .int .i64 0, .int .i64 0, .int .i64 0, .slice (some ⟨b1, 1, none⟩) 2 4, .slice (some ⟨b2, 0, none⟩) 3 5, .int .i64 0, .slice (some ⟨w.heap.size + 1 + 1, 2, none⟩) 1 3] b1 b2 := ⟨hS.C, hS.R, hS.A, hS.B, hS.D, hS.K.drew⟩
  go_region_held3 (fun w' => w'.cell? ⟨w.heap.size, 0, none⟩ = some (.int .i64 sv) ∧ w'.cell? ⟨w.heap.size, 2, none⟩ = some (.int .i64 ph) ∧ w'.cell? ⟨w.heap.size, 3, none⟩ = some (.int .i64 ep) ∧ w'.cell? ⟨w.heap.size, 4, none⟩ = some (.int .i64 pe) ∧ Sx w w' #[.int .i64 sv, .int .i64 hm, .int .i64 ph, .int .i64 ep, .int .i64 pe, .int .i64 rc, .int .i64 re, .int .i64 rp, .int .i64 ms, .int .i64 se, .int .i64 sd] #[.int .i64 rc, .int .i64 0, .int .i64 re, .int .i64 rp, .int .i64 0, .int .i64 0, .int .i64 0, .slice (some ⟨b1, 1, none⟩) 2 4, .slice (some ⟨b2, 0, none⟩) 3 5, .int .i64 0, .slice (some ⟨w.heap.size + 1 + 1, 2, none⟩) 1 3] b1 b2) (first | assumption | exact ⟨hSd.C.cell 0, hSd.C.cell 2, hSd.C.cell 3, hSd.C.cell 4, hSd⟩) (first
    | (go_at_call 32; refine (HV _).mono ?_; rintro e w3 ⟨rfl, hk⟩
       obtain ⟨-, -, -, -, hSq⟩ : _ ∧ _ ∧ _ ∧ _ ∧ Sx w _ _ _ _ _ := by assumption
       have hSq3 := hSq.kept hk
       have HS3 : w3.cell? ⟨w.heap.size, 0, none⟩ = some (.int .i64 sv) ∧ w3.cell? ⟨w.heap.size, 2, none⟩ = some (.int .i64 ph) ∧ w3.cell? ⟨w.heap.size, 3, none⟩ = some (.int .i64 ep) ∧ w3.cell? ⟨w.heap.size, 4, none⟩ = some (.int .i64 pe) ∧ Sx w w3 #[.int .i64 sv, .int .i64 hm, .int .i64 ph, .int .i64 ep, .int .i64 pe, .int .i64 rc, .int .i64 re, .int .i64 rp, .int .i64 ms, .int .i64 se, .int .i64 sd] #[.int .i64 rc, .int .i64 0, .int .i64 re, .int .i64 rp, .int .i64 0, .int .i64 0, .int .i64 0, .slice (some ⟨b1, 1, none⟩) 2 4, .slice (some ⟨b2, 0, none⟩) 3 5, .int .i64 0, .slice (some ⟨w.heap.size + 1 + 1, 2, none⟩) 1 3] b1 b2 := ⟨hSq3.C.cell 0, hSq3.C.cell 2, hSq3.C.cell 3, hSq3.C.cell 4, hSq3⟩)
    | (go_at_call 33; refine (HRV _).mono ?_; rintro e w3 ⟨rfl, hk⟩
       obtain ⟨-, -, -, -, hSq⟩ : _ ∧ _ ∧ _ ∧ _ ∧ Sx w _ _ _ _ _ := by assumption
       have hSq3 := hSq.kept hk
       have HS3 : w3.cell? ⟨w.heap.size, 0, none⟩ = some (.int .i64 sv) ∧ w3.cell? ⟨w.heap.size, 2, none⟩ = some (.int .i64 ph) ∧ w3.cell? ⟨w.heap.size, 3, none⟩ = some (.int .i64 ep) ∧ w3.cell? ⟨w.heap.size, 4, none⟩ = some (.int .i64 pe) ∧ Sx w w3 #[.int .i64 sv, .int .i64 hm, .int .i64 ph, .int .i64 ep, .int .i64 pe, .int .i64 rc, .int .i64 re, .int .i64 rp, .int .i64 ms, .int .i64 se, .int .i64 sd] #[.int .i64 rc, .int .i64 0, .int .i64 re, .int .i64 rp, .int .i64 0, .int .i64 0, .int .i64 0, .slice (some ⟨b1, 1, none⟩) 2 4, .slice (some ⟨b2, 0, none⟩) 3 5, .int .i64 0, .slice (some ⟨w.heap.size + 1 + 1, 2, none⟩) 1 3] b1 b2 := ⟨hSq3.C.cell 0, hSq3.C.cell 2, hSq3.C.cell 3, hSq3.C.cell 4, hSq3⟩)
    | (go_at_call 26; refine (HE _).mono ?_; rintro e w3 ⟨rfl, hk⟩
       obtain ⟨-, -, -, -, hSq⟩ : _ ∧ _ ∧ _ ∧ _ ∧ Sx w _ _ _ _ _ := by assumption
       have hSq3 := hSq.kept hk
       have HS3 : w3.cell? ⟨w.heap.size, 0, none⟩ = some (.int .i64 sv) ∧ w3.cell? ⟨w.heap.size, 2, none⟩ = some (.int .i64 ph) ∧ w3.cell? ⟨w.heap.size, 3, none⟩ = some (.int .i64 ep) ∧ w3.cell? ⟨w.heap.size, 4, none⟩ = some (.int .i64 pe) ∧ Sx w w3 #[.int .i64 sv, .int .i64 hm, .int .i64 ph, .int .i64 ep, .int .i64 pe, .int .i64 rc, .int .i64 re, .int .i64 rp, .int .i64 ms, .int .i64 se, .int .i64 sd] #[.int .i64 rc, .int .i64 0, .int .i64 re, .int .i64 rp, .int .i64 0, .int .i64 0, .int .i64 0, .slice (some ⟨b1, 1, none⟩) 2 4, .slice (some ⟨b2, 0, none⟩) 3 5, .int .i64 0, .slice (some ⟨w.heap.size + 1 + 1, 2, none⟩) 1 3] b1 b2 := ⟨hSq3.C.cell 0, hSq3.C.cell 2, hSq3.C.cell 3, hSq3.C.cell 4, hSq3⟩)
    | (go_at_call 34; refine (HRE _).mono ?_; rintro e w3 ⟨rfl, hk⟩
       obtain ⟨-, -, -, -, hSq⟩ : _ ∧ _ ∧ _ ∧ _ ∧ Sx w _ _ _ _ _ := by assumption
       have hSq3 := hSq.kept hk
       have HS3 : w3.cell? ⟨w.heap.size, 0, none⟩ = some (.int .i64 sv) ∧ w3.cell? ⟨w.heap.size, 2, none⟩ = some (.int .i64 ph) ∧ w3.cell? ⟨w.heap.size, 3, none⟩ = some (.int .i64 ep) ∧ w3.cell? ⟨w.heap.size, 4, none⟩ = some (.int .i64 pe) ∧ Sx w w3 #[.int .i64 sv, .int .i64 hm, .int .i64 ph, .int .i64 ep, .int .i64 pe, .int .i64 rc, .int .i64 re, .int .i64 rp, .int .i64 ms, .int .i64 se, .int .i64 sd] #[.int .i64 rc, .int .i64 0, .int .i64 re, .int .i64 rp, .int .i64 0, .int .i64 0, .int .i64 0, .slice (some ⟨b1, 1, none⟩) 2 4, .slice (some ⟨b2, 0, none⟩) 3 5, .int .i64 0, .slice (some ⟨w.heap.size + 1 + 1, 2, none⟩) 1 3] b1 b2 := ⟨hSq3.C.cell 0, hSq3.C.cell 2, hSq3.C.cell 3, hSq3.C.cell 4, hSq3⟩)
    | (go_at_call 25; refine (HP _).mono ?_; rintro e w3 ⟨rfl, hk⟩
       obtain ⟨-, -, -, -, hSq⟩ : _ ∧ _ ∧ _ ∧ _ ∧ Sx w _ _ _ _ _ := by assumption
       have hSq3 := hSq.kept hk
       have HS3 : w3.cell? ⟨w.heap.size, 0, none⟩ = some (.int .i64 sv) ∧ w3.cell? ⟨w.heap.size, 2, none⟩ = some (.int .i64 ph) ∧ w3.cell? ⟨w.heap.size, 3, none⟩ = some (.int .i64 ep) ∧ w3.cell? ⟨w.heap.size, 4, none⟩ = some (.int .i64 pe) ∧ Sx w w3 #[.int .i64 sv, .int .i64 hm, .int .i64 ph, .int .i64 ep, .int .i64 pe, .int .i64 rc, .int .i64 re, .int .i64 rp, .int .i64 ms, .int .i64 se, .int .i64 sd] #[.int .i64 rc, .int .i64 0, .int .i64 re, .int .i64 rp, .int .i64 0, .int .i64 0, .int .i64 0, .slice (some ⟨b1, 1, none⟩) 2 4, .slice (some ⟨b2, 0, none⟩) 3 5, .int .i64 0, .slice (some ⟨w.heap.size + 1 + 1, 2, none⟩) 1 3] b1 b2 := ⟨hSq3.C.cell 0, hSq3.C.cell 2, hSq3.C.cell 3, hSq3.C.cell 4, hSq3⟩)
    | (go_at_call 35; refine (HRP _).mono ?_; rintro e w3 ⟨rfl, hk⟩
       obtain ⟨-, -, -, -, hSq⟩ : _ ∧ _ ∧ _ ∧ _ ∧ Sx w _ _ _ _ _ := by assumption
       have hSq3 := hSq.kept hk
       have HS3 : w3.cell? ⟨w.heap.size, 0, none⟩ = some (.int .i64 sv) ∧ w3.cell? ⟨w.heap.size, 2, none⟩ = some (.int .i64 ph) ∧ w3.cell? ⟨w.heap.size, 3, none⟩ = some (.int .i64 ep) ∧ w3.cell? ⟨w.heap.size, 4, none⟩ = some (.int .i64 pe) ∧ Sx w w3 #[.int .i64 sv, .int .i64 hm, .int .i64 ph, .int .i64 ep, .int .i64 pe, .int .i64 rc, .int .i64 re, .int .i64 rp, .int .i64 ms, .int .i64 se, .int .i64 sd] #[.int .i64 rc, .int .i64 0, .int .i64 re, .int .i64 rp, .int .i64 0, .int .i64 0, .int .i64 0, .slice (some ⟨b1, 1, none⟩) 2 4, .slice (some ⟨b2, 0, none⟩) 3 5, .int .i64 0, .slice (some ⟨w.heap.size + 1 + 1, 2, none⟩) 1 3] b1 b2 := ⟨hSq3.C.cell 0, hSq3.C.cell 2, hSq3.C.cell 3, hSq3.C.cell 4, hSq3⟩)
    | (go_at_call 24; refine (HG _).mono ?_; rintro e w3 ⟨rfl, hk⟩
       obtain ⟨-, -, -, -, hSq⟩ : _ ∧ _ ∧ _ ∧ _ ∧ Sx w _ _ _ _ _ := by assumption
       have hSq3 := hSq.kept hk
       have HS3 : w3.cell? ⟨w.heap.size, 0, none⟩ = some (.int .i64 sv) ∧ w3.cell? ⟨w.heap.size, 2, none⟩ = some (.int .i64 ph) ∧ w3.cell? ⟨w.heap.size, 3, none⟩ = some (.int .i64 ep) ∧ w3.cell? ⟨w.heap.size, 4, none⟩ = some (.int .i64 pe) ∧ Sx w w3 #[.int .i64 sv, .int .i64 hm, .int .i64 ph, .int .i64 ep, .int .i64 pe, .int .i64 rc, .int .i64 re, .int .i64 rp, .int .i64 ms, .int .i64 se, .int .i64 sd] #[.int .i64 rc, .int .i64 0, .int .i64 re, .int .i64 rp, .int .i64 0, .int .i64 0, .int .i64 0, .slice (some ⟨b1, 1, none⟩) 2 4, .slice (some ⟨b2, 0, none⟩) 3 5, .int .i64 0, .slice (some ⟨w.heap.size + 1 + 1, 2, none⟩) 1 3] b1 b2 := ⟨hSq3.C.cell 0, hSq3.C.cell 2, hSq3.C.cell 3, hSq3.C.cell 4, hSq3⟩)
    | (go_at_call 36; refine (HRG _).mono ?_; rintro e w3 ⟨rfl, hk⟩
       obtain ⟨-, -, -, -, hSq⟩ : _ ∧ _ ∧ _ ∧ _ ∧ Sx w _ _ _ _ _ := by assumption
       have hSq3 := hSq.kept hk
       have HS3 : w3.cell? ⟨w.heap.size, 0, none⟩ = some (.int .i64 sv) ∧ w3.cell? ⟨w.heap.size, 2, none⟩ = some (.int .i64 ph) ∧ w3.cell? ⟨w.heap.size, 3, none⟩ = some (.int .i64 ep) ∧ w3.cell? ⟨w.heap.size, 4, none⟩ = some (.int .i64 pe) ∧ Sx w w3 #[.int .i64 sv, .int .i64 hm, .int .i64 ph, .int .i64 ep, .int .i64 pe, .int .i64 rc, .int .i64 re, .int .i64 rp, .int .i64 ms, .int .i64 se, .int .i64 sd] #[.int .i64 rc, .int .i64 0, .int .i64 re, .int .i64 rp, .int .i64 0, .int .i64 0, .int .i64 0, .slice (some ⟨b1, 1, none⟩) 2 4, .slice (some ⟨b2, 0, none⟩) 3 5, .int .i64 0, .slice (some ⟨w.heap.size + 1 + 1, 2, none⟩) 1 3] b1 b2 := ⟨hSq3.C.cell 0, hSq3.C.cell 2, hSq3.C.cell 3, hSq3.C.cell 4, hSq3⟩))
  go_wp2
  go_ret
  exact ⟨rfl, hSq3.K⟩
end Go.Proofs.Ytnpabeodakncfaa
