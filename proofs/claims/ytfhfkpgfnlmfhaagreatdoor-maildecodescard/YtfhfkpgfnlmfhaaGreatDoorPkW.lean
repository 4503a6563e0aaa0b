/- Texts laid one behind the other: XN XO XQ1 XQ2 XQ3 XQ4 XQ5 XQ6 XQ7 XQ8 XQ. -/
import Derived.Test.YtfhfkpgfnlmfhaaGreatDoorPkV
import Derived.Laws.Rows
/- Sound, part by part: fields that a kind, or a verdict, has not. -/
namespace Go.Proofs.YtfhfkpgfnlmfhaaGreatDoor
open Go.RowKit

theorem infoMail : (Tryz.prog.info? 30).map (·.size) = some 20 := by kernel_rfl
/-- A struct that is loaded whole, under a guard. -/
theorem wpList_load_guard {P : Program} {ops : Array Oper} {rest : List Oper} {o : Oper} {a : Act} {w : World} {Q : Exit → Act → World → Prop} (ty : TypeId) (x : Operand) (ho : o.op = .load ty x)
    (g : Nat) (hx : a.eval x = .pointer (some ⟨g, 0, none⟩)) (t : TypeId) (cs : Array Value) (fr : Nat × Nat) (d : TypeDesc) (hg : w.heap[g]? = some (.cells cs t fr))
    (hu : P.underlying ty = some d) (hd : (match d with | .struct _ | .array _ _ => true | _ => false) = true) (hi : (P.info? ty).map (·.size) = some cs.size)
    (hw : Region.wanted o (yielded ops a.tmps) = true) (h : wpList P ops Q rest (a.put o.dst (.agg cs)) w) : wpList P ops Q (o :: rest) a w :=
  wpList_step fun _ hK => by rw [if_pos hw]; exact wp_load_row ty x ho g hx t cs fr d hg hu hd hi (hK _ _ h)
theorem isBlankAnswer_p (w : World) (p : Ml) (l : Lm) : Calls Tryz.prog 85 #[.agg #[.bool p.done, .slice l.xa p.akey.length l.xc, .slice l.ya p.aval.length l.yc, .int .i64 p.arev, .int .i64 p.aat]] w fun e w' => e = .returned (.bool (ansB p)) ∧ Kept [] w w' := isBlankAnswer_any w p.done l.xa p.akey.length l.xc l.ya p.aval.length l.yc p.arev p.aat
theorem isFit_p (w : World) (p : Ml) (l : Lm) : Calls Tryz.prog 86 #[.agg #[.bool p.done, .slice l.xa p.akey.length l.xc, .slice l.ya p.aval.length l.yc, .int .i64 p.arev, .int .i64 p.aat]] w fun e w' => e = .returned (.bool (fitB p)) ∧ Kept [] w w' := isFit_any w p.done l.xa p.akey.length l.xc l.ya p.aval.length l.yc p.arev p.aat
theorem isBlankOp_p (w : World) (p : Ml) (l : Lm) : Calls Tryz.prog 72 #[.agg #[.int .i64 p.okind, .slice l.ka p.key.length l.kc, .slice l.va p.val.length l.vc, .int .i64 p.rev]] w fun e w' => e = .returned (.bool (opB p)) ∧ Kept [] w w' := isBlankOp_any w p.okind l.ka p.key.length l.kc l.va p.val.length l.vc p.rev
theorem right_p (w : World) (p : Ml) (l : Lm) : Calls Tryz.prog 69 #[.agg #[.int .i64 p.okind, .slice l.ka p.key.length l.kc, .slice l.va p.val.length l.vc, .int .i64 p.rev]] w fun e w' => e = .returned (.bool (rgt p.okind p.key.length p.val.length p.rev)) ∧ Kept [] w w' := right_any w p.okind l.ka p.key.length l.kc l.va p.val.length l.vc p.rev
theorem fit_bla {p : Ml} (h : ansB p = true) : fitB p = true := by
  simp [ansB, bla, fitB, fit] at h ⊢
  obtain ⟨_, h1, h2, h3, h4⟩ := h
  simp [h1, h2, h3, h4]
set_option maxRecDepth 100000 in
set_option maxHeartbeats 1600000 in
theorem hasNoCopy_any (w : World) (p : Ml) (l : Lm) : Calls Tryz.prog 74 #[mv p l] w fun e w' => e = .returned (.bool (noCopy p)) ∧ Kept [] w w' := by
  unfold mv
  go_enter Tryz.func74, Tryz.ntmps74
  go_upto_region 1 with fail
  refine world_at (R := fun X => Blk X w.heap.size (mcc p l) 30 ∧ Kept [] w X) ⟨Blk.new _ _ _, (Kept.refl [] w).alloc _⟩ ?_
  rintro X ⟨hbx, hkx⟩
  obtain ⟨d0, d1, d2, d3, d4, d5, d6, d7, d8, d9, d10, d11, d12, d13, d14, d15, d16, d17, d18, d19⟩ := box20 hbx
  have HB := hide hbx
  have HK := hide hkx
  clear hbx hkx
  cases h1 : (p.root == 0) with
  | true =>
    go_wp2_with (first
      | (refine wpList_load_guard 30 _ rfl _ rfl 30 _ (0, 0) _ (unhide HB) Tryz.underlying30 rfl infoMail rfl ?_))
    all_goals
      go_ret
      refine ⟨ret_bool ?_, (by first | exact unhide HK | exact (unhide HK).drew | exact (unhide HK).drewN _)⟩
      unfold noCopy
      clear d0 d1 d2 d3 d4 d5 d6 d7 d8 d9 d10 d11 d12 d13 d14 d15 d16 d17 d18 d19
      first
        | (simp_all; done)
        | (rw [Bool.eq_iff_iff]; simp_all [-List.length_eq_zero_iff]; done)
        | (rw [Bool.eq_iff_iff]; simp_all [-List.length_eq_zero_iff]; omega)
  | false =>
    go_wp2_with (first
      | (refine wpList_load_guard 30 _ rfl _ rfl 30 _ (0, 0) _ (unhide HB) Tryz.underlying30 rfl infoMail rfl ?_))
    all_goals
      go_ret
      refine ⟨ret_bool ?_, (by first | exact unhide HK | exact (unhide HK).drew | exact (unhide HK).drewN _)⟩
      unfold noCopy
      clear d0 d1 d2 d3 d4 d5 d6 d7 d8 d9 d10 d11 d12 d13 d14 d15 d16 d17 d18 d19
      first
        | (simp_all; done)
        | (rw [Bool.eq_iff_iff]; simp_all [-List.length_eq_zero_iff]; done)
        | (rw [Bool.eq_iff_iff]; simp_all [-List.length_eq_zero_iff]; omega)
set_option maxRecDepth 100000 in
set_option maxHeartbeats 1600000 in
theorem hasNoTrans_any (w : World) (p : Ml) (l : Lm) : Calls Tryz.prog 71 #[mv p l] w fun e w' => e = .returned (.bool (noTrans p)) ∧ Kept [] w w' := by
  have H0 := fun W => hasNoCopy_any W p l
  unfold mv
  go_enter Tryz.func71, Tryz.ntmps71
  go_upto_region 1 with fail
  refine world_at (R := fun X => Blk X w.heap.size (mcc p l) 30 ∧ Kept [] w X) ⟨Blk.new _ _ _, (Kept.refl [] w).alloc _⟩ ?_
  rintro X ⟨hbx, hkx⟩
  obtain ⟨d0, d1, d2, d3, d4, d5, d6, d7, d8, d9, d10, d11, d12, d13, d14, d15, d16, d17, d18, d19⟩ := box20 hbx
  have HB := hide hbx
  have HK := hide hkx
  clear hbx hkx
  cases h1 : (p.epoch == 0) with
  | true =>
    go_wp2_with (first
      | (refine wpList_load_guard 30 _ rfl _ rfl 30 _ (0, 0) _ (unhide HB) Tryz.underlying30 rfl infoMail rfl ?_)
      | (go_at_call 74; refine (H0 _).mono ?_; rintro e w3 ⟨rfl, hz⟩; have hk := (unhide HK).step hz; have hb := (unhide HB).kept hz (by simp); clear HK HB; have HK := hide hk; have HB := hide hb; (try clear d0 d1 d2 d3 d4 d5 d6 d7 d8 d9 d10 d11 d12 d13 d14 d15 d16 d17 d18 d19); obtain ⟨d0, d1, d2, d3, d4, d5, d6, d7, d8, d9, d10, d11, d12, d13, d14, d15, d16, d17, d18, d19⟩ := box20 (unhide HB); clear hk hb hz))
    all_goals
      go_ret
      refine ⟨ret_bool ?_, (by first | exact unhide HK | exact (unhide HK).drew | exact (unhide HK).drewN _)⟩
      unfold noTrans
      clear d0 d1 d2 d3 d4 d5 d6 d7 d8 d9 d10 d11 d12 d13 d14 d15 d16 d17 d18 d19
      first
        | (simp_all; done)
        | (rw [Bool.eq_iff_iff]; simp_all [-List.length_eq_zero_iff]; done)
        | (rw [Bool.eq_iff_iff]; simp_all [-List.length_eq_zero_iff]; omega)
  | false =>
    go_wp2_with (first
      | (refine wpList_load_guard 30 _ rfl _ rfl 30 _ (0, 0) _ (unhide HB) Tryz.underlying30 rfl infoMail rfl ?_)
      | (go_at_call 74; refine (H0 _).mono ?_; rintro e w3 ⟨rfl, hz⟩; have hk := (unhide HK).step hz; have hb := (unhide HB).kept hz (by simp); clear HK HB; have HK := hide hk; have HB := hide hb; (try clear d0 d1 d2 d3 d4 d5 d6 d7 d8 d9 d10 d11 d12 d13 d14 d15 d16 d17 d18 d19); obtain ⟨d0, d1, d2, d3, d4, d5, d6, d7, d8, d9, d10, d11, d12, d13, d14, d15, d16, d17, d18, d19⟩ := box20 (unhide HB); clear hk hb hz))
    all_goals
      go_ret
      refine ⟨ret_bool ?_, (by first | exact unhide HK | exact (unhide HK).drew | exact (unhide HK).drewN _)⟩
      unfold noTrans
      clear d0 d1 d2 d3 d4 d5 d6 d7 d8 d9 d10 d11 d12 d13 d14 d15 d16 d17 d18 d19
      first
        | (simp_all; done)
        | (rw [Bool.eq_iff_iff]; simp_all [-List.length_eq_zero_iff]; done)
        | (rw [Bool.eq_iff_iff]; simp_all [-List.length_eq_zero_iff]; omega)
set_option maxRecDepth 100000 in
set_option maxHeartbeats 1600000 in
theorem hasNoVerd_any (w : World) (p : Ml) (l : Lm) : Calls Tryz.prog 70 #[mv p l] w fun e w' => e = .returned (.bool (noVerd p)) ∧ Kept [] w w' := by
  have H0 := fun W => isBlankAnswer_p W p l
  unfold mv
  go_enter Tryz.func70, Tryz.ntmps70
  go_upto_region 1 with fail
  refine world_at (R := fun X => Blk X w.heap.size (mcc p l) 30 ∧ Kept [] w X) ⟨Blk.new _ _ _, (Kept.refl [] w).alloc _⟩ ?_
  rintro X ⟨hbx, hkx⟩
  obtain ⟨d0, d1, d2, d3, d4, d5, d6, d7, d8, d9, d10, d11, d12, d13, d14, d15, d16, d17, d18, d19⟩ := box20 hbx
  have HB := hide hbx
  have HK := hide hkx
  clear hbx hkx
  cases h1 : (p.verd == 0) with
  | true =>
    cases h2 : ansB p with
    | true =>
      rw [h2] at H0
      go_wp2_with (first
        | (refine wpList_load_guard 30 _ rfl _ rfl 30 _ (0, 0) _ (unhide HB) Tryz.underlying30 rfl infoMail rfl ?_)
        | (go_at_call 85; refine (H0 _).mono ?_; rintro e w3 ⟨rfl, hz⟩; have hk := (unhide HK).step hz; have hb := (unhide HB).kept hz (by simp); clear HK HB; have HK := hide hk; have HB := hide hb; (try clear d0 d1 d2 d3 d4 d5 d6 d7 d8 d9 d10 d11 d12 d13 d14 d15 d16 d17 d18 d19); obtain ⟨d0, d1, d2, d3, d4, d5, d6, d7, d8, d9, d10, d11, d12, d13, d14, d15, d16, d17, d18, d19⟩ := box20 (unhide HB); clear hk hb hz))
      all_goals
        go_ret
        refine ⟨ret_bool ?_, (by first | exact unhide HK | exact (unhide HK).drew | exact (unhide HK).drewN _)⟩
        unfold noVerd
        clear d0 d1 d2 d3 d4 d5 d6 d7 d8 d9 d10 d11 d12 d13 d14 d15 d16 d17 d18 d19
        first
          | (simp_all; done)
          | (rw [Bool.eq_iff_iff]; simp_all [-List.length_eq_zero_iff]; done)
          | (rw [Bool.eq_iff_iff]; simp_all [-List.length_eq_zero_iff]; omega)
    | false =>
      rw [h2] at H0
      go_wp2_with (first
        | (refine wpList_load_guard 30 _ rfl _ rfl 30 _ (0, 0) _ (unhide HB) Tryz.underlying30 rfl infoMail rfl ?_)
        | (go_at_call 85; refine (H0 _).mono ?_; rintro e w3 ⟨rfl, hz⟩; have hk := (unhide HK).step hz; have hb := (unhide HB).kept hz (by simp); clear HK HB; have HK := hide hk; have HB := hide hb; (try clear d0 d1 d2 d3 d4 d5 d6 d7 d8 d9 d10 d11 d12 d13 d14 d15 d16 d17 d18 d19); obtain ⟨d0, d1, d2, d3, d4, d5, d6, d7, d8, d9, d10, d11, d12, d13, d14, d15, d16, d17, d18, d19⟩ := box20 (unhide HB); clear hk hb hz))
      all_goals
        go_ret
        refine ⟨ret_bool ?_, (by first | exact unhide HK | exact (unhide HK).drew | exact (unhide HK).drewN _)⟩
        unfold noVerd
        clear d0 d1 d2 d3 d4 d5 d6 d7 d8 d9 d10 d11 d12 d13 d14 d15 d16 d17 d18 d19
        first
          | (simp_all; done)
          | (rw [Bool.eq_iff_iff]; simp_all [-List.length_eq_zero_iff]; done)
          | (rw [Bool.eq_iff_iff]; simp_all [-List.length_eq_zero_iff]; omega)
  | false =>
    go_wp2_with (first
      | (refine wpList_load_guard 30 _ rfl _ rfl 30 _ (0, 0) _ (unhide HB) Tryz.underlying30 rfl infoMail rfl ?_)
      | (go_at_call 85; refine (H0 _).mono ?_; rintro e w3 ⟨rfl, hz⟩; have hk := (unhide HK).step hz; have hb := (unhide HB).kept hz (by simp); clear HK HB; have HK := hide hk; have HB := hide hb; (try clear d0 d1 d2 d3 d4 d5 d6 d7 d8 d9 d10 d11 d12 d13 d14 d15 d16 d17 d18 d19); obtain ⟨d0, d1, d2, d3, d4, d5, d6, d7, d8, d9, d10, d11, d12, d13, d14, d15, d16, d17, d18, d19⟩ := box20 (unhide HB); clear hk hb hz))
    all_goals
      go_ret
      refine ⟨ret_bool ?_, (by first | exact unhide HK | exact (unhide HK).drew | exact (unhide HK).drewN _)⟩
      unfold noVerd
      clear d0 d1 d2 d3 d4 d5 d6 d7 d8 d9 d10 d11 d12 d13 d14 d15 d16 d17 d18 d19
      first
        | (simp_all; done)
        | (rw [Bool.eq_iff_iff]; simp_all [-List.length_eq_zero_iff]; done)
        | (rw [Bool.eq_iff_iff]; simp_all [-List.length_eq_zero_iff]; omega)
set_option maxRecDepth 100000 in
set_option maxHeartbeats 1600000 in
theorem hasNoCall_any (w : World) (p : Ml) (l : Lm) : Calls Tryz.prog 75 #[mv p l] w fun e w' => e = .returned (.bool (noCall p)) ∧ Kept [] w w' := by
  have H0 := fun W => isBlankOp_p W p l
  have H1 := fun W => hasNoVerd_any W p l
  unfold mv
  go_enter Tryz.func75, Tryz.ntmps75
  go_upto_region 1 with fail
  refine world_at (R := fun X => Blk X w.heap.size (mcc p l) 30 ∧ Kept [] w X) ⟨Blk.new _ _ _, (Kept.refl [] w).alloc _⟩ ?_
  rintro X ⟨hbx, hkx⟩
  obtain ⟨d0, d1, d2, d3, d4, d5, d6, d7, d8, d9, d10, d11, d12, d13, d14, d15, d16, d17, d18, d19⟩ := box20 hbx
  have HB := hide hbx
  have HK := hide hkx
  clear hbx hkx
  cases h1 : (p.client == 0) with
  | true =>
    cases h2 : (p.seq == 0) with
    | true =>
      cases h3 : opB p with
      | true =>
        rw [h3] at H0
        go_wp2_with (first
          | (refine wpList_load_guard 30 _ rfl _ rfl 30 _ (0, 0) _ (unhide HB) Tryz.underlying30 rfl infoMail rfl ?_)
          | (go_at_call 72; refine (H0 _).mono ?_; rintro e w3 ⟨rfl, hz⟩; have hk := (unhide HK).step hz; have hb := (unhide HB).kept hz (by simp); clear HK HB; have HK := hide hk; have HB := hide hb; (try clear d0 d1 d2 d3 d4 d5 d6 d7 d8 d9 d10 d11 d12 d13 d14 d15 d16 d17 d18 d19); obtain ⟨d0, d1, d2, d3, d4, d5, d6, d7, d8, d9, d10, d11, d12, d13, d14, d15, d16, d17, d18, d19⟩ := box20 (unhide HB); clear hk hb hz)
          | (go_at_call 70; refine (H1 _).mono ?_; rintro e w3 ⟨rfl, hz⟩; have hk := (unhide HK).step hz; have hb := (unhide HB).kept hz (by simp); clear HK HB; have HK := hide hk; have HB := hide hb; (try clear d0 d1 d2 d3 d4 d5 d6 d7 d8 d9 d10 d11 d12 d13 d14 d15 d16 d17 d18 d19); obtain ⟨d0, d1, d2, d3, d4, d5, d6, d7, d8, d9, d10, d11, d12, d13, d14, d15, d16, d17, d18, d19⟩ := box20 (unhide HB); clear hk hb hz))
        all_goals
          go_ret
          refine ⟨ret_bool ?_, (by first | exact unhide HK | exact (unhide HK).drew | exact (unhide HK).drewN _)⟩
          unfold noCall
          clear d0 d1 d2 d3 d4 d5 d6 d7 d8 d9 d10 d11 d12 d13 d14 d15 d16 d17 d18 d19
          first
            | (simp_all; done)
            | (rw [Bool.eq_iff_iff]; simp_all [-List.length_eq_zero_iff]; done)
            | (rw [Bool.eq_iff_iff]; simp_all [-List.length_eq_zero_iff]; omega)
      | false =>
        rw [h3] at H0
        go_wp2_with (first
          | (refine wpList_load_guard 30 _ rfl _ rfl 30 _ (0, 0) _ (unhide HB) Tryz.underlying30 rfl infoMail rfl ?_)
          | (go_at_call 72; refine (H0 _).mono ?_; rintro e w3 ⟨rfl, hz⟩; have hk := (unhide HK).step hz; have hb := (unhide HB).kept hz (by simp); clear HK HB; have HK := hide hk; have HB := hide hb; (try clear d0 d1 d2 d3 d4 d5 d6 d7 d8 d9 d10 d11 d12 d13 d14 d15 d16 d17 d18 d19); obtain ⟨d0, d1, d2, d3, d4, d5, d6, d7, d8, d9, d10, d11, d12, d13, d14, d15, d16, d17, d18, d19⟩ := box20 (unhide HB); clear hk hb hz)
          | (go_at_call 70; refine (H1 _).mono ?_; rintro e w3 ⟨rfl, hz⟩; have hk := (unhide HK).step hz; have hb := (unhide HB).kept hz (by simp); clear HK HB; have HK := hide hk; have HB := hide hb; (try clear d0 d1 d2 d3 d4 d5 d6 d7 d8 d9 d10 d11 d12 d13 d14 d15 d16 d17 d18 d19); obtain ⟨d0, d1, d2, d3, d4, d5, d6, d7, d8, d9, d10, d11, d12, d13, d14, d15, d16, d17, d18, d19⟩ := box20 (unhide HB); clear hk hb hz))
        all_goals
          go_ret
          refine ⟨ret_bool ?_, (by first | exact unhide HK | exact (unhide HK).drew | exact (unhide HK).drewN _)⟩
          unfold noCall
          clear d0 d1 d2 d3 d4 d5 d6 d7 d8 d9 d10 d11 d12 d13 d14 d15 d16 d17 d18 d19
          first
            | (simp_all; done)
            | (rw [Bool.eq_iff_iff]; simp_all [-List.length_eq_zero_iff]; done)
            | (rw [Bool.eq_iff_iff]; simp_all [-List.length_eq_zero_iff]; omega)
    | false =>
      go_wp2_with (first
        | (refine wpList_load_guard 30 _ rfl _ rfl 30 _ (0, 0) _ (unhide HB) Tryz.underlying30 rfl infoMail rfl ?_)
        | (go_at_call 72; refine (H0 _).mono ?_; rintro e w3 ⟨rfl, hz⟩; have hk := (unhide HK).step hz; have hb := (unhide HB).kept hz (by simp); clear HK HB; have HK := hide hk; have HB := hide hb; (try clear d0 d1 d2 d3 d4 d5 d6 d7 d8 d9 d10 d11 d12 d13 d14 d15 d16 d17 d18 d19); obtain ⟨d0, d1, d2, d3, d4, d5, d6, d7, d8, d9, d10, d11, d12, d13, d14, d15, d16, d17, d18, d19⟩ := box20 (unhide HB); clear hk hb hz)
        | (go_at_call 70; refine (H1 _).mono ?_; rintro e w3 ⟨rfl, hz⟩; have hk := (unhide HK).step hz; have hb := (unhide HB).kept hz (by simp); clear HK HB; have HK := hide hk; have HB := hide hb; (try clear d0 d1 d2 d3 d4 d5 d6 d7 d8 d9 d10 d11 d12 d13 d14 d15 d16 d17 d18 d19); obtain ⟨d0, d1, d2, d3, d4, d5, d6, d7, d8, d9, d10, d11, d12, d13, d14, d15, d16, d17, d18, d19⟩ := box20 (unhide HB); clear hk hb hz))
      all_goals
        go_ret
        refine ⟨ret_bool ?_, (by first | exact unhide HK | exact (unhide HK).drew | exact (unhide HK).drewN _)⟩
        unfold noCall
        clear d0 d1 d2 d3 d4 d5 d6 d7 d8 d9 d10 d11 d12 d13 d14 d15 d16 d17 d18 d19
        first
          | (simp_all; done)
          | (rw [Bool.eq_iff_iff]; simp_all [-List.length_eq_zero_iff]; done)
          | (rw [Bool.eq_iff_iff]; simp_all [-List.length_eq_zero_iff]; omega)
  | false =>
    go_wp2_with (first
      | (refine wpList_load_guard 30 _ rfl _ rfl 30 _ (0, 0) _ (unhide HB) Tryz.underlying30 rfl infoMail rfl ?_)
      | (go_at_call 72; refine (H0 _).mono ?_; rintro e w3 ⟨rfl, hz⟩; have hk := (unhide HK).step hz; have hb := (unhide HB).kept hz (by simp); clear HK HB; have HK := hide hk; have HB := hide hb; (try clear d0 d1 d2 d3 d4 d5 d6 d7 d8 d9 d10 d11 d12 d13 d14 d15 d16 d17 d18 d19); obtain ⟨d0, d1, d2, d3, d4, d5, d6, d7, d8, d9, d10, d11, d12, d13, d14, d15, d16, d17, d18, d19⟩ := box20 (unhide HB); clear hk hb hz)
      | (go_at_call 70; refine (H1 _).mono ?_; rintro e w3 ⟨rfl, hz⟩; have hk := (unhide HK).step hz; have hb := (unhide HB).kept hz (by simp); clear HK HB; have HK := hide hk; have HB := hide hb; (try clear d0 d1 d2 d3 d4 d5 d6 d7 d8 d9 d10 d11 d12 d13 d14 d15 d16 d17 d18 d19); obtain ⟨d0, d1, d2, d3, d4, d5, d6, d7, d8, d9, d10, d11, d12, d13, d14, d15, d16, d17, d18, d19⟩ := box20 (unhide HB); clear hk hb hz))
    all_goals
      go_ret
      refine ⟨ret_bool ?_, (by first | exact unhide HK | exact (unhide HK).drew | exact (unhide HK).drewN _)⟩
      unfold noCall
      clear d0 d1 d2 d3 d4 d5 d6 d7 d8 d9 d10 d11 d12 d13 d14 d15 d16 d17 d18 d19
      first
        | (simp_all; done)
        | (rw [Bool.eq_iff_iff]; simp_all [-List.length_eq_zero_iff]; done)
        | (rw [Bool.eq_iff_iff]; simp_all [-List.length_eq_zero_iff]; omega)
end Go.Proofs.YtfhfkpgfnlmfhaaGreatDoor

/- Sound: the kinds. -/
namespace Go.Proofs.YtfhfkpgfnlmfhaaGreatDoor
open Go.RowKit

set_option maxRecDepth 100000 in
set_option maxHeartbeats 1600000 in
theorem sVerd_any (w : World) (p : Ml) (l : Lm) : Calls Tryz.prog 73 #[mv p l] w fun e w' => e = .returned (.bool (sVerd p)) ∧ Kept [] w w' := by
  have H0 := fun W => isBlankAnswer_p W p l
  have H1 := fun W => isFit_p W p l
  have H2 := fun W => isServer_any W p.hint
  have HF := fun (h : ansB p = true) => fit_bla h
  unfold mv
  go_enter Tryz.func73, Tryz.ntmps73
  go_upto_region 1 with fail
  refine world_at (R := fun X => Blk X w.heap.size (mcc p l) 30 ∧ Kept [] w X) ⟨Blk.new _ _ _, (Kept.refl [] w).alloc _⟩ ?_
  rintro X ⟨hbx, hkx⟩
  obtain ⟨d0, d1, d2, d3, d4, d5, d6, d7, d8, d9, d10, d11, d12, d13, d14, d15, d16, d17, d18, d19⟩ := box20 hbx
  have HB := hide hbx
  have HK := hide hkx
  clear hbx hkx
  have HB2 : Hid (Blk (X.setCell ⟨w.heap.size, 19, none⟩ (.int .i64 0)) w.heap.size (mcc { p with hint := 0 } l) 30) := (unhide HB).set 19 (.int .i64 0)
  have HK2 : Hid (Kept [] w (X.setCell ⟨w.heap.size, 19, none⟩ (.int .i64 0))) := (unhide HK).setCell (Or.inr (Nat.le_refl _)) _
  have f19 := (unhide HB).frozen 19
  by_cases v220 : p.verd = 220
  · cases h1 : srv p.hint with
    | true =>
      rw [h1] at H2
      cases h2 : ansB p with
      | true =>
        rw [h2] at H0
        clear HB HK
        have HB := HB2
        have HK := HK2
        rw [HF h2] at H1
        go_wp2_with (first
          | (refine wpList_load_guard 30 _ rfl _ rfl 30 _ (0, 0) _ (unhide HB) Tryz.underlying30 rfl infoMail rfl ?_)
          | (go_at_call 67; refine (H2 _).mono ?_; rintro e w3 ⟨rfl, hz⟩; have hz2 := hz.symm; subst hz2; clear hz)
          | (go_at_call 85; refine (H0 _).mono ?_; rintro e w3 ⟨rfl, hz⟩; have hk := (unhide HK).step hz; have hb := (unhide HB).kept hz (by simp); clear HK HB; have HK := hide hk; have HB := hide hb; (try clear d0 d1 d2 d3 d4 d5 d6 d7 d8 d9 d10 d11 d12 d13 d14 d15 d16 d17 d18 d19); obtain ⟨d0, d1, d2, d3, d4, d5, d6, d7, d8, d9, d10, d11, d12, d13, d14, d15, d16, d17, d18, d19⟩ := box20 (unhide HB); clear hk hb hz)
          | (go_at_call 86; refine (H1 _).mono ?_; rintro e w3 ⟨rfl, hz⟩; have hk := (unhide HK).step hz; have hb := (unhide HB).kept hz (by simp); clear HK HB; have HK := hide hk; have HB := hide hb; (try clear d0 d1 d2 d3 d4 d5 d6 d7 d8 d9 d10 d11 d12 d13 d14 d15 d16 d17 d18 d19); obtain ⟨d0, d1, d2, d3, d4, d5, d6, d7, d8, d9, d10, d11, d12, d13, d14, d15, d16, d17, d18, d19⟩ := box20 (unhide HB); clear hk hb hz))
        all_goals
          go_ret
          refine ⟨ret_bool ?_, (by first | exact unhide HK | exact (unhide HK).drew | exact (unhide HK).drewN _)⟩
          unfold sVerd
          clear d0 d1 d2 d3 d4 d5 d6 d7 d8 d9 d10 d11 d12 d13 d14 d15 d16 d17 d18 d19
          first
            | (simp_all; done)
            | (rw [Bool.eq_iff_iff]; simp_all [-List.length_eq_zero_iff]; done)
            | (rw [Bool.eq_iff_iff]; simp_all [-List.length_eq_zero_iff]; omega)
      | false =>
        rw [h2] at H0
        clear HB HK
        have HB := HB2
        have HK := HK2
        go_wp2_with (first
          | (refine wpList_load_guard 30 _ rfl _ rfl 30 _ (0, 0) _ (unhide HB) Tryz.underlying30 rfl infoMail rfl ?_)
          | (go_at_call 67; refine (H2 _).mono ?_; rintro e w3 ⟨rfl, hz⟩; have hz2 := hz.symm; subst hz2; clear hz)
          | (go_at_call 85; refine (H0 _).mono ?_; rintro e w3 ⟨rfl, hz⟩; have hk := (unhide HK).step hz; have hb := (unhide HB).kept hz (by simp); clear HK HB; have HK := hide hk; have HB := hide hb; (try clear d0 d1 d2 d3 d4 d5 d6 d7 d8 d9 d10 d11 d12 d13 d14 d15 d16 d17 d18 d19); obtain ⟨d0, d1, d2, d3, d4, d5, d6, d7, d8, d9, d10, d11, d12, d13, d14, d15, d16, d17, d18, d19⟩ := box20 (unhide HB); clear hk hb hz)
          | (go_at_call 86; refine (H1 _).mono ?_; rintro e w3 ⟨rfl, hz⟩; have hk := (unhide HK).step hz; have hb := (unhide HB).kept hz (by simp); clear HK HB; have HK := hide hk; have HB := hide hb; (try clear d0 d1 d2 d3 d4 d5 d6 d7 d8 d9 d10 d11 d12 d13 d14 d15 d16 d17 d18 d19); obtain ⟨d0, d1, d2, d3, d4, d5, d6, d7, d8, d9, d10, d11, d12, d13, d14, d15, d16, d17, d18, d19⟩ := box20 (unhide HB); clear hk hb hz))
        all_goals
          go_ret
          refine ⟨ret_bool ?_, (by first | exact unhide HK | exact (unhide HK).drew | exact (unhide HK).drewN _)⟩
          unfold sVerd
          clear d0 d1 d2 d3 d4 d5 d6 d7 d8 d9 d10 d11 d12 d13 d14 d15 d16 d17 d18 d19
          first
            | (simp_all; done)
            | (rw [Bool.eq_iff_iff]; simp_all [-List.length_eq_zero_iff]; done)
            | (rw [Bool.eq_iff_iff]; simp_all [-List.length_eq_zero_iff]; omega)
    | false =>
      rw [h1] at H2
      go_wp2_with (first
        | (refine wpList_load_guard 30 _ rfl _ rfl 30 _ (0, 0) _ (unhide HB) Tryz.underlying30 rfl infoMail rfl ?_)
        | (go_at_call 67; refine (H2 _).mono ?_; rintro e w3 ⟨rfl, hz⟩; have hz2 := hz.symm; subst hz2; clear hz)
        | (go_at_call 85; refine (H0 _).mono ?_; rintro e w3 ⟨rfl, hz⟩; have hk := (unhide HK).step hz; have hb := (unhide HB).kept hz (by simp); clear HK HB; have HK := hide hk; have HB := hide hb; (try clear d0 d1 d2 d3 d4 d5 d6 d7 d8 d9 d10 d11 d12 d13 d14 d15 d16 d17 d18 d19); obtain ⟨d0, d1, d2, d3, d4, d5, d6, d7, d8, d9, d10, d11, d12, d13, d14, d15, d16, d17, d18, d19⟩ := box20 (unhide HB); clear hk hb hz)
        | (go_at_call 86; refine (H1 _).mono ?_; rintro e w3 ⟨rfl, hz⟩; have hk := (unhide HK).step hz; have hb := (unhide HB).kept hz (by simp); clear HK HB; have HK := hide hk; have HB := hide hb; (try clear d0 d1 d2 d3 d4 d5 d6 d7 d8 d9 d10 d11 d12 d13 d14 d15 d16 d17 d18 d19); obtain ⟨d0, d1, d2, d3, d4, d5, d6, d7, d8, d9, d10, d11, d12, d13, d14, d15, d16, d17, d18, d19⟩ := box20 (unhide HB); clear hk hb hz))
      all_goals
        go_ret
        refine ⟨ret_bool ?_, (by first | exact unhide HK | exact (unhide HK).drew | exact (unhide HK).drewN _)⟩
        unfold sVerd
        clear d0 d1 d2 d3 d4 d5 d6 d7 d8 d9 d10 d11 d12 d13 d14 d15 d16 d17 d18 d19
        first
          | (simp_all; done)
          | (rw [Bool.eq_iff_iff]; simp_all [-List.length_eq_zero_iff]; done)
          | (rw [Bool.eq_iff_iff]; simp_all [-List.length_eq_zero_iff]; omega)
  by_cases v221 : p.verd = 221
  · cases h1 : srv p.hint with
    | true =>
      rw [h1] at H2
      cases h2 : ansB p with
      | true =>
        rw [h2] at H0
        clear HB HK
        have HB := HB2
        have HK := HK2
        rw [HF h2] at H1
        go_wp2_with (first
          | (refine wpList_load_guard 30 _ rfl _ rfl 30 _ (0, 0) _ (unhide HB) Tryz.underlying30 rfl infoMail rfl ?_)
          | (go_at_call 67; refine (H2 _).mono ?_; rintro e w3 ⟨rfl, hz⟩; have hz2 := hz.symm; subst hz2; clear hz)
          | (go_at_call 85; refine (H0 _).mono ?_; rintro e w3 ⟨rfl, hz⟩; have hk := (unhide HK).step hz; have hb := (unhide HB).kept hz (by simp); clear HK HB; have HK := hide hk; have HB := hide hb; (try clear d0 d1 d2 d3 d4 d5 d6 d7 d8 d9 d10 d11 d12 d13 d14 d15 d16 d17 d18 d19); obtain ⟨d0, d1, d2, d3, d4, d5, d6, d7, d8, d9, d10, d11, d12, d13, d14, d15, d16, d17, d18, d19⟩ := box20 (unhide HB); clear hk hb hz)
          | (go_at_call 86; refine (H1 _).mono ?_; rintro e w3 ⟨rfl, hz⟩; have hk := (unhide HK).step hz; have hb := (unhide HB).kept hz (by simp); clear HK HB; have HK := hide hk; have HB := hide hb; (try clear d0 d1 d2 d3 d4 d5 d6 d7 d8 d9 d10 d11 d12 d13 d14 d15 d16 d17 d18 d19); obtain ⟨d0, d1, d2, d3, d4, d5, d6, d7, d8, d9, d10, d11, d12, d13, d14, d15, d16, d17, d18, d19⟩ := box20 (unhide HB); clear hk hb hz))
        all_goals
          go_ret
          refine ⟨ret_bool ?_, (by first | exact unhide HK | exact (unhide HK).drew | exact (unhide HK).drewN _)⟩
          unfold sVerd
          clear d0 d1 d2 d3 d4 d5 d6 d7 d8 d9 d10 d11 d12 d13 d14 d15 d16 d17 d18 d19
          first
            | (simp_all; done)
            | (rw [Bool.eq_iff_iff]; simp_all [-List.length_eq_zero_iff]; done)
            | (rw [Bool.eq_iff_iff]; simp_all [-List.length_eq_zero_iff]; omega)
      | false =>
        rw [h2] at H0
        clear HB HK
        have HB := HB2
        have HK := HK2
        go_wp2_with (first
          | (refine wpList_load_guard 30 _ rfl _ rfl 30 _ (0, 0) _ (unhide HB) Tryz.underlying30 rfl infoMail rfl ?_)
          | (go_at_call 67; refine (H2 _).mono ?_; rintro e w3 ⟨rfl, hz⟩; have hz2 := hz.symm; subst hz2; clear hz)
          | (go_at_call 85; refine (H0 _).mono ?_; rintro e w3 ⟨rfl, hz⟩; have hk := (unhide HK).step hz; have hb := (unhide HB).kept hz (by simp); clear HK HB; have HK := hide hk; have HB := hide hb; (try clear d0 d1 d2 d3 d4 d5 d6 d7 d8 d9 d10 d11 d12 d13 d14 d15 d16 d17 d18 d19); obtain ⟨d0, d1, d2, d3, d4, d5, d6, d7, d8, d9, d10, d11, d12, d13, d14, d15, d16, d17, d18, d19⟩ := box20 (unhide HB); clear hk hb hz)
          | (go_at_call 86; refine (H1 _).mono ?_; rintro e w3 ⟨rfl, hz⟩; have hk := (unhide HK).step hz; have hb := (unhide HB).kept hz (by simp); clear HK HB; have HK := hide hk; have HB := hide hb; (try clear d0 d1 d2 d3 d4 d5 d6 d7 d8 d9 d10 d11 d12 d13 d14 d15 d16 d17 d18 d19); obtain ⟨d0, d1, d2, d3, d4, d5, d6, d7, d8, d9, d10, d11, d12, d13, d14, d15, d16, d17, d18, d19⟩ := box20 (unhide HB); clear hk hb hz))
        all_goals
          go_ret
          refine ⟨ret_bool ?_, (by first | exact unhide HK | exact (unhide HK).drew | exact (unhide HK).drewN _)⟩
          unfold sVerd
          clear d0 d1 d2 d3 d4 d5 d6 d7 d8 d9 d10 d11 d12 d13 d14 d15 d16 d17 d18 d19
          first
            | (simp_all; done)
            | (rw [Bool.eq_iff_iff]; simp_all [-List.length_eq_zero_iff]; done)
            | (rw [Bool.eq_iff_iff]; simp_all [-List.length_eq_zero_iff]; omega)
    | false =>
      rw [h1] at H2
      go_wp2_with (first
        | (refine wpList_load_guard 30 _ rfl _ rfl 30 _ (0, 0) _ (unhide HB) Tryz.underlying30 rfl infoMail rfl ?_)
        | (go_at_call 67; refine (H2 _).mono ?_; rintro e w3 ⟨rfl, hz⟩; have hz2 := hz.symm; subst hz2; clear hz)
        | (go_at_call 85; refine (H0 _).mono ?_; rintro e w3 ⟨rfl, hz⟩; have hk := (unhide HK).step hz; have hb := (unhide HB).kept hz (by simp); clear HK HB; have HK := hide hk; have HB := hide hb; (try clear d0 d1 d2 d3 d4 d5 d6 d7 d8 d9 d10 d11 d12 d13 d14 d15 d16 d17 d18 d19); obtain ⟨d0, d1, d2, d3, d4, d5, d6, d7, d8, d9, d10, d11, d12, d13, d14, d15, d16, d17, d18, d19⟩ := box20 (unhide HB); clear hk hb hz)
        | (go_at_call 86; refine (H1 _).mono ?_; rintro e w3 ⟨rfl, hz⟩; have hk := (unhide HK).step hz; have hb := (unhide HB).kept hz (by simp); clear HK HB; have HK := hide hk; have HB := hide hb; (try clear d0 d1 d2 d3 d4 d5 d6 d7 d8 d9 d10 d11 d12 d13 d14 d15 d16 d17 d18 d19); obtain ⟨d0, d1, d2, d3, d4, d5, d6, d7, d8, d9, d10, d11, d12, d13, d14, d15, d16, d17, d18, d19⟩ := box20 (unhide HB); clear hk hb hz))
      all_goals
        go_ret
        refine ⟨ret_bool ?_, (by first | exact unhide HK | exact (unhide HK).drew | exact (unhide HK).drewN _)⟩
        unfold sVerd
        clear d0 d1 d2 d3 d4 d5 d6 d7 d8 d9 d10 d11 d12 d13 d14 d15 d16 d17 d18 d19
        first
          | (simp_all; done)
          | (rw [Bool.eq_iff_iff]; simp_all [-List.length_eq_zero_iff]; done)
          | (rw [Bool.eq_iff_iff]; simp_all [-List.length_eq_zero_iff]; omega)
  by_cases v181 : p.verd = 181
  · cases h2 : ansB p with
    | true =>
      rw [h2] at H0
      rw [HF h2] at H1
      go_wp2_with (first
        | (refine wpList_load_guard 30 _ rfl _ rfl 30 _ (0, 0) _ (unhide HB) Tryz.underlying30 rfl infoMail rfl ?_)
        | (go_at_call 67; refine (H2 _).mono ?_; rintro e w3 ⟨rfl, hz⟩; have hz2 := hz.symm; subst hz2; clear hz)
        | (go_at_call 85; refine (H0 _).mono ?_; rintro e w3 ⟨rfl, hz⟩; have hk := (unhide HK).step hz; have hb := (unhide HB).kept hz (by simp); clear HK HB; have HK := hide hk; have HB := hide hb; (try clear d0 d1 d2 d3 d4 d5 d6 d7 d8 d9 d10 d11 d12 d13 d14 d15 d16 d17 d18 d19); obtain ⟨d0, d1, d2, d3, d4, d5, d6, d7, d8, d9, d10, d11, d12, d13, d14, d15, d16, d17, d18, d19⟩ := box20 (unhide HB); clear hk hb hz)
        | (go_at_call 86; refine (H1 _).mono ?_; rintro e w3 ⟨rfl, hz⟩; have hk := (unhide HK).step hz; have hb := (unhide HB).kept hz (by simp); clear HK HB; have HK := hide hk; have HB := hide hb; (try clear d0 d1 d2 d3 d4 d5 d6 d7 d8 d9 d10 d11 d12 d13 d14 d15 d16 d17 d18 d19); obtain ⟨d0, d1, d2, d3, d4, d5, d6, d7, d8, d9, d10, d11, d12, d13, d14, d15, d16, d17, d18, d19⟩ := box20 (unhide HB); clear hk hb hz))
      all_goals
        go_ret
        refine ⟨ret_bool ?_, (by first | exact unhide HK | exact (unhide HK).drew | exact (unhide HK).drewN _)⟩
        unfold sVerd
        clear d0 d1 d2 d3 d4 d5 d6 d7 d8 d9 d10 d11 d12 d13 d14 d15 d16 d17 d18 d19
        first
          | (simp_all; done)
          | (rw [Bool.eq_iff_iff]; simp_all [-List.length_eq_zero_iff]; done)
          | (rw [Bool.eq_iff_iff]; simp_all [-List.length_eq_zero_iff]; omega)
    | false =>
      rw [h2] at H0
      go_wp2_with (first
        | (refine wpList_load_guard 30 _ rfl _ rfl 30 _ (0, 0) _ (unhide HB) Tryz.underlying30 rfl infoMail rfl ?_)
        | (go_at_call 67; refine (H2 _).mono ?_; rintro e w3 ⟨rfl, hz⟩; have hz2 := hz.symm; subst hz2; clear hz)
        | (go_at_call 85; refine (H0 _).mono ?_; rintro e w3 ⟨rfl, hz⟩; have hk := (unhide HK).step hz; have hb := (unhide HB).kept hz (by simp); clear HK HB; have HK := hide hk; have HB := hide hb; (try clear d0 d1 d2 d3 d4 d5 d6 d7 d8 d9 d10 d11 d12 d13 d14 d15 d16 d17 d18 d19); obtain ⟨d0, d1, d2, d3, d4, d5, d6, d7, d8, d9, d10, d11, d12, d13, d14, d15, d16, d17, d18, d19⟩ := box20 (unhide HB); clear hk hb hz)
        | (go_at_call 86; refine (H1 _).mono ?_; rintro e w3 ⟨rfl, hz⟩; have hk := (unhide HK).step hz; have hb := (unhide HB).kept hz (by simp); clear HK HB; have HK := hide hk; have HB := hide hb; (try clear d0 d1 d2 d3 d4 d5 d6 d7 d8 d9 d10 d11 d12 d13 d14 d15 d16 d17 d18 d19); obtain ⟨d0, d1, d2, d3, d4, d5, d6, d7, d8, d9, d10, d11, d12, d13, d14, d15, d16, d17, d18, d19⟩ := box20 (unhide HB); clear hk hb hz))
      all_goals
        go_ret
        refine ⟨ret_bool ?_, (by first | exact unhide HK | exact (unhide HK).drew | exact (unhide HK).drewN _)⟩
        unfold sVerd
        clear d0 d1 d2 d3 d4 d5 d6 d7 d8 d9 d10 d11 d12 d13 d14 d15 d16 d17 d18 d19
        first
          | (simp_all; done)
          | (rw [Bool.eq_iff_iff]; simp_all [-List.length_eq_zero_iff]; done)
          | (rw [Bool.eq_iff_iff]; simp_all [-List.length_eq_zero_iff]; omega)
  by_cases v182 : p.verd = 182
  · cases h2 : ansB p with
    | true =>
      rw [h2] at H0
      rw [HF h2] at H1
      go_wp2_with (first
        | (refine wpList_load_guard 30 _ rfl _ rfl 30 _ (0, 0) _ (unhide HB) Tryz.underlying30 rfl infoMail rfl ?_)
        | (go_at_call 67; refine (H2 _).mono ?_; rintro e w3 ⟨rfl, hz⟩; have hz2 := hz.symm; subst hz2; clear hz)
        | (go_at_call 85; refine (H0 _).mono ?_; rintro e w3 ⟨rfl, hz⟩; have hk := (unhide HK).step hz; have hb := (unhide HB).kept hz (by simp); clear HK HB; have HK := hide hk; have HB := hide hb; (try clear d0 d1 d2 d3 d4 d5 d6 d7 d8 d9 d10 d11 d12 d13 d14 d15 d16 d17 d18 d19); obtain ⟨d0, d1, d2, d3, d4, d5, d6, d7, d8, d9, d10, d11, d12, d13, d14, d15, d16, d17, d18, d19⟩ := box20 (unhide HB); clear hk hb hz)
        | (go_at_call 86; refine (H1 _).mono ?_; rintro e w3 ⟨rfl, hz⟩; have hk := (unhide HK).step hz; have hb := (unhide HB).kept hz (by simp); clear HK HB; have HK := hide hk; have HB := hide hb; (try clear d0 d1 d2 d3 d4 d5 d6 d7 d8 d9 d10 d11 d12 d13 d14 d15 d16 d17 d18 d19); obtain ⟨d0, d1, d2, d3, d4, d5, d6, d7, d8, d9, d10, d11, d12, d13, d14, d15, d16, d17, d18, d19⟩ := box20 (unhide HB); clear hk hb hz))
      all_goals
        go_ret
        refine ⟨ret_bool ?_, (by first | exact unhide HK | exact (unhide HK).drew | exact (unhide HK).drewN _)⟩
        unfold sVerd
        clear d0 d1 d2 d3 d4 d5 d6 d7 d8 d9 d10 d11 d12 d13 d14 d15 d16 d17 d18 d19
        first
          | (simp_all; done)
          | (rw [Bool.eq_iff_iff]; simp_all [-List.length_eq_zero_iff]; done)
          | (rw [Bool.eq_iff_iff]; simp_all [-List.length_eq_zero_iff]; omega)
    | false =>
      rw [h2] at H0
      go_wp2_with (first
        | (refine wpList_load_guard 30 _ rfl _ rfl 30 _ (0, 0) _ (unhide HB) Tryz.underlying30 rfl infoMail rfl ?_)
        | (go_at_call 67; refine (H2 _).mono ?_; rintro e w3 ⟨rfl, hz⟩; have hz2 := hz.symm; subst hz2; clear hz)
        | (go_at_call 85; refine (H0 _).mono ?_; rintro e w3 ⟨rfl, hz⟩; have hk := (unhide HK).step hz; have hb := (unhide HB).kept hz (by simp); clear HK HB; have HK := hide hk; have HB := hide hb; (try clear d0 d1 d2 d3 d4 d5 d6 d7 d8 d9 d10 d11 d12 d13 d14 d15 d16 d17 d18 d19); obtain ⟨d0, d1, d2, d3, d4, d5, d6, d7, d8, d9, d10, d11, d12, d13, d14, d15, d16, d17, d18, d19⟩ := box20 (unhide HB); clear hk hb hz)
        | (go_at_call 86; refine (H1 _).mono ?_; rintro e w3 ⟨rfl, hz⟩; have hk := (unhide HK).step hz; have hb := (unhide HB).kept hz (by simp); clear HK HB; have HK := hide hk; have HB := hide hb; (try clear d0 d1 d2 d3 d4 d5 d6 d7 d8 d9 d10 d11 d12 d13 d14 d15 d16 d17 d18 d19); obtain ⟨d0, d1, d2, d3, d4, d5, d6, d7, d8, d9, d10, d11, d12, d13, d14, d15, d16, d17, d18, d19⟩ := box20 (unhide HB); clear hk hb hz))
      all_goals
        go_ret
        refine ⟨ret_bool ?_, (by first | exact unhide HK | exact (unhide HK).drew | exact (unhide HK).drewN _)⟩
        unfold sVerd
        clear d0 d1 d2 d3 d4 d5 d6 d7 d8 d9 d10 d11 d12 d13 d14 d15 d16 d17 d18 d19
        first
          | (simp_all; done)
          | (rw [Bool.eq_iff_iff]; simp_all [-List.length_eq_zero_iff]; done)
          | (rw [Bool.eq_iff_iff]; simp_all [-List.length_eq_zero_iff]; omega)
  by_cases v0 : p.verd = 0
  · cases h2 : fitB p with
    | true =>
      rw [h2] at H1
      go_wp2_with (first
        | (refine wpList_load_guard 30 _ rfl _ rfl 30 _ (0, 0) _ (unhide HB) Tryz.underlying30 rfl infoMail rfl ?_)
        | (go_at_call 67; refine (H2 _).mono ?_; rintro e w3 ⟨rfl, hz⟩; have hz2 := hz.symm; subst hz2; clear hz)
        | (go_at_call 85; refine (H0 _).mono ?_; rintro e w3 ⟨rfl, hz⟩; have hk := (unhide HK).step hz; have hb := (unhide HB).kept hz (by simp); clear HK HB; have HK := hide hk; have HB := hide hb; (try clear d0 d1 d2 d3 d4 d5 d6 d7 d8 d9 d10 d11 d12 d13 d14 d15 d16 d17 d18 d19); obtain ⟨d0, d1, d2, d3, d4, d5, d6, d7, d8, d9, d10, d11, d12, d13, d14, d15, d16, d17, d18, d19⟩ := box20 (unhide HB); clear hk hb hz)
        | (go_at_call 86; refine (H1 _).mono ?_; rintro e w3 ⟨rfl, hz⟩; have hk := (unhide HK).step hz; have hb := (unhide HB).kept hz (by simp); clear HK HB; have HK := hide hk; have HB := hide hb; (try clear d0 d1 d2 d3 d4 d5 d6 d7 d8 d9 d10 d11 d12 d13 d14 d15 d16 d17 d18 d19); obtain ⟨d0, d1, d2, d3, d4, d5, d6, d7, d8, d9, d10, d11, d12, d13, d14, d15, d16, d17, d18, d19⟩ := box20 (unhide HB); clear hk hb hz))
      all_goals
        go_ret
        refine ⟨ret_bool ?_, (by first | exact unhide HK | exact (unhide HK).drew | exact (unhide HK).drewN _)⟩
        unfold sVerd
        clear d0 d1 d2 d3 d4 d5 d6 d7 d8 d9 d10 d11 d12 d13 d14 d15 d16 d17 d18 d19
        first
          | (simp_all; done)
          | (rw [Bool.eq_iff_iff]; simp_all [-List.length_eq_zero_iff]; done)
          | (rw [Bool.eq_iff_iff]; simp_all [-List.length_eq_zero_iff]; omega)
    | false =>
      rw [h2] at H1
      go_wp2_with (first
        | (refine wpList_load_guard 30 _ rfl _ rfl 30 _ (0, 0) _ (unhide HB) Tryz.underlying30 rfl infoMail rfl ?_)
        | (go_at_call 67; refine (H2 _).mono ?_; rintro e w3 ⟨rfl, hz⟩; have hz2 := hz.symm; subst hz2; clear hz)
        | (go_at_call 85; refine (H0 _).mono ?_; rintro e w3 ⟨rfl, hz⟩; have hk := (unhide HK).step hz; have hb := (unhide HB).kept hz (by simp); clear HK HB; have HK := hide hk; have HB := hide hb; (try clear d0 d1 d2 d3 d4 d5 d6 d7 d8 d9 d10 d11 d12 d13 d14 d15 d16 d17 d18 d19); obtain ⟨d0, d1, d2, d3, d4, d5, d6, d7, d8, d9, d10, d11, d12, d13, d14, d15, d16, d17, d18, d19⟩ := box20 (unhide HB); clear hk hb hz)
        | (go_at_call 86; refine (H1 _).mono ?_; rintro e w3 ⟨rfl, hz⟩; have hk := (unhide HK).step hz; have hb := (unhide HB).kept hz (by simp); clear HK HB; have HK := hide hk; have HB := hide hb; (try clear d0 d1 d2 d3 d4 d5 d6 d7 d8 d9 d10 d11 d12 d13 d14 d15 d16 d17 d18 d19); obtain ⟨d0, d1, d2, d3, d4, d5, d6, d7, d8, d9, d10, d11, d12, d13, d14, d15, d16, d17, d18, d19⟩ := box20 (unhide HB); clear hk hb hz))
      all_goals
        go_ret
        refine ⟨ret_bool ?_, (by first | exact unhide HK | exact (unhide HK).drew | exact (unhide HK).drewN _)⟩
        unfold sVerd
        clear d0 d1 d2 d3 d4 d5 d6 d7 d8 d9 d10 d11 d12 d13 d14 d15 d16 d17 d18 d19
        first
          | (simp_all; done)
          | (rw [Bool.eq_iff_iff]; simp_all [-List.length_eq_zero_iff]; done)
          | (rw [Bool.eq_iff_iff]; simp_all [-List.length_eq_zero_iff]; omega)
  go_wp2_with (first
    | (refine wpList_load_guard 30 _ rfl _ rfl 30 _ (0, 0) _ (unhide HB) Tryz.underlying30 rfl infoMail rfl ?_)
    | (go_at_call 67; refine (H2 _).mono ?_; rintro e w3 ⟨rfl, hz⟩; have hz2 := hz.symm; subst hz2; clear hz)
    | (go_at_call 85; refine (H0 _).mono ?_; rintro e w3 ⟨rfl, hz⟩; have hk := (unhide HK).step hz; have hb := (unhide HB).kept hz (by simp); clear HK HB; have HK := hide hk; have HB := hide hb; (try clear d0 d1 d2 d3 d4 d5 d6 d7 d8 d9 d10 d11 d12 d13 d14 d15 d16 d17 d18 d19); obtain ⟨d0, d1, d2, d3, d4, d5, d6, d7, d8, d9, d10, d11, d12, d13, d14, d15, d16, d17, d18, d19⟩ := box20 (unhide HB); clear hk hb hz)
    | (go_at_call 86; refine (H1 _).mono ?_; rintro e w3 ⟨rfl, hz⟩; have hk := (unhide HK).step hz; have hb := (unhide HB).kept hz (by simp); clear HK HB; have HK := hide hk; have HB := hide hb; (try clear d0 d1 d2 d3 d4 d5 d6 d7 d8 d9 d10 d11 d12 d13 d14 d15 d16 d17 d18 d19); obtain ⟨d0, d1, d2, d3, d4, d5, d6, d7, d8, d9, d10, d11, d12, d13, d14, d15, d16, d17, d18, d19⟩ := box20 (unhide HB); clear hk hb hz))
  all_goals
    go_ret
    refine ⟨ret_bool ?_, (by first | exact unhide HK | exact (unhide HK).drew | exact (unhide HK).drewN _)⟩
    unfold sVerd
    clear d0 d1 d2 d3 d4 d5 d6 d7 d8 d9 d10 d11 d12 d13 d14 d15 d16 d17 d18 d19
    first
      | (simp_all; done)
      | (rw [Bool.eq_iff_iff]; simp_all [-List.length_eq_zero_iff]; done)
      | (rw [Bool.eq_iff_iff]; simp_all [-List.length_eq_zero_iff]; omega)
end Go.Proofs.YtfhfkpgfnlmfhaaGreatDoor

/- Sound: kind 1. -/
namespace Go.Proofs.YtfhfkpgfnlmfhaaGreatDoor
open Go.RowKit

set_option maxRecDepth 100000 in
set_option maxHeartbeats 3200000 in
theorem sKind_1 (w : World) (p : Ml) (l : Lm) (hk0 : p.kind = 1) : Calls Tryz.prog 48 #[mv p l] w fun e w' => e = .returned (.bool (sKind p)) ∧ Kept [] w w' := by
  have Hcf := fun W => isClient_any W p.client p.frm
  have Hsd := fun W => isServer_any W p.dst
  have Hsq := fun W => isSeq_any W p.seq
  have Hrg := fun W => right_p W p l
  have Hnv := fun W => hasNoVerd_any W p l
  have Hnt := fun W => hasNoTrans_any W p l
  unfold mv
  go_enter Tryz.func48, Tryz.ntmps48
  go_upto_region 1 with fail
  refine world_at (R := fun X => Blk X w.heap.size (mcc p l) 30 ∧ Kept [] w X) ⟨Blk.new _ _ _, (Kept.refl [] w).alloc _⟩ ?_
  rintro X ⟨hbx, hkx⟩
  obtain ⟨d0, d1, d2, d3, d4, d5, d6, d7, d8, d9, d10, d11, d12, d13, d14, d15, d16, d17, d18, d19⟩ := box20 hbx
  have HB := hide hbx
  have HK := hide hkx
  clear hbx hkx
  cases h1 : cli p.client p.frm with
  | true =>
    rw [h1] at Hcf
    cases h2 : srv p.dst with
    | true =>
      rw [h2] at Hsd
      cases h3 : seqB p.seq with
      | true =>
        rw [h3] at Hsq
        cases h4 : rgt p.okind p.key.length p.val.length p.rev with
        | true =>
          rw [h4] at Hrg
          cases h5 : noVerd p with
          | true =>
            rw [h5] at Hnv
            go_wp2_with (first
              | (refine wpList_load_guard 30 _ rfl _ rfl 30 _ (0, 0) _ (unhide HB) Tryz.underlying30 rfl infoMail rfl ?_)
              | (go_at_call 66; refine (Hcf _).mono ?_; rintro e w3 ⟨rfl, hz⟩; have hz2 := hz.symm; subst hz2; clear hz)
              | (go_at_call 67; refine (Hsd _).mono ?_; rintro e w3 ⟨rfl, hz⟩; have hz2 := hz.symm; subst hz2; clear hz)
              | (go_at_call 68; refine (Hsq _).mono ?_; rintro e w3 ⟨rfl, hz⟩; have hz2 := hz.symm; subst hz2; clear hz)
              | (go_at_call 69; refine (Hrg _).mono ?_; rintro e w3 ⟨rfl, hz⟩; have hk := (unhide HK).step hz; have hb := (unhide HB).kept hz (by simp); clear HK HB; have HK := hide hk; have HB := hide hb; (try clear d0 d1 d2 d3 d4 d5 d6 d7 d8 d9 d10 d11 d12 d13 d14 d15 d16 d17 d18 d19); obtain ⟨d0, d1, d2, d3, d4, d5, d6, d7, d8, d9, d10, d11, d12, d13, d14, d15, d16, d17, d18, d19⟩ := box20 (unhide HB); clear hk hb hz)
              | (go_at_call 70; refine (Hnv _).mono ?_; rintro e w3 ⟨rfl, hz⟩; have hk := (unhide HK).step hz; have hb := (unhide HB).kept hz (by simp); clear HK HB; have HK := hide hk; have HB := hide hb; (try clear d0 d1 d2 d3 d4 d5 d6 d7 d8 d9 d10 d11 d12 d13 d14 d15 d16 d17 d18 d19); obtain ⟨d0, d1, d2, d3, d4, d5, d6, d7, d8, d9, d10, d11, d12, d13, d14, d15, d16, d17, d18, d19⟩ := box20 (unhide HB); clear hk hb hz)
              | (go_at_call 71; refine (Hnt _).mono ?_; rintro e w3 ⟨rfl, hz⟩; have hk := (unhide HK).step hz; have hb := (unhide HB).kept hz (by simp); clear HK HB; have HK := hide hk; have HB := hide hb; (try clear d0 d1 d2 d3 d4 d5 d6 d7 d8 d9 d10 d11 d12 d13 d14 d15 d16 d17 d18 d19); obtain ⟨d0, d1, d2, d3, d4, d5, d6, d7, d8, d9, d10, d11, d12, d13, d14, d15, d16, d17, d18, d19⟩ := box20 (unhide HB); clear hk hb hz))
            all_goals
              go_ret
              refine ⟨ret_bool ?_, (by first | exact unhide HK | exact (unhide HK).drew | exact (unhide HK).drewN _)⟩
              unfold sKind hand
              clear d0 d1 d2 d3 d4 d5 d6 d7 d8 d9 d10 d11 d12 d13 d14 d15 d16 d17 d18 d19
              first
                | (simp_all; done)
                | (rw [Bool.eq_iff_iff]; simp_all [-List.length_eq_zero_iff]; done)
                | (rw [Bool.eq_iff_iff]; simp_all [-List.length_eq_zero_iff]; omega)
          | false =>
            rw [h5] at Hnv
            go_wp2_with (first
              | (refine wpList_load_guard 30 _ rfl _ rfl 30 _ (0, 0) _ (unhide HB) Tryz.underlying30 rfl infoMail rfl ?_)
              | (go_at_call 66; refine (Hcf _).mono ?_; rintro e w3 ⟨rfl, hz⟩; have hz2 := hz.symm; subst hz2; clear hz)
              | (go_at_call 67; refine (Hsd _).mono ?_; rintro e w3 ⟨rfl, hz⟩; have hz2 := hz.symm; subst hz2; clear hz)
              | (go_at_call 68; refine (Hsq _).mono ?_; rintro e w3 ⟨rfl, hz⟩; have hz2 := hz.symm; subst hz2; clear hz)
              | (go_at_call 69; refine (Hrg _).mono ?_; rintro e w3 ⟨rfl, hz⟩; have hk := (unhide HK).step hz; have hb := (unhide HB).kept hz (by simp); clear HK HB; have HK := hide hk; have HB := hide hb; (try clear d0 d1 d2 d3 d4 d5 d6 d7 d8 d9 d10 d11 d12 d13 d14 d15 d16 d17 d18 d19); obtain ⟨d0, d1, d2, d3, d4, d5, d6, d7, d8, d9, d10, d11, d12, d13, d14, d15, d16, d17, d18, d19⟩ := box20 (unhide HB); clear hk hb hz)
              | (go_at_call 70; refine (Hnv _).mono ?_; rintro e w3 ⟨rfl, hz⟩; have hk := (unhide HK).step hz; have hb := (unhide HB).kept hz (by simp); clear HK HB; have HK := hide hk; have HB := hide hb; (try clear d0 d1 d2 d3 d4 d5 d6 d7 d8 d9 d10 d11 d12 d13 d14 d15 d16 d17 d18 d19); obtain ⟨d0, d1, d2, d3, d4, d5, d6, d7, d8, d9, d10, d11, d12, d13, d14, d15, d16, d17, d18, d19⟩ := box20 (unhide HB); clear hk hb hz)
              | (go_at_call 71; refine (Hnt _).mono ?_; rintro e w3 ⟨rfl, hz⟩; have hk := (unhide HK).step hz; have hb := (unhide HB).kept hz (by simp); clear HK HB; have HK := hide hk; have HB := hide hb; (try clear d0 d1 d2 d3 d4 d5 d6 d7 d8 d9 d10 d11 d12 d13 d14 d15 d16 d17 d18 d19); obtain ⟨d0, d1, d2, d3, d4, d5, d6, d7, d8, d9, d10, d11, d12, d13, d14, d15, d16, d17, d18, d19⟩ := box20 (unhide HB); clear hk hb hz))
            all_goals
              go_ret
              refine ⟨ret_bool ?_, (by first | exact unhide HK | exact (unhide HK).drew | exact (unhide HK).drewN _)⟩
              unfold sKind hand
              clear d0 d1 d2 d3 d4 d5 d6 d7 d8 d9 d10 d11 d12 d13 d14 d15 d16 d17 d18 d19
              first
                | (simp_all; done)
                | (rw [Bool.eq_iff_iff]; simp_all [-List.length_eq_zero_iff]; done)
                | (rw [Bool.eq_iff_iff]; simp_all [-List.length_eq_zero_iff]; omega)
        | false =>
          rw [h4] at Hrg
          go_wp2_with (first
            | (refine wpList_load_guard 30 _ rfl _ rfl 30 _ (0, 0) _ (unhide HB) Tryz.underlying30 rfl infoMail rfl ?_)
            | (go_at_call 66; refine (Hcf _).mono ?_; rintro e w3 ⟨rfl, hz⟩; have hz2 := hz.symm; subst hz2; clear hz)
            | (go_at_call 67; refine (Hsd _).mono ?_; rintro e w3 ⟨rfl, hz⟩; have hz2 := hz.symm; subst hz2; clear hz)
            | (go_at_call 68; refine (Hsq _).mono ?_; rintro e w3 ⟨rfl, hz⟩; have hz2 := hz.symm; subst hz2; clear hz)
            | (go_at_call 69; refine (Hrg _).mono ?_; rintro e w3 ⟨rfl, hz⟩; have hk := (unhide HK).step hz; have hb := (unhide HB).kept hz (by simp); clear HK HB; have HK := hide hk; have HB := hide hb; (try clear d0 d1 d2 d3 d4 d5 d6 d7 d8 d9 d10 d11 d12 d13 d14 d15 d16 d17 d18 d19); obtain ⟨d0, d1, d2, d3, d4, d5, d6, d7, d8, d9, d10, d11, d12, d13, d14, d15, d16, d17, d18, d19⟩ := box20 (unhide HB); clear hk hb hz)
            | (go_at_call 70; refine (Hnv _).mono ?_; rintro e w3 ⟨rfl, hz⟩; have hk := (unhide HK).step hz; have hb := (unhide HB).kept hz (by simp); clear HK HB; have HK := hide hk; have HB := hide hb; (try clear d0 d1 d2 d3 d4 d5 d6 d7 d8 d9 d10 d11 d12 d13 d14 d15 d16 d17 d18 d19); obtain ⟨d0, d1, d2, d3, d4, d5, d6, d7, d8, d9, d10, d11, d12, d13, d14, d15, d16, d17, d18, d19⟩ := box20 (unhide HB); clear hk hb hz)
            | (go_at_call 71; refine (Hnt _).mono ?_; rintro e w3 ⟨rfl, hz⟩; have hk := (unhide HK).step hz; have hb := (unhide HB).kept hz (by simp); clear HK HB; have HK := hide hk; have HB := hide hb; (try clear d0 d1 d2 d3 d4 d5 d6 d7 d8 d9 d10 d11 d12 d13 d14 d15 d16 d17 d18 d19); obtain ⟨d0, d1, d2, d3, d4, d5, d6, d7, d8, d9, d10, d11, d12, d13, d14, d15, d16, d17, d18, d19⟩ := box20 (unhide HB); clear hk hb hz))
          all_goals
            go_ret
            refine ⟨ret_bool ?_, (by first | exact unhide HK | exact (unhide HK).drew | exact (unhide HK).drewN _)⟩
            unfold sKind hand
            clear d0 d1 d2 d3 d4 d5 d6 d7 d8 d9 d10 d11 d12 d13 d14 d15 d16 d17 d18 d19
            first
              | (simp_all; done)
              | (rw [Bool.eq_iff_iff]; simp_all [-List.length_eq_zero_iff]; done)
              | (rw [Bool.eq_iff_iff]; simp_all [-List.length_eq_zero_iff]; omega)
      | false =>
        rw [h3] at Hsq
        go_wp2_with (first
          | (refine wpList_load_guard 30 _ rfl _ rfl 30 _ (0, 0) _ (unhide HB) Tryz.underlying30 rfl infoMail rfl ?_)
          | (go_at_call 66; refine (Hcf _).mono ?_; rintro e w3 ⟨rfl, hz⟩; have hz2 := hz.symm; subst hz2; clear hz)
          | (go_at_call 67; refine (Hsd _).mono ?_; rintro e w3 ⟨rfl, hz⟩; have hz2 := hz.symm; subst hz2; clear hz)
          | (go_at_call 68; refine (Hsq _).mono ?_; rintro e w3 ⟨rfl, hz⟩; have hz2 := hz.symm; subst hz2; clear hz)
          | (go_at_call 69; refine (Hrg _).mono ?_; rintro e w3 ⟨rfl, hz⟩; have hk := (unhide HK).step hz; have hb := (unhide HB).kept hz (by simp); clear HK HB; have HK := hide hk; have HB := hide hb; (try clear d0 d1 d2 d3 d4 d5 d6 d7 d8 d9 d10 d11 d12 d13 d14 d15 d16 d17 d18 d19); obtain ⟨d0, d1, d2, d3, d4, d5, d6, d7, d8, d9, d10, d11, d12, d13, d14, d15, d16, d17, d18, d19⟩ := box20 (unhide HB); clear hk hb hz)
          | (go_at_call 70; refine (Hnv _).mono ?_; rintro e w3 ⟨rfl, hz⟩; have hk := (unhide HK).step hz; have hb := (unhide HB).kept hz (by simp); clear HK HB; have HK := hide hk; have HB := hide hb; (try clear d0 d1 d2 d3 d4 d5 d6 d7 d8 d9 d10 d11 d12 d13 d14 d15 d16 d17 d18 d19); obtain ⟨d0, d1, d2, d3, d4, d5, d6, d7, d8, d9, d10, d11, d12, d13, d14, d15, d16, d17, d18, d19⟩ := box20 (unhide HB); clear hk hb hz)
          | (go_at_call 71; refine (Hnt _).mono ?_; rintro e w3 ⟨rfl, hz⟩; have hk := (unhide HK).step hz; have hb := (unhide HB).kept hz (by simp); clear HK HB; have HK := hide hk; have HB := hide hb; (try clear d0 d1 d2 d3 d4 d5 d6 d7 d8 d9 d10 d11 d12 d13 d14 d15 d16 d17 d18 d19); obtain ⟨d0, d1, d2, d3, d4, d5, d6, d7, d8, d9, d10, d11, d12, d13, d14, d15, d16, d17, d18, d19⟩ := box20 (unhide HB); clear hk hb hz))
        all_goals
          go_ret
          refine ⟨ret_bool ?_, (by first | exact unhide HK | exact (unhide HK).drew | exact (unhide HK).drewN _)⟩
          unfold sKind hand
          clear d0 d1 d2 d3 d4 d5 d6 d7 d8 d9 d10 d11 d12 d13 d14 d15 d16 d17 d18 d19
          first
            | (simp_all; done)
            | (rw [Bool.eq_iff_iff]; simp_all [-List.length_eq_zero_iff]; done)
            | (rw [Bool.eq_iff_iff]; simp_all [-List.length_eq_zero_iff]; omega)
    | false =>
      rw [h2] at Hsd
      go_wp2_with (first
        | (refine wpList_load_guard 30 _ rfl _ rfl 30 _ (0, 0) _ (unhide HB) Tryz.underlying30 rfl infoMail rfl ?_)
        | (go_at_call 66; refine (Hcf _).mono ?_; rintro e w3 ⟨rfl, hz⟩; have hz2 := hz.symm; subst hz2; clear hz)
        | (go_at_call 67; refine (Hsd _).mono ?_; rintro e w3 ⟨rfl, hz⟩; have hz2 := hz.symm; subst hz2; clear hz)
        | (go_at_call 68; refine (Hsq _).mono ?_; rintro e w3 ⟨rfl, hz⟩; have hz2 := hz.symm; subst hz2; clear hz)
        | (go_at_call 69; refine (Hrg _).mono ?_; rintro e w3 ⟨rfl, hz⟩; have hk := (unhide HK).step hz; have hb := (unhide HB).kept hz (by simp); clear HK HB; have HK := hide hk; have HB := hide hb; (try clear d0 d1 d2 d3 d4 d5 d6 d7 d8 d9 d10 d11 d12 d13 d14 d15 d16 d17 d18 d19); obtain ⟨d0, d1, d2, d3, d4, d5, d6, d7, d8, d9, d10, d11, d12, d13, d14, d15, d16, d17, d18, d19⟩ := box20 (unhide HB); clear hk hb hz)
        | (go_at_call 70; refine (Hnv _).mono ?_; rintro e w3 ⟨rfl, hz⟩; have hk := (unhide HK).step hz; have hb := (unhide HB).kept hz (by simp); clear HK HB; have HK := hide hk; have HB := hide hb; (try clear d0 d1 d2 d3 d4 d5 d6 d7 d8 d9 d10 d11 d12 d13 d14 d15 d16 d17 d18 d19); obtain ⟨d0, d1, d2, d3, d4, d5, d6, d7, d8, d9, d10, d11, d12, d13, d14, d15, d16, d17, d18, d19⟩ := box20 (unhide HB); clear hk hb hz)
        | (go_at_call 71; refine (Hnt _).mono ?_; rintro e w3 ⟨rfl, hz⟩; have hk := (unhide HK).step hz; have hb := (unhide HB).kept hz (by simp); clear HK HB; have HK := hide hk; have HB := hide hb; (try clear d0 d1 d2 d3 d4 d5 d6 d7 d8 d9 d10 d11 d12 d13 d14 d15 d16 d17 d18 d19); obtain ⟨d0, d1, d2, d3, d4, d5, d6, d7, d8, d9, d10, d11, d12, d13, d14, d15, d16, d17, d18, d19⟩ := box20 (unhide HB); clear hk hb hz))
      all_goals
        go_ret
        refine ⟨ret_bool ?_, (by first | exact unhide HK | exact (unhide HK).drew | exact (unhide HK).drewN _)⟩
        unfold sKind hand
        clear d0 d1 d2 d3 d4 d5 d6 d7 d8 d9 d10 d11 d12 d13 d14 d15 d16 d17 d18 d19
        first
          | (simp_all; done)
          | (rw [Bool.eq_iff_iff]; simp_all [-List.length_eq_zero_iff]; done)
          | (rw [Bool.eq_iff_iff]; simp_all [-List.length_eq_zero_iff]; omega)
  | false =>
    rw [h1] at Hcf
    go_wp2_with (first
      | (refine wpList_load_guard 30 _ rfl _ rfl 30 _ (0, 0) _ (unhide HB) Tryz.underlying30 rfl infoMail rfl ?_)
      | (go_at_call 66; refine (Hcf _).mono ?_; rintro e w3 ⟨rfl, hz⟩; have hz2 := hz.symm; subst hz2; clear hz)
      | (go_at_call 67; refine (Hsd _).mono ?_; rintro e w3 ⟨rfl, hz⟩; have hz2 := hz.symm; subst hz2; clear hz)
      | (go_at_call 68; refine (Hsq _).mono ?_; rintro e w3 ⟨rfl, hz⟩; have hz2 := hz.symm; subst hz2; clear hz)
      | (go_at_call 69; refine (Hrg _).mono ?_; rintro e w3 ⟨rfl, hz⟩; have hk := (unhide HK).step hz; have hb := (unhide HB).kept hz (by simp); clear HK HB; have HK := hide hk; have HB := hide hb; (try clear d0 d1 d2 d3 d4 d5 d6 d7 d8 d9 d10 d11 d12 d13 d14 d15 d16 d17 d18 d19); obtain ⟨d0, d1, d2, d3, d4, d5, d6, d7, d8, d9, d10, d11, d12, d13, d14, d15, d16, d17, d18, d19⟩ := box20 (unhide HB); clear hk hb hz)
      | (go_at_call 70; refine (Hnv _).mono ?_; rintro e w3 ⟨rfl, hz⟩; have hk := (unhide HK).step hz; have hb := (unhide HB).kept hz (by simp); clear HK HB; have HK := hide hk; have HB := hide hb; (try clear d0 d1 d2 d3 d4 d5 d6 d7 d8 d9 d10 d11 d12 d13 d14 d15 d16 d17 d18 d19); obtain ⟨d0, d1, d2, d3, d4, d5, d6, d7, d8, d9, d10, d11, d12, d13, d14, d15, d16, d17, d18, d19⟩ := box20 (unhide HB); clear hk hb hz)
      | (go_at_call 71; refine (Hnt _).mono ?_; rintro e w3 ⟨rfl, hz⟩; have hk := (unhide HK).step hz; have hb := (unhide HB).kept hz (by simp); clear HK HB; have HK := hide hk; have HB := hide hb; (try clear d0 d1 d2 d3 d4 d5 d6 d7 d8 d9 d10 d11 d12 d13 d14 d15 d16 d17 d18 d19); obtain ⟨d0, d1, d2, d3, d4, d5, d6, d7, d8, d9, d10, d11, d12, d13, d14, d15, d16, d17, d18, d19⟩ := box20 (unhide HB); clear hk hb hz))
    all_goals
      go_ret
      refine ⟨ret_bool ?_, (by first | exact unhide HK | exact (unhide HK).drew | exact (unhide HK).drewN _)⟩
      unfold sKind hand
      clear d0 d1 d2 d3 d4 d5 d6 d7 d8 d9 d10 d11 d12 d13 d14 d15 d16 d17 d18 d19
      first
        | (simp_all; done)
        | (rw [Bool.eq_iff_iff]; simp_all [-List.length_eq_zero_iff]; done)
        | (rw [Bool.eq_iff_iff]; simp_all [-List.length_eq_zero_iff]; omega)
end Go.Proofs.YtfhfkpgfnlmfhaaGreatDoor

/- Sound: kind 2. -/
namespace Go.Proofs.YtfhfkpgfnlmfhaaGreatDoor
open Go.RowKit

set_option maxRecDepth 100000 in
set_option maxHeartbeats 3200000 in
theorem sKind_2 (w : World) (p : Ml) (l : Lm) (hk0 : p.kind = 2) : Calls Tryz.prog 48 #[mv p l] w fun e w' => e = .returned (.bool (sKind p)) ∧ Kept [] w w' := by
  have Hsf := fun W => isServer_any W p.frm
  have Hcd := fun W => isClient_any W p.client p.dst
  have Hsq := fun W => isSeq_any W p.seq
  have Hbo := fun W => isBlankOp_p W p l
  have Hsv := fun W => sVerd_any W p l
  have Hnt := fun W => hasNoTrans_any W p l
  unfold mv
  go_enter Tryz.func48, Tryz.ntmps48
  go_upto_region 1 with fail
  refine world_at (R := fun X => Blk X w.heap.size (mcc p l) 30 ∧ Kept [] w X) ⟨Blk.new _ _ _, (Kept.refl [] w).alloc _⟩ ?_
  rintro X ⟨hbx, hkx⟩
  obtain ⟨d0, d1, d2, d3, d4, d5, d6, d7, d8, d9, d10, d11, d12, d13, d14, d15, d16, d17, d18, d19⟩ := box20 hbx
  have HB := hide hbx
  have HK := hide hkx
  clear hbx hkx
  cases h1 : srv p.frm with
  | true =>
    rw [h1] at Hsf
    cases h2 : cli p.client p.dst with
    | true =>
      rw [h2] at Hcd
      cases h3 : seqB p.seq with
      | true =>
        rw [h3] at Hsq
        cases h4 : opB p with
        | true =>
          rw [h4] at Hbo
          cases h5 : sVerd p with
          | true =>
            rw [h5] at Hsv
            go_wp2_with (first
              | (refine wpList_load_guard 30 _ rfl _ rfl 30 _ (0, 0) _ (unhide HB) Tryz.underlying30 rfl infoMail rfl ?_)
              | (go_at_call 67; refine (Hsf _).mono ?_; rintro e w3 ⟨rfl, hz⟩; have hz2 := hz.symm; subst hz2; clear hz)
              | (go_at_call 66; refine (Hcd _).mono ?_; rintro e w3 ⟨rfl, hz⟩; have hz2 := hz.symm; subst hz2; clear hz)
              | (go_at_call 68; refine (Hsq _).mono ?_; rintro e w3 ⟨rfl, hz⟩; have hz2 := hz.symm; subst hz2; clear hz)
              | (go_at_call 72; refine (Hbo _).mono ?_; rintro e w3 ⟨rfl, hz⟩; have hk := (unhide HK).step hz; have hb := (unhide HB).kept hz (by simp); clear HK HB; have HK := hide hk; have HB := hide hb; (try clear d0 d1 d2 d3 d4 d5 d6 d7 d8 d9 d10 d11 d12 d13 d14 d15 d16 d17 d18 d19); obtain ⟨d0, d1, d2, d3, d4, d5, d6, d7, d8, d9, d10, d11, d12, d13, d14, d15, d16, d17, d18, d19⟩ := box20 (unhide HB); clear hk hb hz)
              | (go_at_call 73; refine (Hsv _).mono ?_; rintro e w3 ⟨rfl, hz⟩; have hk := (unhide HK).step hz; have hb := (unhide HB).kept hz (by simp); clear HK HB; have HK := hide hk; have HB := hide hb; (try clear d0 d1 d2 d3 d4 d5 d6 d7 d8 d9 d10 d11 d12 d13 d14 d15 d16 d17 d18 d19); obtain ⟨d0, d1, d2, d3, d4, d5, d6, d7, d8, d9, d10, d11, d12, d13, d14, d15, d16, d17, d18, d19⟩ := box20 (unhide HB); clear hk hb hz)
              | (go_at_call 71; refine (Hnt _).mono ?_; rintro e w3 ⟨rfl, hz⟩; have hk := (unhide HK).step hz; have hb := (unhide HB).kept hz (by simp); clear HK HB; have HK := hide hk; have HB := hide hb; (try clear d0 d1 d2 d3 d4 d5 d6 d7 d8 d9 d10 d11 d12 d13 d14 d15 d16 d17 d18 d19); obtain ⟨d0, d1, d2, d3, d4, d5, d6, d7, d8, d9, d10, d11, d12, d13, d14, d15, d16, d17, d18, d19⟩ := box20 (unhide HB); clear hk hb hz))
            all_goals
              go_ret
              refine ⟨ret_bool ?_, (by first | exact unhide HK | exact (unhide HK).drew | exact (unhide HK).drewN _)⟩
              unfold sKind hand
              clear d0 d1 d2 d3 d4 d5 d6 d7 d8 d9 d10 d11 d12 d13 d14 d15 d16 d17 d18 d19
              first
                | (simp_all; done)
                | (rw [Bool.eq_iff_iff]; simp_all [-List.length_eq_zero_iff]; done)
                | (rw [Bool.eq_iff_iff]; simp_all [-List.length_eq_zero_iff]; omega)
          | false =>
            rw [h5] at Hsv
            go_wp2_with (first
              | (refine wpList_load_guard 30 _ rfl _ rfl 30 _ (0, 0) _ (unhide HB) Tryz.underlying30 rfl infoMail rfl ?_)
              | (go_at_call 67; refine (Hsf _).mono ?_; rintro e w3 ⟨rfl, hz⟩; have hz2 := hz.symm; subst hz2; clear hz)
              | (go_at_call 66; refine (Hcd _).mono ?_; rintro e w3 ⟨rfl, hz⟩; have hz2 := hz.symm; subst hz2; clear hz)
              | (go_at_call 68; refine (Hsq _).mono ?_; rintro e w3 ⟨rfl, hz⟩; have hz2 := hz.symm; subst hz2; clear hz)
              | (go_at_call 72; refine (Hbo _).mono ?_; rintro e w3 ⟨rfl, hz⟩; have hk := (unhide HK).step hz; have hb := (unhide HB).kept hz (by simp); clear HK HB; have HK := hide hk; have HB := hide hb; (try clear d0 d1 d2 d3 d4 d5 d6 d7 d8 d9 d10 d11 d12 d13 d14 d15 d16 d17 d18 d19); obtain ⟨d0, d1, d2, d3, d4, d5, d6, d7, d8, d9, d10, d11, d12, d13, d14, d15, d16, d17, d18, d19⟩ := box20 (unhide HB); clear hk hb hz)
              | (go_at_call 73; refine (Hsv _).mono ?_; rintro e w3 ⟨rfl, hz⟩; have hk := (unhide HK).step hz; have hb := (unhide HB).kept hz (by simp); clear HK HB; have HK := hide hk; have HB := hide hb; (try clear d0 d1 d2 d3 d4 d5 d6 d7 d8 d9 d10 d11 d12 d13 d14 d15 d16 d17 d18 d19); obtain ⟨d0, d1, d2, d3, d4, d5, d6, d7, d8, d9, d10, d11, d12, d13, d14, d15, d16, d17, d18, d19⟩ := box20 (unhide HB); clear hk hb hz)
              | (go_at_call 71; refine (Hnt _).mono ?_; rintro e w3 ⟨rfl, hz⟩; have hk := (unhide HK).step hz; have hb := (unhide HB).kept hz (by simp); clear HK HB; have HK := hide hk; have HB := hide hb; (try clear d0 d1 d2 d3 d4 d5 d6 d7 d8 d9 d10 d11 d12 d13 d14 d15 d16 d17 d18 d19); obtain ⟨d0, d1, d2, d3, d4, d5, d6, d7, d8, d9, d10, d11, d12, d13, d14, d15, d16, d17, d18, d19⟩ := box20 (unhide HB); clear hk hb hz))
            all_goals
              go_ret
              refine ⟨ret_bool ?_, (by first | exact unhide HK | exact (unhide HK).drew | exact (unhide HK).drewN _)⟩
              unfold sKind hand
              clear d0 d1 d2 d3 d4 d5 d6 d7 d8 d9 d10 d11 d12 d13 d14 d15 d16 d17 d18 d19
              first
                | (simp_all; done)
                | (rw [Bool.eq_iff_iff]; simp_all [-List.length_eq_zero_iff]; done)
                | (rw [Bool.eq_iff_iff]; simp_all [-List.length_eq_zero_iff]; omega)
        | false =>
          rw [h4] at Hbo
          go_wp2_with (first
            | (refine wpList_load_guard 30 _ rfl _ rfl 30 _ (0, 0) _ (unhide HB) Tryz.underlying30 rfl infoMail rfl ?_)
            | (go_at_call 67; refine (Hsf _).mono ?_; rintro e w3 ⟨rfl, hz⟩; have hz2 := hz.symm; subst hz2; clear hz)
            | (go_at_call 66; refine (Hcd _).mono ?_; rintro e w3 ⟨rfl, hz⟩; have hz2 := hz.symm; subst hz2; clear hz)
            | (go_at_call 68; refine (Hsq _).mono ?_; rintro e w3 ⟨rfl, hz⟩; have hz2 := hz.symm; subst hz2; clear hz)
            | (go_at_call 72; refine (Hbo _).mono ?_; rintro e w3 ⟨rfl, hz⟩; have hk := (unhide HK).step hz; have hb := (unhide HB).kept hz (by simp); clear HK HB; have HK := hide hk; have HB := hide hb; (try clear d0 d1 d2 d3 d4 d5 d6 d7 d8 d9 d10 d11 d12 d13 d14 d15 d16 d17 d18 d19); obtain ⟨d0, d1, d2, d3, d4, d5, d6, d7, d8, d9, d10, d11, d12, d13, d14, d15, d16, d17, d18, d19⟩ := box20 (unhide HB); clear hk hb hz)
            | (go_at_call 73; refine (Hsv _).mono ?_; rintro e w3 ⟨rfl, hz⟩; have hk := (unhide HK).step hz; have hb := (unhide HB).kept hz (by simp); clear HK HB; have HK := hide hk; have HB := hide hb; (try clear d0 d1 d2 d3 d4 d5 d6 d7 d8 d9 d10 d11 d12 d13 d14 d15 d16 d17 d18 d19); obtain ⟨d0, d1, d2, d3, d4, d5, d6, d7, d8, d9, d10, d11, d12, d13, d14, d15, d16, d17, d18, d19⟩ := box20 (unhide HB); clear hk hb hz)
            | (go_at_call 71; refine (Hnt _).mono ?_; rintro e w3 ⟨rfl, hz⟩; have hk := (unhide HK).step hz; have hb := (unhide HB).kept hz (by simp); clear HK HB; have HK := hide hk; have HB := hide hb; (try clear d0 d1 d2 d3 d4 d5 d6 d7 d8 d9 d10 d11 d12 d13 d14 d15 d16 d17 d18 d19); obtain ⟨d0, d1, d2, d3, d4, d5, d6, d7, d8, d9, d10, d11, d12, d13, d14, d15, d16, d17, d18, d19⟩ := box20 (unhide HB); clear hk hb hz))
          all_goals
            go_ret
            refine ⟨ret_bool ?_, (by first | exact unhide HK | exact (unhide HK).drew | exact (unhide HK).drewN _)⟩
            unfold sKind hand
            clear d0 d1 d2 d3 d4 d5 d6 d7 d8 d9 d10 d11 d12 d13 d14 d15 d16 d17 d18 d19
            first
              | (simp_all; done)
              | (rw [Bool.eq_iff_iff]; simp_all [-List.length_eq_zero_iff]; done)
              | (rw [Bool.eq_iff_iff]; simp_all [-List.length_eq_zero_iff]; omega)
      | false =>
        rw [h3] at Hsq
        go_wp2_with (first
          | (refine wpList_load_guard 30 _ rfl _ rfl 30 _ (0, 0) _ (unhide HB) Tryz.underlying30 rfl infoMail rfl ?_)
          | (go_at_call 67; refine (Hsf _).mono ?_; rintro e w3 ⟨rfl, hz⟩; have hz2 := hz.symm; subst hz2; clear hz)
          | (go_at_call 66; refine (Hcd _).mono ?_; rintro e w3 ⟨rfl, hz⟩; have hz2 := hz.symm; subst hz2; clear hz)
          | (go_at_call 68; refine (Hsq _).mono ?_; rintro e w3 ⟨rfl, hz⟩; have hz2 := hz.symm; subst hz2; clear hz)
          | (go_at_call 72; refine (Hbo _).mono ?_; rintro e w3 ⟨rfl, hz⟩; have hk := (unhide HK).step hz; have hb := (unhide HB).kept hz (by simp); clear HK HB; have HK := hide hk; have HB := hide hb; (try clear d0 d1 d2 d3 d4 d5 d6 d7 d8 d9 d10 d11 d12 d13 d14 d15 d16 d17 d18 d19); obtain ⟨d0, d1, d2, d3, d4, d5, d6, d7, d8, d9, d10, d11, d12, d13, d14, d15, d16, d17, d18, d19⟩ := box20 (unhide HB); clear hk hb hz)
          | (go_at_call 73; refine (Hsv _).mono ?_; rintro e w3 ⟨rfl, hz⟩; have hk := (unhide HK).step hz; have hb := (unhide HB).kept hz (by simp); clear HK HB; have HK := hide hk; have HB := hide hb; (try clear d0 d1 d2 d3 d4 d5 d6 d7 d8 d9 d10 d11 d12 d13 d14 d15 d16 d17 d18 d19); obtain ⟨d0, d1, d2, d3, d4, d5, d6, d7, d8, d9, d10, d11, d12, d13, d14, d15, d16, d17, d18, d19⟩ := box20 (unhide HB); clear hk hb hz)
          | (go_at_call 71; refine (Hnt _).mono ?_; rintro e w3 ⟨rfl, hz⟩; have hk := (unhide HK).step hz; have hb := (unhide HB).kept hz (by simp); clear HK HB; have HK := hide hk; have HB := hide hb; (try clear d0 d1 d2 d3 d4 d5 d6 d7 d8 d9 d10 d11 d12 d13 d14 d15 d16 d17 d18 d19); obtain ⟨d0, d1, d2, d3, d4, d5, d6, d7, d8, d9, d10, d11, d12, d13, d14, d15, d16, d17, d18, d19⟩ := box20 (unhide HB); clear hk hb hz))
        all_goals
          go_ret
          refine ⟨ret_bool ?_, (by first | exact unhide HK | exact (unhide HK).drew | exact (unhide HK).drewN _)⟩
          unfold sKind hand
          clear d0 d1 d2 d3 d4 d5 d6 d7 d8 d9 d10 d11 d12 d13 d14 d15 d16 d17 d18 d19
          first
            | (simp_all; done)
            | (rw [Bool.eq_iff_iff]; simp_all [-List.length_eq_zero_iff]; done)
            | (rw [Bool.eq_iff_iff]; simp_all [-List.length_eq_zero_iff]; omega)
    | false =>
      rw [h2] at Hcd
      go_wp2_with (first
        | (refine wpList_load_guard 30 _ rfl _ rfl 30 _ (0, 0) _ (unhide HB) Tryz.underlying30 rfl infoMail rfl ?_)
        | (go_at_call 67; refine (Hsf _).mono ?_; rintro e w3 ⟨rfl, hz⟩; have hz2 := hz.symm; subst hz2; clear hz)
        | (go_at_call 66; refine (Hcd _).mono ?_; rintro e w3 ⟨rfl, hz⟩; have hz2 := hz.symm; subst hz2; clear hz)
        | (go_at_call 68; refine (Hsq _).mono ?_; rintro e w3 ⟨rfl, hz⟩; have hz2 := hz.symm; subst hz2; clear hz)
        | (go_at_call 72; refine (Hbo _).mono ?_; rintro e w3 ⟨rfl, hz⟩; have hk := (unhide HK).step hz; have hb := (unhide HB).kept hz (by simp); clear HK HB; have HK := hide hk; have HB := hide hb; (try clear d0 d1 d2 d3 d4 d5 d6 d7 d8 d9 d10 d11 d12 d13 d14 d15 d16 d17 d18 d19); obtain ⟨d0, d1, d2, d3, d4, d5, d6, d7, d8, d9, d10, d11, d12, d13, d14, d15, d16, d17, d18, d19⟩ := box20 (unhide HB); clear hk hb hz)
        | (go_at_call 73; refine (Hsv _).mono ?_; rintro e w3 ⟨rfl, hz⟩; have hk := (unhide HK).step hz; have hb := (unhide HB).kept hz (by simp); clear HK HB; have HK := hide hk; have HB := hide hb; (try clear d0 d1 d2 d3 d4 d5 d6 d7 d8 d9 d10 d11 d12 d13 d14 d15 d16 d17 d18 d19); obtain ⟨d0, d1, d2, d3, d4, d5, d6, d7, d8, d9, d10, d11, d12, d13, d14, d15, d16, d17, d18, d19⟩ := box20 (unhide HB); clear hk hb hz)
        | (go_at_call 71; refine (Hnt _).mono ?_; rintro e w3 ⟨rfl, hz⟩; have hk := (unhide HK).step hz; have hb := (unhide HB).kept hz (by simp); clear HK HB; have HK := hide hk; have HB := hide hb; (try clear d0 d1 d2 d3 d4 d5 d6 d7 d8 d9 d10 d11 d12 d13 d14 d15 d16 d17 d18 d19); obtain ⟨d0, d1, d2, d3, d4, d5, d6, d7, d8, d9, d10, d11, d12, d13, d14, d15, d16, d17, d18, d19⟩ := box20 (unhide HB); clear hk hb hz))
      all_goals
        go_ret
        refine ⟨ret_bool ?_, (by first | exact unhide HK | exact (unhide HK).drew | exact (unhide HK).drewN _)⟩
        unfold sKind hand
        clear d0 d1 d2 d3 d4 d5 d6 d7 d8 d9 d10 d11 d12 d13 d14 d15 d16 d17 d18 d19
        first
          | (simp_all; done)
          | (rw [Bool.eq_iff_iff]; simp_all [-List.length_eq_zero_iff]; done)
          | (rw [Bool.eq_iff_iff]; simp_all [-List.length_eq_zero_iff]; omega)
  | false =>
    rw [h1] at Hsf
    go_wp2_with (first
      | (refine wpList_load_guard 30 _ rfl _ rfl 30 _ (0, 0) _ (unhide HB) Tryz.underlying30 rfl infoMail rfl ?_)
      | (go_at_call 67; refine (Hsf _).mono ?_; rintro e w3 ⟨rfl, hz⟩; have hz2 := hz.symm; subst hz2; clear hz)
      | (go_at_call 66; refine (Hcd _).mono ?_; rintro e w3 ⟨rfl, hz⟩; have hz2 := hz.symm; subst hz2; clear hz)
      | (go_at_call 68; refine (Hsq _).mono ?_; rintro e w3 ⟨rfl, hz⟩; have hz2 := hz.symm; subst hz2; clear hz)
      | (go_at_call 72; refine (Hbo _).mono ?_; rintro e w3 ⟨rfl, hz⟩; have hk := (unhide HK).step hz; have hb := (unhide HB).kept hz (by simp); clear HK HB; have HK := hide hk; have HB := hide hb; (try clear d0 d1 d2 d3 d4 d5 d6 d7 d8 d9 d10 d11 d12 d13 d14 d15 d16 d17 d18 d19); obtain ⟨d0, d1, d2, d3, d4, d5, d6, d7, d8, d9, d10, d11, d12, d13, d14, d15, d16, d17, d18, d19⟩ := box20 (unhide HB); clear hk hb hz)
      | (go_at_call 73; refine (Hsv _).mono ?_; rintro e w3 ⟨rfl, hz⟩; have hk := (unhide HK).step hz; have hb := (unhide HB).kept hz (by simp); clear HK HB; have HK := hide hk; have HB := hide hb; (try clear d0 d1 d2 d3 d4 d5 d6 d7 d8 d9 d10 d11 d12 d13 d14 d15 d16 d17 d18 d19); obtain ⟨d0, d1, d2, d3, d4, d5, d6, d7, d8, d9, d10, d11, d12, d13, d14, d15, d16, d17, d18, d19⟩ := box20 (unhide HB); clear hk hb hz)
      | (go_at_call 71; refine (Hnt _).mono ?_; rintro e w3 ⟨rfl, hz⟩; have hk := (unhide HK).step hz; have hb := (unhide HB).kept hz (by simp); clear HK HB; have HK := hide hk; have HB := hide hb; (try clear d0 d1 d2 d3 d4 d5 d6 d7 d8 d9 d10 d11 d12 d13 d14 d15 d16 d17 d18 d19); obtain ⟨d0, d1, d2, d3, d4, d5, d6, d7, d8, d9, d10, d11, d12, d13, d14, d15, d16, d17, d18, d19⟩ := box20 (unhide HB); clear hk hb hz))
    all_goals
      go_ret
      refine ⟨ret_bool ?_, (by first | exact unhide HK | exact (unhide HK).drew | exact (unhide HK).drewN _)⟩
      unfold sKind hand
      clear d0 d1 d2 d3 d4 d5 d6 d7 d8 d9 d10 d11 d12 d13 d14 d15 d16 d17 d18 d19
      first
        | (simp_all; done)
        | (rw [Bool.eq_iff_iff]; simp_all [-List.length_eq_zero_iff]; done)
        | (rw [Bool.eq_iff_iff]; simp_all [-List.length_eq_zero_iff]; omega)
end Go.Proofs.YtfhfkpgfnlmfhaaGreatDoor

/- Sound: kind 3. -/
namespace Go.Proofs.YtfhfkpgfnlmfhaaGreatDoor
open Go.RowKit

def isRowT (d : TypeDesc) : Bool := match d with | .struct _ | .array _ _ => true | _ => false
/-- A struct that is loaded whole: asked of the operation first. -/
theorem wpList_lg {P : Program} {ops : Array Oper} {rest : List Oper} {o : Oper} {a : Act} {w : World} {Q : Exit → Act → World → Prop} (ty : TypeId) (x : Operand) (ho : o.op = .load ty x)
    (h : ∃ (g : Nat) (t : TypeId) (cs : Array Value) (fr : Nat × Nat) (d : TypeDesc), a.eval x = .pointer (some ⟨g, 0, none⟩) ∧ w.heap[g]? = some (.cells cs t fr) ∧ P.underlying ty = some d ∧ isRowT d = true ∧ (P.info? ty).map (·.size) = some cs.size ∧ Region.wanted o (yielded ops a.tmps) = true ∧ wpList P ops Q rest (a.put o.dst (.agg cs)) w) : wpList P ops Q (o :: rest) a w := by
  obtain ⟨g, t, cs, fr, d, h1, h2, h3, h4, h5, h6, h7⟩ := h
  exact wpList_step fun _ hK => by rw [if_pos h6]; exact wp_load_row ty x ho g h1 t cs fr d h2 h3 (by unfold isRowT at h4; cases d <;> simp_all) h5 (hK _ _ h7)
theorem sKind3_eq {p : Ml} (h : p.kind = 3) : sKind p = (decide (p.copy.length ≤ 262144) && hand p) := by
  unfold sKind
  rw [if_neg (by omega), if_neg (by omega), if_pos h]
set_option maxRecDepth 100000 in
set_option maxHeartbeats 3200000 in
theorem sKind_3a (w : World) (p : Ml) (l : Lm) (hk0 : p.kind = 3) (hc : p.copy.length ≤ 262144) : Calls Tryz.prog 48 #[mv p l] w fun e w' => e = .returned (.bool (sKind p)) ∧ Kept [] w w' := by
  have Hsf := fun W => isServer_any W p.frm
  have Hsd := fun W => isServer_any W p.dst
  have Hwi := fun W => isWithin_any W p.epoch 1 1073741824
  have Hnc : ∀ W, Calls Tryz.prog 74 #[.agg (mcc { p with root := 0, copy := [] } { l with ca := none, cc := 0 })] W fun e w' => e = .returned (.bool true) ∧ Kept [] W w' := fun W => hasNoCopy_any W { p with root := 0, copy := [] } { l with ca := none, cc := 0 }
  have Hnl : ∀ W, Calls Tryz.prog 75 #[.agg (mcc { p with root := 0, copy := [] } { l with ca := none, cc := 0 })] W fun e w' => e = .returned (.bool (noCall p)) ∧ Kept [] W w' := fun W => hasNoCall_any W { p with root := 0, copy := [] } { l with ca := none, cc := 0 }
  unfold mv
  go_enter Tryz.func48, Tryz.ntmps48
  go_upto_region 1 with fail
  refine world_at (R := fun X => Blk X w.heap.size (mcc p l) 30 ∧ Kept [] w X) ⟨Blk.new _ _ _, (Kept.refl [] w).alloc _⟩ ?_
  rintro X ⟨hbx, hkx⟩
  obtain ⟨d0, d1, d2, d3, d4, d5, d6, d7, d8, d9, d10, d11, d12, d13, d14, d15, d16, d17, d18, d19⟩ := box20 hbx
  have HB := hide hbx
  have HK := hide hkx
  clear hbx hkx
  have HB2 : Hid (Blk ((X.setCell ⟨w.heap.size, 5, none⟩ (.int .u64 0)).setCell ⟨w.heap.size, 6, none⟩ (.slice none 0 0)) w.heap.size (mcc { p with root := 0, copy := [] } { l with ca := none, cc := 0 }) 30) := ((unhide HB).set 5 (.int .u64 0)).set 6 (.slice none 0 0)
  have HK2 : Hid (Kept [] w ((X.setCell ⟨w.heap.size, 5, none⟩ (.int .u64 0)).setCell ⟨w.heap.size, 6, none⟩ (.slice none 0 0))) := ((unhide HK).setCell (Or.inr (Nat.le_refl _)) _).setCell (Or.inr (Nat.le_refl _)) _
  have f5 := (unhide HB).frozen 5
  have f6 := (unhide HB).frozen 6
  simp only [hk0] at Hnc Hnl
  have HC3 := hide (decide_eq_true hc)
  have hc2 : ((262144 : Int) < (p.copy.length : Int)) = False := eq_false (by omega)
  clear hc
  cases h1 : srv p.frm with
  | true =>
    rw [h1] at Hsf
    cases h2 : srv p.dst with
    | true =>
      rw [h2] at Hsd
      cases h3 : (p.frm != p.dst) with
      | true =>
        cases h4 : wthn p.epoch 1 1073741824 with
        | true =>
          rw [h4] at Hwi
          go_wp2_with (first
            | (refine wpList_lg 30 _ rfl ?_; refine ⟨_, 30, _, (0, 0), _, rfl, unhide HB, Tryz.underlying30, rfl, infoMail, rfl, ?_⟩)
            | (go_at_call 67; refine world_at (C := fun W => Calls Tryz.prog 67 #[.int .i64 p.frm] W _) (R := fun Y => Blk Y w.heap.size (mcc { p with root := 0, copy := [] } { l with ca := none, cc := 0 }) 30 ∧ Kept [] w Y) ⟨unhide HB2, unhide HK2⟩ ?_; clear HB2 HK2 HB HK d0 d1 d2 d3 d4 d5 d6 d7 d8 d9 d10 d11 d12 d13 d14 d15 d16 d17 d18 d19 f5 f6; rintro Y ⟨hby, hky⟩; obtain ⟨d0, d1, d2, d3, d4, d5, d6, d7, d8, d9, d10, d11, d12, d13, d14, d15, d16, d17, d18, d19⟩ := box20 hby; have HB := hide hby; have HK := hide hky; clear hby hky; refine (Hsf _).mono ?_; rintro e w3 ⟨rfl, hz⟩; have hz2 := hz.symm; subst hz2; clear hz)
            | (go_at_call 67; refine (Hsf _).mono ?_; rintro e w3 ⟨rfl, hz⟩; have hz2 := hz.symm; subst hz2; clear hz)
            | (go_at_call 67; refine (Hsd _).mono ?_; rintro e w3 ⟨rfl, hz⟩; have hz2 := hz.symm; subst hz2; clear hz)
            | (go_at_call 47; refine (Hwi _).mono ?_; rintro e w3 ⟨rfl, hz⟩; have hz2 := hz.symm; subst hz2; clear hz)
            | (go_at_call 74; refine (Hnc _).mono ?_; rintro e w3 ⟨rfl, hz⟩; have hk := (unhide HK).step hz; have hb := (unhide HB).kept hz (by simp); clear HK HB; have HK := hide hk; have HB := hide hb; (try clear d0 d1 d2 d3 d4 d5 d6 d7 d8 d9 d10 d11 d12 d13 d14 d15 d16 d17 d18 d19); obtain ⟨d0, d1, d2, d3, d4, d5, d6, d7, d8, d9, d10, d11, d12, d13, d14, d15, d16, d17, d18, d19⟩ := box20 (unhide HB); clear hk hb hz)
            | (go_at_call 75; refine (Hnl _).mono ?_; rintro e w3 ⟨rfl, hz⟩; have hk := (unhide HK).step hz; have hb := (unhide HB).kept hz (by simp); clear HK HB; have HK := hide hk; have HB := hide hb; (try clear d0 d1 d2 d3 d4 d5 d6 d7 d8 d9 d10 d11 d12 d13 d14 d15 d16 d17 d18 d19); obtain ⟨d0, d1, d2, d3, d4, d5, d6, d7, d8, d9, d10, d11, d12, d13, d14, d15, d16, d17, d18, d19⟩ := box20 (unhide HB); clear hk hb hz))
          all_goals
            go_ret
            refine ⟨ret_bool ?_, (by first | exact unhide HK | exact (unhide HK).drew | exact (unhide HK).drewN _)⟩
            clear d0 d1 d2 d3 d4 d5 d6 d7 d8 d9 d10 d11 d12 d13 d14 d15 d16 d17 d18 d19 hc2
            rw [sKind3_eq hk0, unhide HC3]
            unfold hand
            clear HC3
            simp_all
        | false =>
          rw [h4] at Hwi
          go_wp2_with (first
            | (refine wpList_lg 30 _ rfl ?_; refine ⟨_, 30, _, (0, 0), _, rfl, unhide HB, Tryz.underlying30, rfl, infoMail, rfl, ?_⟩)
            | (go_at_call 67; refine world_at (C := fun W => Calls Tryz.prog 67 #[.int .i64 p.frm] W _) (R := fun Y => Blk Y w.heap.size (mcc { p with root := 0, copy := [] } { l with ca := none, cc := 0 }) 30 ∧ Kept [] w Y) ⟨unhide HB2, unhide HK2⟩ ?_; clear HB2 HK2 HB HK d0 d1 d2 d3 d4 d5 d6 d7 d8 d9 d10 d11 d12 d13 d14 d15 d16 d17 d18 d19 f5 f6; rintro Y ⟨hby, hky⟩; obtain ⟨d0, d1, d2, d3, d4, d5, d6, d7, d8, d9, d10, d11, d12, d13, d14, d15, d16, d17, d18, d19⟩ := box20 hby; have HB := hide hby; have HK := hide hky; clear hby hky; refine (Hsf _).mono ?_; rintro e w3 ⟨rfl, hz⟩; have hz2 := hz.symm; subst hz2; clear hz)
            | (go_at_call 67; refine (Hsf _).mono ?_; rintro e w3 ⟨rfl, hz⟩; have hz2 := hz.symm; subst hz2; clear hz)
            | (go_at_call 67; refine (Hsd _).mono ?_; rintro e w3 ⟨rfl, hz⟩; have hz2 := hz.symm; subst hz2; clear hz)
            | (go_at_call 47; refine (Hwi _).mono ?_; rintro e w3 ⟨rfl, hz⟩; have hz2 := hz.symm; subst hz2; clear hz)
            | (go_at_call 74; refine (Hnc _).mono ?_; rintro e w3 ⟨rfl, hz⟩; have hk := (unhide HK).step hz; have hb := (unhide HB).kept hz (by simp); clear HK HB; have HK := hide hk; have HB := hide hb; (try clear d0 d1 d2 d3 d4 d5 d6 d7 d8 d9 d10 d11 d12 d13 d14 d15 d16 d17 d18 d19); obtain ⟨d0, d1, d2, d3, d4, d5, d6, d7, d8, d9, d10, d11, d12, d13, d14, d15, d16, d17, d18, d19⟩ := box20 (unhide HB); clear hk hb hz)
            | (go_at_call 75; refine (Hnl _).mono ?_; rintro e w3 ⟨rfl, hz⟩; have hk := (unhide HK).step hz; have hb := (unhide HB).kept hz (by simp); clear HK HB; have HK := hide hk; have HB := hide hb; (try clear d0 d1 d2 d3 d4 d5 d6 d7 d8 d9 d10 d11 d12 d13 d14 d15 d16 d17 d18 d19); obtain ⟨d0, d1, d2, d3, d4, d5, d6, d7, d8, d9, d10, d11, d12, d13, d14, d15, d16, d17, d18, d19⟩ := box20 (unhide HB); clear hk hb hz))
          all_goals
            go_ret
            refine ⟨ret_bool ?_, (by first | exact unhide HK | exact (unhide HK).drew | exact (unhide HK).drewN _)⟩
            clear d0 d1 d2 d3 d4 d5 d6 d7 d8 d9 d10 d11 d12 d13 d14 d15 d16 d17 d18 d19 hc2
            rw [sKind3_eq hk0, unhide HC3]
            unfold hand
            clear HC3
            simp_all
      | false =>
        go_wp2_with (first
          | (refine wpList_lg 30 _ rfl ?_; refine ⟨_, 30, _, (0, 0), _, rfl, unhide HB, Tryz.underlying30, rfl, infoMail, rfl, ?_⟩)
          | (go_at_call 67; refine world_at (C := fun W => Calls Tryz.prog 67 #[.int .i64 p.frm] W _) (R := fun Y => Blk Y w.heap.size (mcc { p with root := 0, copy := [] } { l with ca := none, cc := 0 }) 30 ∧ Kept [] w Y) ⟨unhide HB2, unhide HK2⟩ ?_; clear HB2 HK2 HB HK d0 d1 d2 d3 d4 d5 d6 d7 d8 d9 d10 d11 d12 d13 d14 d15 d16 d17 d18 d19 f5 f6; rintro Y ⟨hby, hky⟩; obtain ⟨d0, d1, d2, d3, d4, d5, d6, d7, d8, d9, d10, d11, d12, d13, d14, d15, d16, d17, d18, d19⟩ := box20 hby; have HB := hide hby; have HK := hide hky; clear hby hky; refine (Hsf _).mono ?_; rintro e w3 ⟨rfl, hz⟩; have hz2 := hz.symm; subst hz2; clear hz)
          | (go_at_call 67; refine (Hsf _).mono ?_; rintro e w3 ⟨rfl, hz⟩; have hz2 := hz.symm; subst hz2; clear hz)
          | (go_at_call 67; refine (Hsd _).mono ?_; rintro e w3 ⟨rfl, hz⟩; have hz2 := hz.symm; subst hz2; clear hz)
          | (go_at_call 47; refine (Hwi _).mono ?_; rintro e w3 ⟨rfl, hz⟩; have hz2 := hz.symm; subst hz2; clear hz)
          | (go_at_call 74; refine (Hnc _).mono ?_; rintro e w3 ⟨rfl, hz⟩; have hk := (unhide HK).step hz; have hb := (unhide HB).kept hz (by simp); clear HK HB; have HK := hide hk; have HB := hide hb; (try clear d0 d1 d2 d3 d4 d5 d6 d7 d8 d9 d10 d11 d12 d13 d14 d15 d16 d17 d18 d19); obtain ⟨d0, d1, d2, d3, d4, d5, d6, d7, d8, d9, d10, d11, d12, d13, d14, d15, d16, d17, d18, d19⟩ := box20 (unhide HB); clear hk hb hz)
          | (go_at_call 75; refine (Hnl _).mono ?_; rintro e w3 ⟨rfl, hz⟩; have hk := (unhide HK).step hz; have hb := (unhide HB).kept hz (by simp); clear HK HB; have HK := hide hk; have HB := hide hb; (try clear d0 d1 d2 d3 d4 d5 d6 d7 d8 d9 d10 d11 d12 d13 d14 d15 d16 d17 d18 d19); obtain ⟨d0, d1, d2, d3, d4, d5, d6, d7, d8, d9, d10, d11, d12, d13, d14, d15, d16, d17, d18, d19⟩ := box20 (unhide HB); clear hk hb hz))
        all_goals
          go_ret
          refine ⟨ret_bool ?_, (by first | exact unhide HK | exact (unhide HK).drew | exact (unhide HK).drewN _)⟩
          clear d0 d1 d2 d3 d4 d5 d6 d7 d8 d9 d10 d11 d12 d13 d14 d15 d16 d17 d18 d19 hc2
          rw [sKind3_eq hk0, unhide HC3]
          unfold hand
          clear HC3
          simp_all
    | false =>
      rw [h2] at Hsd
      go_wp2_with (first
        | (refine wpList_lg 30 _ rfl ?_; refine ⟨_, 30, _, (0, 0), _, rfl, unhide HB, Tryz.underlying30, rfl, infoMail, rfl, ?_⟩)
        | (go_at_call 67; refine world_at (C := fun W => Calls Tryz.prog 67 #[.int .i64 p.frm] W _) (R := fun Y => Blk Y w.heap.size (mcc { p with root := 0, copy := [] } { l with ca := none, cc := 0 }) 30 ∧ Kept [] w Y) ⟨unhide HB2, unhide HK2⟩ ?_; clear HB2 HK2 HB HK d0 d1 d2 d3 d4 d5 d6 d7 d8 d9 d10 d11 d12 d13 d14 d15 d16 d17 d18 d19 f5 f6; rintro Y ⟨hby, hky⟩; obtain ⟨d0, d1, d2, d3, d4, d5, d6, d7, d8, d9, d10, d11, d12, d13, d14, d15, d16, d17, d18, d19⟩ := box20 hby; have HB := hide hby; have HK := hide hky; clear hby hky; refine (Hsf _).mono ?_; rintro e w3 ⟨rfl, hz⟩; have hz2 := hz.symm; subst hz2; clear hz)
        | (go_at_call 67; refine (Hsf _).mono ?_; rintro e w3 ⟨rfl, hz⟩; have hz2 := hz.symm; subst hz2; clear hz)
        | (go_at_call 67; refine (Hsd _).mono ?_; rintro e w3 ⟨rfl, hz⟩; have hz2 := hz.symm; subst hz2; clear hz)
        | (go_at_call 47; refine (Hwi _).mono ?_; rintro e w3 ⟨rfl, hz⟩; have hz2 := hz.symm; subst hz2; clear hz)
        | (go_at_call 74; refine (Hnc _).mono ?_; rintro e w3 ⟨rfl, hz⟩; have hk := (unhide HK).step hz; have hb := (unhide HB).kept hz (by simp); clear HK HB; have HK := hide hk; have HB := hide hb; (try clear d0 d1 d2 d3 d4 d5 d6 d7 d8 d9 d10 d11 d12 d13 d14 d15 d16 d17 d18 d19); obtain ⟨d0, d1, d2, d3, d4, d5, d6, d7, d8, d9, d10, d11, d12, d13, d14, d15, d16, d17, d18, d19⟩ := box20 (unhide HB); clear hk hb hz)
        | (go_at_call 75; refine (Hnl _).mono ?_; rintro e w3 ⟨rfl, hz⟩; have hk := (unhide HK).step hz; have hb := (unhide HB).kept hz (by simp); clear HK HB; have HK := hide hk; have HB := hide hb; (try clear d0 d1 d2 d3 d4 d5 d6 d7 d8 d9 d10 d11 d12 d13 d14 d15 d16 d17 d18 d19); obtain ⟨d0, d1, d2, d3, d4, d5, d6, d7, d8, d9, d10, d11, d12, d13, d14, d15, d16, d17, d18, d19⟩ := box20 (unhide HB); clear hk hb hz))
      all_goals
        go_ret
        refine ⟨ret_bool ?_, (by first | exact unhide HK | exact (unhide HK).drew | exact (unhide HK).drewN _)⟩
        clear d0 d1 d2 d3 d4 d5 d6 d7 d8 d9 d10 d11 d12 d13 d14 d15 d16 d17 d18 d19 hc2
        rw [sKind3_eq hk0, unhide HC3]
        unfold hand
        clear HC3
        simp_all
  | false =>
    rw [h1] at Hsf
    go_wp2_with (first
      | (refine wpList_lg 30 _ rfl ?_; refine ⟨_, 30, _, (0, 0), _, rfl, unhide HB, Tryz.underlying30, rfl, infoMail, rfl, ?_⟩)
      | (go_at_call 67; refine world_at (C := fun W => Calls Tryz.prog 67 #[.int .i64 p.frm] W _) (R := fun Y => Blk Y w.heap.size (mcc { p with root := 0, copy := [] } { l with ca := none, cc := 0 }) 30 ∧ Kept [] w Y) ⟨unhide HB2, unhide HK2⟩ ?_; clear HB2 HK2 HB HK d0 d1 d2 d3 d4 d5 d6 d7 d8 d9 d10 d11 d12 d13 d14 d15 d16 d17 d18 d19 f5 f6; rintro Y ⟨hby, hky⟩; obtain ⟨d0, d1, d2, d3, d4, d5, d6, d7, d8, d9, d10, d11, d12, d13, d14, d15, d16, d17, d18, d19⟩ := box20 hby; have HB := hide hby; have HK := hide hky; clear hby hky; refine (Hsf _).mono ?_; rintro e w3 ⟨rfl, hz⟩; have hz2 := hz.symm; subst hz2; clear hz)
      | (go_at_call 67; refine (Hsf _).mono ?_; rintro e w3 ⟨rfl, hz⟩; have hz2 := hz.symm; subst hz2; clear hz)
      | (go_at_call 67; refine (Hsd _).mono ?_; rintro e w3 ⟨rfl, hz⟩; have hz2 := hz.symm; subst hz2; clear hz)
      | (go_at_call 47; refine (Hwi _).mono ?_; rintro e w3 ⟨rfl, hz⟩; have hz2 := hz.symm; subst hz2; clear hz)
      | (go_at_call 74; refine (Hnc _).mono ?_; rintro e w3 ⟨rfl, hz⟩; have hk := (unhide HK).step hz; have hb := (unhide HB).kept hz (by simp); clear HK HB; have HK := hide hk; have HB := hide hb; (try clear d0 d1 d2 d3 d4 d5 d6 d7 d8 d9 d10 d11 d12 d13 d14 d15 d16 d17 d18 d19); obtain ⟨d0, d1, d2, d3, d4, d5, d6, d7, d8, d9, d10, d11, d12, d13, d14, d15, d16, d17, d18, d19⟩ := box20 (unhide HB); clear hk hb hz)
      | (go_at_call 75; refine (Hnl _).mono ?_; rintro e w3 ⟨rfl, hz⟩; have hk := (unhide HK).step hz; have hb := (unhide HB).kept hz (by simp); clear HK HB; have HK := hide hk; have HB := hide hb; (try clear d0 d1 d2 d3 d4 d5 d6 d7 d8 d9 d10 d11 d12 d13 d14 d15 d16 d17 d18 d19); obtain ⟨d0, d1, d2, d3, d4, d5, d6, d7, d8, d9, d10, d11, d12, d13, d14, d15, d16, d17, d18, d19⟩ := box20 (unhide HB); clear hk hb hz))
    all_goals
      go_ret
      refine ⟨ret_bool ?_, (by first | exact unhide HK | exact (unhide HK).drew | exact (unhide HK).drewN _)⟩
      clear d0 d1 d2 d3 d4 d5 d6 d7 d8 d9 d10 d11 d12 d13 d14 d15 d16 d17 d18 d19 hc2
      rw [sKind3_eq hk0, unhide HC3]
      unfold hand
      clear HC3
      simp_all
set_option maxRecDepth 100000 in
set_option maxHeartbeats 3200000 in
theorem sKind_3b (w : World) (p : Ml) (l : Lm) (hk0 : p.kind = 3) (hc : ¬ p.copy.length ≤ 262144) : Calls Tryz.prog 48 #[mv p l] w fun e w' => e = .returned (.bool (sKind p)) ∧ Kept [] w w' := by
  have Hsf := fun W => isServer_any W p.frm
  unfold mv
  go_enter Tryz.func48, Tryz.ntmps48
  go_upto_region 1 with fail
  refine world_at (R := fun X => Blk X w.heap.size (mcc p l) 30 ∧ Kept [] w X) ⟨Blk.new _ _ _, (Kept.refl [] w).alloc _⟩ ?_
  rintro X ⟨hbx, hkx⟩
  obtain ⟨d0, d1, d2, d3, d4, d5, d6, d7, d8, d9, d10, d11, d12, d13, d14, d15, d16, d17, d18, d19⟩ := box20 hbx
  have HB := hide hbx
  have HK := hide hkx
  clear hbx hkx
  have HC3 := hide (decide_eq_false hc)
  have hc2 : ((262144 : Int) < (p.copy.length : Int)) = True := eq_true (by omega)
  clear hc
  go_wp2_with (first
    | (refine wpList_load_guard 30 _ rfl _ rfl 30 _ (0, 0) _ (unhide HB) Tryz.underlying30 rfl infoMail rfl ?_)
    | (go_at_call 67; refine (Hsf _).mono ?_; rintro e w3 ⟨rfl, hz⟩; have hz2 := hz.symm; subst hz2; clear hz))
  all_goals
    go_ret
    refine ⟨ret_bool ?_, (by first | exact unhide HK | exact (unhide HK).drew | exact (unhide HK).drewN _)⟩
    clear d0 d1 d2 d3 d4 d5 d6 d7 d8 d9 d10 d11 d12 d13 d14 d15 d16 d17 d18 d19 hc2
    rw [sKind3_eq hk0, unhide HC3]
    rfl
theorem sKind_3 (w : World) (p : Ml) (l : Lm) (hk0 : p.kind = 3) : Calls Tryz.prog 48 #[mv p l] w fun e w' => e = .returned (.bool (sKind p)) ∧ Kept [] w w' := by
  by_cases hc : p.copy.length ≤ 262144
  · exact sKind_3a w p l hk0 hc
  · exact sKind_3b w p l hk0 hc
end Go.Proofs.YtfhfkpgfnlmfhaaGreatDoor

/- Sound: kind 4. -/
namespace Go.Proofs.YtfhfkpgfnlmfhaaGreatDoor
open Go.RowKit

set_option maxRecDepth 100000 in
set_option maxHeartbeats 3200000 in
theorem sKind_4 (w : World) (p : Ml) (l : Lm) (hk0 : p.kind = 4) : Calls Tryz.prog 48 #[mv p l] w fun e w' => e = .returned (.bool (sKind p)) ∧ Kept [] w w' := by
  have Hsf := fun W => isServer_any W p.frm
  have Hsd := fun W => isServer_any W p.dst
  have Hwi := fun W => isWithin_any W p.epoch 1 1073741824
  have Hnc := fun W => hasNoCopy_any W p l
  have Hnl := fun W => hasNoCall_any W p l
  unfold mv
  go_enter Tryz.func48, Tryz.ntmps48
  go_upto_region 1 with fail
  refine world_at (R := fun X => Blk X w.heap.size (mcc p l) 30 ∧ Kept [] w X) ⟨Blk.new _ _ _, (Kept.refl [] w).alloc _⟩ ?_
  rintro X ⟨hbx, hkx⟩
  obtain ⟨d0, d1, d2, d3, d4, d5, d6, d7, d8, d9, d10, d11, d12, d13, d14, d15, d16, d17, d18, d19⟩ := box20 hbx
  have HB := hide hbx
  have HK := hide hkx
  clear hbx hkx
  cases h1 : srv p.frm with
  | true =>
    rw [h1] at Hsf
    cases h2 : srv p.dst with
    | true =>
      rw [h2] at Hsd
      cases h3 : (p.frm != p.dst) with
      | true =>
        cases h4 : wthn p.epoch 1 1073741824 with
        | true =>
          rw [h4] at Hwi
          cases h5 : noCopy p with
          | true =>
            rw [h5] at Hnc
            go_wp2_with (first
              | (refine wpList_load_guard 30 _ rfl _ rfl 30 _ (0, 0) _ (unhide HB) Tryz.underlying30 rfl infoMail rfl ?_)
              | (go_at_call 67; refine (Hsf _).mono ?_; rintro e w3 ⟨rfl, hz⟩; have hz2 := hz.symm; subst hz2; clear hz)
              | (go_at_call 67; refine (Hsd _).mono ?_; rintro e w3 ⟨rfl, hz⟩; have hz2 := hz.symm; subst hz2; clear hz)
              | (go_at_call 47; refine (Hwi _).mono ?_; rintro e w3 ⟨rfl, hz⟩; have hz2 := hz.symm; subst hz2; clear hz)
              | (go_at_call 74; refine (Hnc _).mono ?_; rintro e w3 ⟨rfl, hz⟩; have hk := (unhide HK).step hz; have hb := (unhide HB).kept hz (by simp); clear HK HB; have HK := hide hk; have HB := hide hb; (try clear d0 d1 d2 d3 d4 d5 d6 d7 d8 d9 d10 d11 d12 d13 d14 d15 d16 d17 d18 d19); obtain ⟨d0, d1, d2, d3, d4, d5, d6, d7, d8, d9, d10, d11, d12, d13, d14, d15, d16, d17, d18, d19⟩ := box20 (unhide HB); clear hk hb hz)
              | (go_at_call 75; refine (Hnl _).mono ?_; rintro e w3 ⟨rfl, hz⟩; have hk := (unhide HK).step hz; have hb := (unhide HB).kept hz (by simp); clear HK HB; have HK := hide hk; have HB := hide hb; (try clear d0 d1 d2 d3 d4 d5 d6 d7 d8 d9 d10 d11 d12 d13 d14 d15 d16 d17 d18 d19); obtain ⟨d0, d1, d2, d3, d4, d5, d6, d7, d8, d9, d10, d11, d12, d13, d14, d15, d16, d17, d18, d19⟩ := box20 (unhide HB); clear hk hb hz))
            all_goals
              go_ret
              refine ⟨ret_bool ?_, (by first | exact unhide HK | exact (unhide HK).drew | exact (unhide HK).drewN _)⟩
              unfold sKind hand
              clear d0 d1 d2 d3 d4 d5 d6 d7 d8 d9 d10 d11 d12 d13 d14 d15 d16 d17 d18 d19
              first
                | (simp_all; done)
                | (rw [Bool.eq_iff_iff]; simp_all [-List.length_eq_zero_iff]; done)
                | (rw [Bool.eq_iff_iff]; simp_all [-List.length_eq_zero_iff]; omega)
          | false =>
            rw [h5] at Hnc
            go_wp2_with (first
              | (refine wpList_load_guard 30 _ rfl _ rfl 30 _ (0, 0) _ (unhide HB) Tryz.underlying30 rfl infoMail rfl ?_)
              | (go_at_call 67; refine (Hsf _).mono ?_; rintro e w3 ⟨rfl, hz⟩; have hz2 := hz.symm; subst hz2; clear hz)
              | (go_at_call 67; refine (Hsd _).mono ?_; rintro e w3 ⟨rfl, hz⟩; have hz2 := hz.symm; subst hz2; clear hz)
              | (go_at_call 47; refine (Hwi _).mono ?_; rintro e w3 ⟨rfl, hz⟩; have hz2 := hz.symm; subst hz2; clear hz)
              | (go_at_call 74; refine (Hnc _).mono ?_; rintro e w3 ⟨rfl, hz⟩; have hk := (unhide HK).step hz; have hb := (unhide HB).kept hz (by simp); clear HK HB; have HK := hide hk; have HB := hide hb; (try clear d0 d1 d2 d3 d4 d5 d6 d7 d8 d9 d10 d11 d12 d13 d14 d15 d16 d17 d18 d19); obtain ⟨d0, d1, d2, d3, d4, d5, d6, d7, d8, d9, d10, d11, d12, d13, d14, d15, d16, d17, d18, d19⟩ := box20 (unhide HB); clear hk hb hz)
              | (go_at_call 75; refine (Hnl _).mono ?_; rintro e w3 ⟨rfl, hz⟩; have hk := (unhide HK).step hz; have hb := (unhide HB).kept hz (by simp); clear HK HB; have HK := hide hk; have HB := hide hb; (try clear d0 d1 d2 d3 d4 d5 d6 d7 d8 d9 d10 d11 d12 d13 d14 d15 d16 d17 d18 d19); obtain ⟨d0, d1, d2, d3, d4, d5, d6, d7, d8, d9, d10, d11, d12, d13, d14, d15, d16, d17, d18, d19⟩ := box20 (unhide HB); clear hk hb hz))
            all_goals
              go_ret
              refine ⟨ret_bool ?_, (by first | exact unhide HK | exact (unhide HK).drew | exact (unhide HK).drewN _)⟩
              unfold sKind hand
              clear d0 d1 d2 d3 d4 d5 d6 d7 d8 d9 d10 d11 d12 d13 d14 d15 d16 d17 d18 d19
              first
                | (simp_all; done)
                | (rw [Bool.eq_iff_iff]; simp_all [-List.length_eq_zero_iff]; done)
                | (rw [Bool.eq_iff_iff]; simp_all [-List.length_eq_zero_iff]; omega)
        | false =>
          rw [h4] at Hwi
          go_wp2_with (first
            | (refine wpList_load_guard 30 _ rfl _ rfl 30 _ (0, 0) _ (unhide HB) Tryz.underlying30 rfl infoMail rfl ?_)
            | (go_at_call 67; refine (Hsf _).mono ?_; rintro e w3 ⟨rfl, hz⟩; have hz2 := hz.symm; subst hz2; clear hz)
            | (go_at_call 67; refine (Hsd _).mono ?_; rintro e w3 ⟨rfl, hz⟩; have hz2 := hz.symm; subst hz2; clear hz)
            | (go_at_call 47; refine (Hwi _).mono ?_; rintro e w3 ⟨rfl, hz⟩; have hz2 := hz.symm; subst hz2; clear hz)
            | (go_at_call 74; refine (Hnc _).mono ?_; rintro e w3 ⟨rfl, hz⟩; have hk := (unhide HK).step hz; have hb := (unhide HB).kept hz (by simp); clear HK HB; have HK := hide hk; have HB := hide hb; (try clear d0 d1 d2 d3 d4 d5 d6 d7 d8 d9 d10 d11 d12 d13 d14 d15 d16 d17 d18 d19); obtain ⟨d0, d1, d2, d3, d4, d5, d6, d7, d8, d9, d10, d11, d12, d13, d14, d15, d16, d17, d18, d19⟩ := box20 (unhide HB); clear hk hb hz)
            | (go_at_call 75; refine (Hnl _).mono ?_; rintro e w3 ⟨rfl, hz⟩; have hk := (unhide HK).step hz; have hb := (unhide HB).kept hz (by simp); clear HK HB; have HK := hide hk; have HB := hide hb; (try clear d0 d1 d2 d3 d4 d5 d6 d7 d8 d9 d10 d11 d12 d13 d14 d15 d16 d17 d18 d19); obtain ⟨d0, d1, d2, d3, d4, d5, d6, d7, d8, d9, d10, d11, d12, d13, d14, d15, d16, d17, d18, d19⟩ := box20 (unhide HB); clear hk hb hz))
          all_goals
            go_ret
            refine ⟨ret_bool ?_, (by first | exact unhide HK | exact (unhide HK).drew | exact (unhide HK).drewN _)⟩
            unfold sKind hand
            clear d0 d1 d2 d3 d4 d5 d6 d7 d8 d9 d10 d11 d12 d13 d14 d15 d16 d17 d18 d19
            first
              | (simp_all; done)
              | (rw [Bool.eq_iff_iff]; simp_all [-List.length_eq_zero_iff]; done)
              | (rw [Bool.eq_iff_iff]; simp_all [-List.length_eq_zero_iff]; omega)
      | false =>
        go_wp2_with (first
          | (refine wpList_load_guard 30 _ rfl _ rfl 30 _ (0, 0) _ (unhide HB) Tryz.underlying30 rfl infoMail rfl ?_)
          | (go_at_call 67; refine (Hsf _).mono ?_; rintro e w3 ⟨rfl, hz⟩; have hz2 := hz.symm; subst hz2; clear hz)
          | (go_at_call 67; refine (Hsd _).mono ?_; rintro e w3 ⟨rfl, hz⟩; have hz2 := hz.symm; subst hz2; clear hz)
          | (go_at_call 47; refine (Hwi _).mono ?_; rintro e w3 ⟨rfl, hz⟩; have hz2 := hz.symm; subst hz2; clear hz)
          | (go_at_call 74; refine (Hnc _).mono ?_; rintro e w3 ⟨rfl, hz⟩; have hk := (unhide HK).step hz; have hb := (unhide HB).kept hz (by simp); clear HK HB; have HK := hide hk; have HB := hide hb; (try clear d0 d1 d2 d3 d4 d5 d6 d7 d8 d9 d10 d11 d12 d13 d14 d15 d16 d17 d18 d19); obtain ⟨d0, d1, d2, d3, d4, d5, d6, d7, d8, d9, d10, d11, d12, d13, d14, d15, d16, d17, d18, d19⟩ := box20 (unhide HB); clear hk hb hz)
          | (go_at_call 75; refine (Hnl _).mono ?_; rintro e w3 ⟨rfl, hz⟩; have hk := (unhide HK).step hz; have hb := (unhide HB).kept hz (by simp); clear HK HB; have HK := hide hk; have HB := hide hb; (try clear d0 d1 d2 d3 d4 d5 d6 d7 d8 d9 d10 d11 d12 d13 d14 d15 d16 d17 d18 d19); obtain ⟨d0, d1, d2, d3, d4, d5, d6, d7, d8, d9, d10, d11, d12, d13, d14, d15, d16, d17, d18, d19⟩ := box20 (unhide HB); clear hk hb hz))
        all_goals
          go_ret
          refine ⟨ret_bool ?_, (by first | exact unhide HK | exact (unhide HK).drew | exact (unhide HK).drewN _)⟩
          unfold sKind hand
          clear d0 d1 d2 d3 d4 d5 d6 d7 d8 d9 d10 d11 d12 d13 d14 d15 d16 d17 d18 d19
          first
            | (simp_all; done)
            | (rw [Bool.eq_iff_iff]; simp_all [-List.length_eq_zero_iff]; done)
            | (rw [Bool.eq_iff_iff]; simp_all [-List.length_eq_zero_iff]; omega)
    | false =>
      rw [h2] at Hsd
      go_wp2_with (first
        | (refine wpList_load_guard 30 _ rfl _ rfl 30 _ (0, 0) _ (unhide HB) Tryz.underlying30 rfl infoMail rfl ?_)
        | (go_at_call 67; refine (Hsf _).mono ?_; rintro e w3 ⟨rfl, hz⟩; have hz2 := hz.symm; subst hz2; clear hz)
        | (go_at_call 67; refine (Hsd _).mono ?_; rintro e w3 ⟨rfl, hz⟩; have hz2 := hz.symm; subst hz2; clear hz)
        | (go_at_call 47; refine (Hwi _).mono ?_; rintro e w3 ⟨rfl, hz⟩; have hz2 := hz.symm; subst hz2; clear hz)
        | (go_at_call 74; refine (Hnc _).mono ?_; rintro e w3 ⟨rfl, hz⟩; have hk := (unhide HK).step hz; have hb := (unhide HB).kept hz (by simp); clear HK HB; have HK := hide hk; have HB := hide hb; (try clear d0 d1 d2 d3 d4 d5 d6 d7 d8 d9 d10 d11 d12 d13 d14 d15 d16 d17 d18 d19); obtain ⟨d0, d1, d2, d3, d4, d5, d6, d7, d8, d9, d10, d11, d12, d13, d14, d15, d16, d17, d18, d19⟩ := box20 (unhide HB); clear hk hb hz)
        | (go_at_call 75; refine (Hnl _).mono ?_; rintro e w3 ⟨rfl, hz⟩; have hk := (unhide HK).step hz; have hb := (unhide HB).kept hz (by simp); clear HK HB; have HK := hide hk; have HB := hide hb; (try clear d0 d1 d2 d3 d4 d5 d6 d7 d8 d9 d10 d11 d12 d13 d14 d15 d16 d17 d18 d19); obtain ⟨d0, d1, d2, d3, d4, d5, d6, d7, d8, d9, d10, d11, d12, d13, d14, d15, d16, d17, d18, d19⟩ := box20 (unhide HB); clear hk hb hz))
      all_goals
        go_ret
        refine ⟨ret_bool ?_, (by first | exact unhide HK | exact (unhide HK).drew | exact (unhide HK).drewN _)⟩
        unfold sKind hand
        clear d0 d1 d2 d3 d4 d5 d6 d7 d8 d9 d10 d11 d12 d13 d14 d15 d16 d17 d18 d19
        first
          | (simp_all; done)
          | (rw [Bool.eq_iff_iff]; simp_all [-List.length_eq_zero_iff]; done)
          | (rw [Bool.eq_iff_iff]; simp_all [-List.length_eq_zero_iff]; omega)
  | false =>
    rw [h1] at Hsf
    go_wp2_with (first
      | (refine wpList_load_guard 30 _ rfl _ rfl 30 _ (0, 0) _ (unhide HB) Tryz.underlying30 rfl infoMail rfl ?_)
      | (go_at_call 67; refine (Hsf _).mono ?_; rintro e w3 ⟨rfl, hz⟩; have hz2 := hz.symm; subst hz2; clear hz)
      | (go_at_call 67; refine (Hsd _).mono ?_; rintro e w3 ⟨rfl, hz⟩; have hz2 := hz.symm; subst hz2; clear hz)
      | (go_at_call 47; refine (Hwi _).mono ?_; rintro e w3 ⟨rfl, hz⟩; have hz2 := hz.symm; subst hz2; clear hz)
      | (go_at_call 74; refine (Hnc _).mono ?_; rintro e w3 ⟨rfl, hz⟩; have hk := (unhide HK).step hz; have hb := (unhide HB).kept hz (by simp); clear HK HB; have HK := hide hk; have HB := hide hb; (try clear d0 d1 d2 d3 d4 d5 d6 d7 d8 d9 d10 d11 d12 d13 d14 d15 d16 d17 d18 d19); obtain ⟨d0, d1, d2, d3, d4, d5, d6, d7, d8, d9, d10, d11, d12, d13, d14, d15, d16, d17, d18, d19⟩ := box20 (unhide HB); clear hk hb hz)
      | (go_at_call 75; refine (Hnl _).mono ?_; rintro e w3 ⟨rfl, hz⟩; have hk := (unhide HK).step hz; have hb := (unhide HB).kept hz (by simp); clear HK HB; have HK := hide hk; have HB := hide hb; (try clear d0 d1 d2 d3 d4 d5 d6 d7 d8 d9 d10 d11 d12 d13 d14 d15 d16 d17 d18 d19); obtain ⟨d0, d1, d2, d3, d4, d5, d6, d7, d8, d9, d10, d11, d12, d13, d14, d15, d16, d17, d18, d19⟩ := box20 (unhide HB); clear hk hb hz))
    all_goals
      go_ret
      refine ⟨ret_bool ?_, (by first | exact unhide HK | exact (unhide HK).drew | exact (unhide HK).drewN _)⟩
      unfold sKind hand
      clear d0 d1 d2 d3 d4 d5 d6 d7 d8 d9 d10 d11 d12 d13 d14 d15 d16 d17 d18 d19
      first
        | (simp_all; done)
        | (rw [Bool.eq_iff_iff]; simp_all [-List.length_eq_zero_iff]; done)
        | (rw [Bool.eq_iff_iff]; simp_all [-List.length_eq_zero_iff]; omega)
end Go.Proofs.YtfhfkpgfnlmfhaaGreatDoor

/- Sound: kind 5. -/
namespace Go.Proofs.YtfhfkpgfnlmfhaaGreatDoor
open Go.RowKit

set_option maxRecDepth 100000 in
set_option maxHeartbeats 3200000 in
theorem sKind_5 (w : World) (p : Ml) (l : Lm) (hk0 : p.kind = 5) : Calls Tryz.prog 48 #[mv p l] w fun e w' => e = .returned (.bool (sKind p)) ∧ Kept [] w w' := by
  have Hsf := fun W => isServer_any W p.frm
  have Hsd := fun W => isServer_any W p.dst
  have Hwi := fun W => isWithin_any W p.epoch 1 1073741824
  have Hnc := fun W => hasNoCopy_any W p l
  have Hnl := fun W => hasNoCall_any W p l
  unfold mv
  go_enter Tryz.func48, Tryz.ntmps48
  go_upto_region 1 with fail
  refine world_at (R := fun X => Blk X w.heap.size (mcc p l) 30 ∧ Kept [] w X) ⟨Blk.new _ _ _, (Kept.refl [] w).alloc _⟩ ?_
  rintro X ⟨hbx, hkx⟩
  obtain ⟨d0, d1, d2, d3, d4, d5, d6, d7, d8, d9, d10, d11, d12, d13, d14, d15, d16, d17, d18, d19⟩ := box20 hbx
  have HB := hide hbx
  have HK := hide hkx
  clear hbx hkx
  cases h1 : srv p.frm with
  | true =>
    rw [h1] at Hsf
    cases h2 : srv p.dst with
    | true =>
      rw [h2] at Hsd
      cases h3 : (p.frm != p.dst) with
      | true =>
        cases h4 : wthn p.epoch 1 1073741824 with
        | true =>
          rw [h4] at Hwi
          cases h5 : noCopy p with
          | true =>
            rw [h5] at Hnc
            go_wp2_with (first
              | (refine wpList_load_guard 30 _ rfl _ rfl 30 _ (0, 0) _ (unhide HB) Tryz.underlying30 rfl infoMail rfl ?_)
              | (go_at_call 67; refine (Hsf _).mono ?_; rintro e w3 ⟨rfl, hz⟩; have hz2 := hz.symm; subst hz2; clear hz)
              | (go_at_call 67; refine (Hsd _).mono ?_; rintro e w3 ⟨rfl, hz⟩; have hz2 := hz.symm; subst hz2; clear hz)
              | (go_at_call 47; refine (Hwi _).mono ?_; rintro e w3 ⟨rfl, hz⟩; have hz2 := hz.symm; subst hz2; clear hz)
              | (go_at_call 74; refine (Hnc _).mono ?_; rintro e w3 ⟨rfl, hz⟩; have hk := (unhide HK).step hz; have hb := (unhide HB).kept hz (by simp); clear HK HB; have HK := hide hk; have HB := hide hb; (try clear d0 d1 d2 d3 d4 d5 d6 d7 d8 d9 d10 d11 d12 d13 d14 d15 d16 d17 d18 d19); obtain ⟨d0, d1, d2, d3, d4, d5, d6, d7, d8, d9, d10, d11, d12, d13, d14, d15, d16, d17, d18, d19⟩ := box20 (unhide HB); clear hk hb hz)
              | (go_at_call 75; refine (Hnl _).mono ?_; rintro e w3 ⟨rfl, hz⟩; have hk := (unhide HK).step hz; have hb := (unhide HB).kept hz (by simp); clear HK HB; have HK := hide hk; have HB := hide hb; (try clear d0 d1 d2 d3 d4 d5 d6 d7 d8 d9 d10 d11 d12 d13 d14 d15 d16 d17 d18 d19); obtain ⟨d0, d1, d2, d3, d4, d5, d6, d7, d8, d9, d10, d11, d12, d13, d14, d15, d16, d17, d18, d19⟩ := box20 (unhide HB); clear hk hb hz))
            all_goals
              go_ret
              refine ⟨ret_bool ?_, (by first | exact unhide HK | exact (unhide HK).drew | exact (unhide HK).drewN _)⟩
              unfold sKind hand
              clear d0 d1 d2 d3 d4 d5 d6 d7 d8 d9 d10 d11 d12 d13 d14 d15 d16 d17 d18 d19
              first
                | (simp_all; done)
                | (rw [Bool.eq_iff_iff]; simp_all [-List.length_eq_zero_iff]; done)
                | (rw [Bool.eq_iff_iff]; simp_all [-List.length_eq_zero_iff]; omega)
          | false =>
            rw [h5] at Hnc
            go_wp2_with (first
              | (refine wpList_load_guard 30 _ rfl _ rfl 30 _ (0, 0) _ (unhide HB) Tryz.underlying30 rfl infoMail rfl ?_)
              | (go_at_call 67; refine (Hsf _).mono ?_; rintro e w3 ⟨rfl, hz⟩; have hz2 := hz.symm; subst hz2; clear hz)
              | (go_at_call 67; refine (Hsd _).mono ?_; rintro e w3 ⟨rfl, hz⟩; have hz2 := hz.symm; subst hz2; clear hz)
              | (go_at_call 47; refine (Hwi _).mono ?_; rintro e w3 ⟨rfl, hz⟩; have hz2 := hz.symm; subst hz2; clear hz)
              | (go_at_call 74; refine (Hnc _).mono ?_; rintro e w3 ⟨rfl, hz⟩; have hk := (unhide HK).step hz; have hb := (unhide HB).kept hz (by simp); clear HK HB; have HK := hide hk; have HB := hide hb; (try clear d0 d1 d2 d3 d4 d5 d6 d7 d8 d9 d10 d11 d12 d13 d14 d15 d16 d17 d18 d19); obtain ⟨d0, d1, d2, d3, d4, d5, d6, d7, d8, d9, d10, d11, d12, d13, d14, d15, d16, d17, d18, d19⟩ := box20 (unhide HB); clear hk hb hz)
              | (go_at_call 75; refine (Hnl _).mono ?_; rintro e w3 ⟨rfl, hz⟩; have hk := (unhide HK).step hz; have hb := (unhide HB).kept hz (by simp); clear HK HB; have HK := hide hk; have HB := hide hb; (try clear d0 d1 d2 d3 d4 d5 d6 d7 d8 d9 d10 d11 d12 d13 d14 d15 d16 d17 d18 d19); obtain ⟨d0, d1, d2, d3, d4, d5, d6, d7, d8, d9, d10, d11, d12, d13, d14, d15, d16, d17, d18, d19⟩ := box20 (unhide HB); clear hk hb hz))
            all_goals
              go_ret
              refine ⟨ret_bool ?_, (by first | exact unhide HK | exact (unhide HK).drew | exact (unhide HK).drewN _)⟩
              unfold sKind hand
              clear d0 d1 d2 d3 d4 d5 d6 d7 d8 d9 d10 d11 d12 d13 d14 d15 d16 d17 d18 d19
              first
                | (simp_all; done)
                | (rw [Bool.eq_iff_iff]; simp_all [-List.length_eq_zero_iff]; done)
                | (rw [Bool.eq_iff_iff]; simp_all [-List.length_eq_zero_iff]; omega)
        | false =>
          rw [h4] at Hwi
          go_wp2_with (first
            | (refine wpList_load_guard 30 _ rfl _ rfl 30 _ (0, 0) _ (unhide HB) Tryz.underlying30 rfl infoMail rfl ?_)
            | (go_at_call 67; refine (Hsf _).mono ?_; rintro e w3 ⟨rfl, hz⟩; have hz2 := hz.symm; subst hz2; clear hz)
            | (go_at_call 67; refine (Hsd _).mono ?_; rintro e w3 ⟨rfl, hz⟩; have hz2 := hz.symm; subst hz2; clear hz)
            | (go_at_call 47; refine (Hwi _).mono ?_; rintro e w3 ⟨rfl, hz⟩; have hz2 := hz.symm; subst hz2; clear hz)
            | (go_at_call 74; refine (Hnc _).mono ?_; rintro e w3 ⟨rfl, hz⟩; have hk := (unhide HK).step hz; have hb := (unhide HB).kept hz (by simp); clear HK HB; have HK := hide hk; have HB := hide hb; (try clear d0 d1 d2 d3 d4 d5 d6 d7 d8 d9 d10 d11 d12 d13 d14 d15 d16 d17 d18 d19); obtain ⟨d0, d1, d2, d3, d4, d5, d6, d7, d8, d9, d10, d11, d12, d13, d14, d15, d16, d17, d18, d19⟩ := box20 (unhide HB); clear hk hb hz)
            | (go_at_call 75; refine (Hnl _).mono ?_; rintro e w3 ⟨rfl, hz⟩; have hk := (unhide HK).step hz; have hb := (unhide HB).kept hz (by simp); clear HK HB; have HK := hide hk; have HB := hide hb; (try clear d0 d1 d2 d3 d4 d5 d6 d7 d8 d9 d10 d11 d12 d13 d14 d15 d16 d17 d18 d19); obtain ⟨d0, d1, d2, d3, d4, d5, d6, d7, d8, d9, d10, d11, d12, d13, d14, d15, d16, d17, d18, d19⟩ := box20 (unhide HB); clear hk hb hz))
          all_goals
            go_ret
            refine ⟨ret_bool ?_, (by first | exact unhide HK | exact (unhide HK).drew | exact (unhide HK).drewN _)⟩
            unfold sKind hand
            clear d0 d1 d2 d3 d4 d5 d6 d7 d8 d9 d10 d11 d12 d13 d14 d15 d16 d17 d18 d19
            first
              | (simp_all; done)
              | (rw [Bool.eq_iff_iff]; simp_all [-List.length_eq_zero_iff]; done)
              | (rw [Bool.eq_iff_iff]; simp_all [-List.length_eq_zero_iff]; omega)
      | false =>
        go_wp2_with (first
          | (refine wpList_load_guard 30 _ rfl _ rfl 30 _ (0, 0) _ (unhide HB) Tryz.underlying30 rfl infoMail rfl ?_)
          | (go_at_call 67; refine (Hsf _).mono ?_; rintro e w3 ⟨rfl, hz⟩; have hz2 := hz.symm; subst hz2; clear hz)
          | (go_at_call 67; refine (Hsd _).mono ?_; rintro e w3 ⟨rfl, hz⟩; have hz2 := hz.symm; subst hz2; clear hz)
          | (go_at_call 47; refine (Hwi _).mono ?_; rintro e w3 ⟨rfl, hz⟩; have hz2 := hz.symm; subst hz2; clear hz)
          | (go_at_call 74; refine (Hnc _).mono ?_; rintro e w3 ⟨rfl, hz⟩; have hk := (unhide HK).step hz; have hb := (unhide HB).kept hz (by simp); clear HK HB; have HK := hide hk; have HB := hide hb; (try clear d0 d1 d2 d3 d4 d5 d6 d7 d8 d9 d10 d11 d12 d13 d14 d15 d16 d17 d18 d19); obtain ⟨d0, d1, d2, d3, d4, d5, d6, d7, d8, d9, d10, d11, d12, d13, d14, d15, d16, d17, d18, d19⟩ := box20 (unhide HB); clear hk hb hz)
          | (go_at_call 75; refine (Hnl _).mono ?_; rintro e w3 ⟨rfl, hz⟩; have hk := (unhide HK).step hz; have hb := (unhide HB).kept hz (by simp); clear HK HB; have HK := hide hk; have HB := hide hb; (try clear d0 d1 d2 d3 d4 d5 d6 d7 d8 d9 d10 d11 d12 d13 d14 d15 d16 d17 d18 d19); obtain ⟨d0, d1, d2, d3, d4, d5, d6, d7, d8, d9, d10, d11, d12, d13, d14, d15, d16, d17, d18, d19⟩ := box20 (unhide HB); clear hk hb hz))
        all_goals
          go_ret
          refine ⟨ret_bool ?_, (by first | exact unhide HK | exact (unhide HK).drew | exact (unhide HK).drewN _)⟩
          unfold sKind hand
          clear d0 d1 d2 d3 d4 d5 d6 d7 d8 d9 d10 d11 d12 d13 d14 d15 d16 d17 d18 d19
          first
            | (simp_all; done)
            | (rw [Bool.eq_iff_iff]; simp_all [-List.length_eq_zero_iff]; done)
            | (rw [Bool.eq_iff_iff]; simp_all [-List.length_eq_zero_iff]; omega)
    | false =>
      rw [h2] at Hsd
      go_wp2_with (first
        | (refine wpList_load_guard 30 _ rfl _ rfl 30 _ (0, 0) _ (unhide HB) Tryz.underlying30 rfl infoMail rfl ?_)
        | (go_at_call 67; refine (Hsf _).mono ?_; rintro e w3 ⟨rfl, hz⟩; have hz2 := hz.symm; subst hz2; clear hz)
        | (go_at_call 67; refine (Hsd _).mono ?_; rintro e w3 ⟨rfl, hz⟩; have hz2 := hz.symm; subst hz2; clear hz)
        | (go_at_call 47; refine (Hwi _).mono ?_; rintro e w3 ⟨rfl, hz⟩; have hz2 := hz.symm; subst hz2; clear hz)
        | (go_at_call 74; refine (Hnc _).mono ?_; rintro e w3 ⟨rfl, hz⟩; have hk := (unhide HK).step hz; have hb := (unhide HB).kept hz (by simp); clear HK HB; have HK := hide hk; have HB := hide hb; (try clear d0 d1 d2 d3 d4 d5 d6 d7 d8 d9 d10 d11 d12 d13 d14 d15 d16 d17 d18 d19); obtain ⟨d0, d1, d2, d3, d4, d5, d6, d7, d8, d9, d10, d11, d12, d13, d14, d15, d16, d17, d18, d19⟩ := box20 (unhide HB); clear hk hb hz)
        | (go_at_call 75; refine (Hnl _).mono ?_; rintro e w3 ⟨rfl, hz⟩; have hk := (unhide HK).step hz; have hb := (unhide HB).kept hz (by simp); clear HK HB; have HK := hide hk; have HB := hide hb; (try clear d0 d1 d2 d3 d4 d5 d6 d7 d8 d9 d10 d11 d12 d13 d14 d15 d16 d17 d18 d19); obtain ⟨d0, d1, d2, d3, d4, d5, d6, d7, d8, d9, d10, d11, d12, d13, d14, d15, d16, d17, d18, d19⟩ := box20 (unhide HB); clear hk hb hz))
      all_goals
        go_ret
        refine ⟨ret_bool ?_, (by first | exact unhide HK | exact (unhide HK).drew | exact (unhide HK).drewN _)⟩
        unfold sKind hand
        clear d0 d1 d2 d3 d4 d5 d6 d7 d8 d9 d10 d11 d12 d13 d14 d15 d16 d17 d18 d19
        first
          | (simp_all; done)
          | (rw [Bool.eq_iff_iff]; simp_all [-List.length_eq_zero_iff]; done)
          | (rw [Bool.eq_iff_iff]; simp_all [-List.length_eq_zero_iff]; omega)
  | false =>
    rw [h1] at Hsf
    go_wp2_with (first
      | (refine wpList_load_guard 30 _ rfl _ rfl 30 _ (0, 0) _ (unhide HB) Tryz.underlying30 rfl infoMail rfl ?_)
      | (go_at_call 67; refine (Hsf _).mono ?_; rintro e w3 ⟨rfl, hz⟩; have hz2 := hz.symm; subst hz2; clear hz)
      | (go_at_call 67; refine (Hsd _).mono ?_; rintro e w3 ⟨rfl, hz⟩; have hz2 := hz.symm; subst hz2; clear hz)
      | (go_at_call 47; refine (Hwi _).mono ?_; rintro e w3 ⟨rfl, hz⟩; have hz2 := hz.symm; subst hz2; clear hz)
      | (go_at_call 74; refine (Hnc _).mono ?_; rintro e w3 ⟨rfl, hz⟩; have hk := (unhide HK).step hz; have hb := (unhide HB).kept hz (by simp); clear HK HB; have HK := hide hk; have HB := hide hb; (try clear d0 d1 d2 d3 d4 d5 d6 d7 d8 d9 d10 d11 d12 d13 d14 d15 d16 d17 d18 d19); obtain ⟨d0, d1, d2, d3, d4, d5, d6, d7, d8, d9, d10, d11, d12, d13, d14, d15, d16, d17, d18, d19⟩ := box20 (unhide HB); clear hk hb hz)
      | (go_at_call 75; refine (Hnl _).mono ?_; rintro e w3 ⟨rfl, hz⟩; have hk := (unhide HK).step hz; have hb := (unhide HB).kept hz (by simp); clear HK HB; have HK := hide hk; have HB := hide hb; (try clear d0 d1 d2 d3 d4 d5 d6 d7 d8 d9 d10 d11 d12 d13 d14 d15 d16 d17 d18 d19); obtain ⟨d0, d1, d2, d3, d4, d5, d6, d7, d8, d9, d10, d11, d12, d13, d14, d15, d16, d17, d18, d19⟩ := box20 (unhide HB); clear hk hb hz))
    all_goals
      go_ret
      refine ⟨ret_bool ?_, (by first | exact unhide HK | exact (unhide HK).drew | exact (unhide HK).drewN _)⟩
      unfold sKind hand
      clear d0 d1 d2 d3 d4 d5 d6 d7 d8 d9 d10 d11 d12 d13 d14 d15 d16 d17 d18 d19
      first
        | (simp_all; done)
        | (rw [Bool.eq_iff_iff]; simp_all [-List.length_eq_zero_iff]; done)
        | (rw [Bool.eq_iff_iff]; simp_all [-List.length_eq_zero_iff]; omega)
end Go.Proofs.YtfhfkpgfnlmfhaaGreatDoor

/- Sound: kind 6. -/
namespace Go.Proofs.YtfhfkpgfnlmfhaaGreatDoor
open Go.RowKit

set_option maxRecDepth 100000 in
set_option maxHeartbeats 3200000 in
theorem sKind_6 (w : World) (p : Ml) (l : Lm) (hk0 : p.kind = 6) : Calls Tryz.prog 48 #[mv p l] w fun e w' => e = .returned (.bool (sKind p)) ∧ Kept [] w w' := by
  have Hsf := fun W => isServer_any W p.frm
  have Hsd := fun W => isServer_any W p.dst
  have Hwi := fun W => isWithin_any W p.epoch 1 1073741824
  have Hnc := fun W => hasNoCopy_any W p l
  have Hnl := fun W => hasNoCall_any W p l
  unfold mv
  go_enter Tryz.func48, Tryz.ntmps48
  go_upto_region 1 with fail
  refine world_at (R := fun X => Blk X w.heap.size (mcc p l) 30 ∧ Kept [] w X) ⟨Blk.new _ _ _, (Kept.refl [] w).alloc _⟩ ?_
  rintro X ⟨hbx, hkx⟩
  obtain ⟨d0, d1, d2, d3, d4, d5, d6, d7, d8, d9, d10, d11, d12, d13, d14, d15, d16, d17, d18, d19⟩ := box20 hbx
  have HB := hide hbx
  have HK := hide hkx
  clear hbx hkx
  cases h1 : srv p.frm with
  | true =>
    rw [h1] at Hsf
    cases h2 : srv p.dst with
    | true =>
      rw [h2] at Hsd
      cases h3 : (p.frm != p.dst) with
      | true =>
        cases h4 : wthn p.epoch 1 1073741824 with
        | true =>
          rw [h4] at Hwi
          cases h5 : noCopy p with
          | true =>
            rw [h5] at Hnc
            go_wp2_with (first
              | (refine wpList_load_guard 30 _ rfl _ rfl 30 _ (0, 0) _ (unhide HB) Tryz.underlying30 rfl infoMail rfl ?_)
              | (go_at_call 67; refine (Hsf _).mono ?_; rintro e w3 ⟨rfl, hz⟩; have hz2 := hz.symm; subst hz2; clear hz)
              | (go_at_call 67; refine (Hsd _).mono ?_; rintro e w3 ⟨rfl, hz⟩; have hz2 := hz.symm; subst hz2; clear hz)
              | (go_at_call 47; refine (Hwi _).mono ?_; rintro e w3 ⟨rfl, hz⟩; have hz2 := hz.symm; subst hz2; clear hz)
              | (go_at_call 74; refine (Hnc _).mono ?_; rintro e w3 ⟨rfl, hz⟩; have hk := (unhide HK).step hz; have hb := (unhide HB).kept hz (by simp); clear HK HB; have HK := hide hk; have HB := hide hb; (try clear d0 d1 d2 d3 d4 d5 d6 d7 d8 d9 d10 d11 d12 d13 d14 d15 d16 d17 d18 d19); obtain ⟨d0, d1, d2, d3, d4, d5, d6, d7, d8, d9, d10, d11, d12, d13, d14, d15, d16, d17, d18, d19⟩ := box20 (unhide HB); clear hk hb hz)
              | (go_at_call 75; refine (Hnl _).mono ?_; rintro e w3 ⟨rfl, hz⟩; have hk := (unhide HK).step hz; have hb := (unhide HB).kept hz (by simp); clear HK HB; have HK := hide hk; have HB := hide hb; (try clear d0 d1 d2 d3 d4 d5 d6 d7 d8 d9 d10 d11 d12 d13 d14 d15 d16 d17 d18 d19); obtain ⟨d0, d1, d2, d3, d4, d5, d6, d7, d8, d9, d10, d11, d12, d13, d14, d15, d16, d17, d18, d19⟩ := box20 (unhide HB); clear hk hb hz))
            all_goals
              go_ret
              refine ⟨ret_bool ?_, (by first | exact unhide HK | exact (unhide HK).drew | exact (unhide HK).drewN _)⟩
              unfold sKind hand
              clear d0 d1 d2 d3 d4 d5 d6 d7 d8 d9 d10 d11 d12 d13 d14 d15 d16 d17 d18 d19
              first
                | (simp_all; done)
                | (rw [Bool.eq_iff_iff]; simp_all [-List.length_eq_zero_iff]; done)
                | (rw [Bool.eq_iff_iff]; simp_all [-List.length_eq_zero_iff]; omega)
          | false =>
            rw [h5] at Hnc
            go_wp2_with (first
              | (refine wpList_load_guard 30 _ rfl _ rfl 30 _ (0, 0) _ (unhide HB) Tryz.underlying30 rfl infoMail rfl ?_)
              | (go_at_call 67; refine (Hsf _).mono ?_; rintro e w3 ⟨rfl, hz⟩; have hz2 := hz.symm; subst hz2; clear hz)
              | (go_at_call 67; refine (Hsd _).mono ?_; rintro e w3 ⟨rfl, hz⟩; have hz2 := hz.symm; subst hz2; clear hz)
              | (go_at_call 47; refine (Hwi _).mono ?_; rintro e w3 ⟨rfl, hz⟩; have hz2 := hz.symm; subst hz2; clear hz)
              | (go_at_call 74; refine (Hnc _).mono ?_; rintro e w3 ⟨rfl, hz⟩; have hk := (unhide HK).step hz; have hb := (unhide HB).kept hz (by simp); clear HK HB; have HK := hide hk; have HB := hide hb; (try clear d0 d1 d2 d3 d4 d5 d6 d7 d8 d9 d10 d11 d12 d13 d14 d15 d16 d17 d18 d19); obtain ⟨d0, d1, d2, d3, d4, d5, d6, d7, d8, d9, d10, d11, d12, d13, d14, d15, d16, d17, d18, d19⟩ := box20 (unhide HB); clear hk hb hz)
              | (go_at_call 75; refine (Hnl _).mono ?_; rintro e w3 ⟨rfl, hz⟩; have hk := (unhide HK).step hz; have hb := (unhide HB).kept hz (by simp); clear HK HB; have HK := hide hk; have HB := hide hb; (try clear d0 d1 d2 d3 d4 d5 d6 d7 d8 d9 d10 d11 d12 d13 d14 d15 d16 d17 d18 d19); obtain ⟨d0, d1, d2, d3, d4, d5, d6, d7, d8, d9, d10, d11, d12, d13, d14, d15, d16, d17, d18, d19⟩ := box20 (unhide HB); clear hk hb hz))
            all_goals
              go_ret
              refine ⟨ret_bool ?_, (by first | exact unhide HK | exact (unhide HK).drew | exact (unhide HK).drewN _)⟩
              unfold sKind hand
              clear d0 d1 d2 d3 d4 d5 d6 d7 d8 d9 d10 d11 d12 d13 d14 d15 d16 d17 d18 d19
              first
                | (simp_all; done)
                | (rw [Bool.eq_iff_iff]; simp_all [-List.length_eq_zero_iff]; done)
                | (rw [Bool.eq_iff_iff]; simp_all [-List.length_eq_zero_iff]; omega)
        | false =>
          rw [h4] at Hwi
          go_wp2_with (first
            | (refine wpList_load_guard 30 _ rfl _ rfl 30 _ (0, 0) _ (unhide HB) Tryz.underlying30 rfl infoMail rfl ?_)
            | (go_at_call 67; refine (Hsf _).mono ?_; rintro e w3 ⟨rfl, hz⟩; have hz2 := hz.symm; subst hz2; clear hz)
            | (go_at_call 67; refine (Hsd _).mono ?_; rintro e w3 ⟨rfl, hz⟩; have hz2 := hz.symm; subst hz2; clear hz)
            | (go_at_call 47; refine (Hwi _).mono ?_; rintro e w3 ⟨rfl, hz⟩; have hz2 := hz.symm; subst hz2; clear hz)
            | (go_at_call 74; refine (Hnc _).mono ?_; rintro e w3 ⟨rfl, hz⟩; have hk := (unhide HK).step hz; have hb := (unhide HB).kept hz (by simp); clear HK HB; have HK := hide hk; have HB := hide hb; (try clear d0 d1 d2 d3 d4 d5 d6 d7 d8 d9 d10 d11 d12 d13 d14 d15 d16 d17 d18 d19); obtain ⟨d0, d1, d2, d3, d4, d5, d6, d7, d8, d9, d10, d11, d12, d13, d14, d15, d16, d17, d18, d19⟩ := box20 (unhide HB); clear hk hb hz)
            | (go_at_call 75; refine (Hnl _).mono ?_; rintro e w3 ⟨rfl, hz⟩; have hk := (unhide HK).step hz; have hb := (unhide HB).kept hz (by simp); clear HK HB; have HK := hide hk; have HB := hide hb; (try clear d0 d1 d2 d3 d4 d5 d6 d7 d8 d9 d10 d11 d12 d13 d14 d15 d16 d17 d18 d19); obtain ⟨d0, d1, d2, d3, d4, d5, d6, d7, d8, d9, d10, d11, d12, d13, d14, d15, d16, d17, d18, d19⟩ := box20 (unhide HB); clear hk hb hz))
          all_goals
            go_ret
            refine ⟨ret_bool ?_, (by first | exact unhide HK | exact (unhide HK).drew | exact (unhide HK).drewN _)⟩
            unfold sKind hand
            clear d0 d1 d2 d3 d4 d5 d6 d7 d8 d9 d10 d11 d12 d13 d14 d15 d16 d17 d18 d19
            first
              | (simp_all; done)
              | (rw [Bool.eq_iff_iff]; simp_all [-List.length_eq_zero_iff]; done)
              | (rw [Bool.eq_iff_iff]; simp_all [-List.length_eq_zero_iff]; omega)
      | false =>
        go_wp2_with (first
          | (refine wpList_load_guard 30 _ rfl _ rfl 30 _ (0, 0) _ (unhide HB) Tryz.underlying30 rfl infoMail rfl ?_)
          | (go_at_call 67; refine (Hsf _).mono ?_; rintro e w3 ⟨rfl, hz⟩; have hz2 := hz.symm; subst hz2; clear hz)
          | (go_at_call 67; refine (Hsd _).mono ?_; rintro e w3 ⟨rfl, hz⟩; have hz2 := hz.symm; subst hz2; clear hz)
          | (go_at_call 47; refine (Hwi _).mono ?_; rintro e w3 ⟨rfl, hz⟩; have hz2 := hz.symm; subst hz2; clear hz)
          | (go_at_call 74; refine (Hnc _).mono ?_; rintro e w3 ⟨rfl, hz⟩; have hk := (unhide HK).step hz; have hb := (unhide HB).kept hz (by simp); clear HK HB; have HK := hide hk; have HB := hide hb; (try clear d0 d1 d2 d3 d4 d5 d6 d7 d8 d9 d10 d11 d12 d13 d14 d15 d16 d17 d18 d19); obtain ⟨d0, d1, d2, d3, d4, d5, d6, d7, d8, d9, d10, d11, d12, d13, d14, d15, d16, d17, d18, d19⟩ := box20 (unhide HB); clear hk hb hz)
          | (go_at_call 75; refine (Hnl _).mono ?_; rintro e w3 ⟨rfl, hz⟩; have hk := (unhide HK).step hz; have hb := (unhide HB).kept hz (by simp); clear HK HB; have HK := hide hk; have HB := hide hb; (try clear d0 d1 d2 d3 d4 d5 d6 d7 d8 d9 d10 d11 d12 d13 d14 d15 d16 d17 d18 d19); obtain ⟨d0, d1, d2, d3, d4, d5, d6, d7, d8, d9, d10, d11, d12, d13, d14, d15, d16, d17, d18, d19⟩ := box20 (unhide HB); clear hk hb hz))
        all_goals
          go_ret
          refine ⟨ret_bool ?_, (by first | exact unhide HK | exact (unhide HK).drew | exact (unhide HK).drewN _)⟩
          unfold sKind hand
          clear d0 d1 d2 d3 d4 d5 d6 d7 d8 d9 d10 d11 d12 d13 d14 d15 d16 d17 d18 d19
          first
            | (simp_all; done)
            | (rw [Bool.eq_iff_iff]; simp_all [-List.length_eq_zero_iff]; done)
            | (rw [Bool.eq_iff_iff]; simp_all [-List.length_eq_zero_iff]; omega)
    | false =>
      rw [h2] at Hsd
      go_wp2_with (first
        | (refine wpList_load_guard 30 _ rfl _ rfl 30 _ (0, 0) _ (unhide HB) Tryz.underlying30 rfl infoMail rfl ?_)
        | (go_at_call 67; refine (Hsf _).mono ?_; rintro e w3 ⟨rfl, hz⟩; have hz2 := hz.symm; subst hz2; clear hz)
        | (go_at_call 67; refine (Hsd _).mono ?_; rintro e w3 ⟨rfl, hz⟩; have hz2 := hz.symm; subst hz2; clear hz)
        | (go_at_call 47; refine (Hwi _).mono ?_; rintro e w3 ⟨rfl, hz⟩; have hz2 := hz.symm; subst hz2; clear hz)
        | (go_at_call 74; refine (Hnc _).mono ?_; rintro e w3 ⟨rfl, hz⟩; have hk := (unhide HK).step hz; have hb := (unhide HB).kept hz (by simp); clear HK HB; have HK := hide hk; have HB := hide hb; (try clear d0 d1 d2 d3 d4 d5 d6 d7 d8 d9 d10 d11 d12 d13 d14 d15 d16 d17 d18 d19); obtain ⟨d0, d1, d2, d3, d4, d5, d6, d7, d8, d9, d10, d11, d12, d13, d14, d15, d16, d17, d18, d19⟩ := box20 (unhide HB); clear hk hb hz)
        | (go_at_call 75; refine (Hnl _).mono ?_; rintro e w3 ⟨rfl, hz⟩; have hk := (unhide HK).step hz; have hb := (unhide HB).kept hz (by simp); clear HK HB; have HK := hide hk; have HB := hide hb; (try clear d0 d1 d2 d3 d4 d5 d6 d7 d8 d9 d10 d11 d12 d13 d14 d15 d16 d17 d18 d19); obtain ⟨d0, d1, d2, d3, d4, d5, d6, d7, d8, d9, d10, d11, d12, d13, d14, d15, d16, d17, d18, d19⟩ := box20 (unhide HB); clear hk hb hz))
      all_goals
        go_ret
        refine ⟨ret_bool ?_, (by first | exact unhide HK | exact (unhide HK).drew | exact (unhide HK).drewN _)⟩
        unfold sKind hand
        clear d0 d1 d2 d3 d4 d5 d6 d7 d8 d9 d10 d11 d12 d13 d14 d15 d16 d17 d18 d19
        first
          | (simp_all; done)
          | (rw [Bool.eq_iff_iff]; simp_all [-List.length_eq_zero_iff]; done)
          | (rw [Bool.eq_iff_iff]; simp_all [-List.length_eq_zero_iff]; omega)
  | false =>
    rw [h1] at Hsf
    go_wp2_with (first
      | (refine wpList_load_guard 30 _ rfl _ rfl 30 _ (0, 0) _ (unhide HB) Tryz.underlying30 rfl infoMail rfl ?_)
      | (go_at_call 67; refine (Hsf _).mono ?_; rintro e w3 ⟨rfl, hz⟩; have hz2 := hz.symm; subst hz2; clear hz)
      | (go_at_call 67; refine (Hsd _).mono ?_; rintro e w3 ⟨rfl, hz⟩; have hz2 := hz.symm; subst hz2; clear hz)
      | (go_at_call 47; refine (Hwi _).mono ?_; rintro e w3 ⟨rfl, hz⟩; have hz2 := hz.symm; subst hz2; clear hz)
      | (go_at_call 74; refine (Hnc _).mono ?_; rintro e w3 ⟨rfl, hz⟩; have hk := (unhide HK).step hz; have hb := (unhide HB).kept hz (by simp); clear HK HB; have HK := hide hk; have HB := hide hb; (try clear d0 d1 d2 d3 d4 d5 d6 d7 d8 d9 d10 d11 d12 d13 d14 d15 d16 d17 d18 d19); obtain ⟨d0, d1, d2, d3, d4, d5, d6, d7, d8, d9, d10, d11, d12, d13, d14, d15, d16, d17, d18, d19⟩ := box20 (unhide HB); clear hk hb hz)
      | (go_at_call 75; refine (Hnl _).mono ?_; rintro e w3 ⟨rfl, hz⟩; have hk := (unhide HK).step hz; have hb := (unhide HB).kept hz (by simp); clear HK HB; have HK := hide hk; have HB := hide hb; (try clear d0 d1 d2 d3 d4 d5 d6 d7 d8 d9 d10 d11 d12 d13 d14 d15 d16 d17 d18 d19); obtain ⟨d0, d1, d2, d3, d4, d5, d6, d7, d8, d9, d10, d11, d12, d13, d14, d15, d16, d17, d18, d19⟩ := box20 (unhide HB); clear hk hb hz))
    all_goals
      go_ret
      refine ⟨ret_bool ?_, (by first | exact unhide HK | exact (unhide HK).drew | exact (unhide HK).drewN _)⟩
      unfold sKind hand
      clear d0 d1 d2 d3 d4 d5 d6 d7 d8 d9 d10 d11 d12 d13 d14 d15 d16 d17 d18 d19
      first
        | (simp_all; done)
        | (rw [Bool.eq_iff_iff]; simp_all [-List.length_eq_zero_iff]; done)
        | (rw [Bool.eq_iff_iff]; simp_all [-List.length_eq_zero_iff]; omega)
end Go.Proofs.YtfhfkpgfnlmfhaaGreatDoor

/- Sound: kind 7. -/
namespace Go.Proofs.YtfhfkpgfnlmfhaaGreatDoor
open Go.RowKit

set_option maxRecDepth 100000 in
set_option maxHeartbeats 3200000 in
theorem sKind_7 (w : World) (p : Ml) (l : Lm) (hk0 : p.kind = 7) : Calls Tryz.prog 48 #[mv p l] w fun e w' => e = .returned (.bool (sKind p)) ∧ Kept [] w w' := by
  have Hsf := fun W => isServer_any W p.frm
  have Hsd := fun W => isServer_any W p.dst
  have Hwi := fun W => isWithin_any W p.epoch 1 1073741824
  have Hnc := fun W => hasNoCopy_any W p l
  have Hnl := fun W => hasNoCall_any W p l
  unfold mv
  go_enter Tryz.func48, Tryz.ntmps48
  go_upto_region 1 with fail
  refine world_at (R := fun X => Blk X w.heap.size (mcc p l) 30 ∧ Kept [] w X) ⟨Blk.new _ _ _, (Kept.refl [] w).alloc _⟩ ?_
  rintro X ⟨hbx, hkx⟩
  obtain ⟨d0, d1, d2, d3, d4, d5, d6, d7, d8, d9, d10, d11, d12, d13, d14, d15, d16, d17, d18, d19⟩ := box20 hbx
  have HB := hide hbx
  have HK := hide hkx
  clear hbx hkx
  cases h1 : srv p.frm with
  | true =>
    rw [h1] at Hsf
    cases h2 : srv p.dst with
    | true =>
      rw [h2] at Hsd
      cases h3 : (p.frm != p.dst) with
      | true =>
        cases h4 : wthn p.epoch 1 1073741824 with
        | true =>
          rw [h4] at Hwi
          cases h5 : noCopy p with
          | true =>
            rw [h5] at Hnc
            go_wp2_with (first
              | (refine wpList_load_guard 30 _ rfl _ rfl 30 _ (0, 0) _ (unhide HB) Tryz.underlying30 rfl infoMail rfl ?_)
              | (go_at_call 67; refine (Hsf _).mono ?_; rintro e w3 ⟨rfl, hz⟩; have hz2 := hz.symm; subst hz2; clear hz)
              | (go_at_call 67; refine (Hsd _).mono ?_; rintro e w3 ⟨rfl, hz⟩; have hz2 := hz.symm; subst hz2; clear hz)
              | (go_at_call 47; refine (Hwi _).mono ?_; rintro e w3 ⟨rfl, hz⟩; have hz2 := hz.symm; subst hz2; clear hz)
              | (go_at_call 74; refine (Hnc _).mono ?_; rintro e w3 ⟨rfl, hz⟩; have hk := (unhide HK).step hz; have hb := (unhide HB).kept hz (by simp); clear HK HB; have HK := hide hk; have HB := hide hb; (try clear d0 d1 d2 d3 d4 d5 d6 d7 d8 d9 d10 d11 d12 d13 d14 d15 d16 d17 d18 d19); obtain ⟨d0, d1, d2, d3, d4, d5, d6, d7, d8, d9, d10, d11, d12, d13, d14, d15, d16, d17, d18, d19⟩ := box20 (unhide HB); clear hk hb hz)
              | (go_at_call 75; refine (Hnl _).mono ?_; rintro e w3 ⟨rfl, hz⟩; have hk := (unhide HK).step hz; have hb := (unhide HB).kept hz (by simp); clear HK HB; have HK := hide hk; have HB := hide hb; (try clear d0 d1 d2 d3 d4 d5 d6 d7 d8 d9 d10 d11 d12 d13 d14 d15 d16 d17 d18 d19); obtain ⟨d0, d1, d2, d3, d4, d5, d6, d7, d8, d9, d10, d11, d12, d13, d14, d15, d16, d17, d18, d19⟩ := box20 (unhide HB); clear hk hb hz))
            all_goals
              go_ret
              refine ⟨ret_bool ?_, (by first | exact unhide HK | exact (unhide HK).drew | exact (unhide HK).drewN _)⟩
              unfold sKind hand
              clear d0 d1 d2 d3 d4 d5 d6 d7 d8 d9 d10 d11 d12 d13 d14 d15 d16 d17 d18 d19
              first
                | (simp_all; done)
                | (rw [Bool.eq_iff_iff]; simp_all [-List.length_eq_zero_iff]; done)
                | (rw [Bool.eq_iff_iff]; simp_all [-List.length_eq_zero_iff]; omega)
          | false =>
            rw [h5] at Hnc
            go_wp2_with (first
              | (refine wpList_load_guard 30 _ rfl _ rfl 30 _ (0, 0) _ (unhide HB) Tryz.underlying30 rfl infoMail rfl ?_)
              | (go_at_call 67; refine (Hsf _).mono ?_; rintro e w3 ⟨rfl, hz⟩; have hz2 := hz.symm; subst hz2; clear hz)
              | (go_at_call 67; refine (Hsd _).mono ?_; rintro e w3 ⟨rfl, hz⟩; have hz2 := hz.symm; subst hz2; clear hz)
              | (go_at_call 47; refine (Hwi _).mono ?_; rintro e w3 ⟨rfl, hz⟩; have hz2 := hz.symm; subst hz2; clear hz)
              | (go_at_call 74; refine (Hnc _).mono ?_; rintro e w3 ⟨rfl, hz⟩; have hk := (unhide HK).step hz; have hb := (unhide HB).kept hz (by simp); clear HK HB; have HK := hide hk; have HB := hide hb; (try clear d0 d1 d2 d3 d4 d5 d6 d7 d8 d9 d10 d11 d12 d13 d14 d15 d16 d17 d18 d19); obtain ⟨d0, d1, d2, d3, d4, d5, d6, d7, d8, d9, d10, d11, d12, d13, d14, d15, d16, d17, d18, d19⟩ := box20 (unhide HB); clear hk hb hz)
              | (go_at_call 75; refine (Hnl _).mono ?_; rintro e w3 ⟨rfl, hz⟩; have hk := (unhide HK).step hz; have hb := (unhide HB).kept hz (by simp); clear HK HB; have HK := hide hk; have HB := hide hb; (try clear d0 d1 d2 d3 d4 d5 d6 d7 d8 d9 d10 d11 d12 d13 d14 d15 d16 d17 d18 d19); obtain ⟨d0, d1, d2, d3, d4, d5, d6, d7, d8, d9, d10, d11, d12, d13, d14, d15, d16, d17, d18, d19⟩ := box20 (unhide HB); clear hk hb hz))
            all_goals
              go_ret
              refine ⟨ret_bool ?_, (by first | exact unhide HK | exact (unhide HK).drew | exact (unhide HK).drewN _)⟩
              unfold sKind hand
              clear d0 d1 d2 d3 d4 d5 d6 d7 d8 d9 d10 d11 d12 d13 d14 d15 d16 d17 d18 d19
              first
                | (simp_all; done)
                | (rw [Bool.eq_iff_iff]; simp_all [-List.length_eq_zero_iff]; done)
                | (rw [Bool.eq_iff_iff]; simp_all [-List.length_eq_zero_iff]; omega)
        | false =>
          rw [h4] at Hwi
          go_wp2_with (first
            | (refine wpList_load_guard 30 _ rfl _ rfl 30 _ (0, 0) _ (unhide HB) Tryz.underlying30 rfl infoMail rfl ?_)
            | (go_at_call 67; refine (Hsf _).mono ?_; rintro e w3 ⟨rfl, hz⟩; have hz2 := hz.symm; subst hz2; clear hz)
            | (go_at_call 67; refine (Hsd _).mono ?_; rintro e w3 ⟨rfl, hz⟩; have hz2 := hz.symm; subst hz2; clear hz)
            | (go_at_call 47; refine (Hwi _).mono ?_; rintro e w3 ⟨rfl, hz⟩; have hz2 := hz.symm; subst hz2; clear hz)
            | (go_at_call 74; refine (Hnc _).mono ?_; rintro e w3 ⟨rfl, hz⟩; have hk := (unhide HK).step hz; have hb := (unhide HB).kept hz (by simp); clear HK HB; have HK := hide hk; have HB := hide hb; (try clear d0 d1 d2 d3 d4 d5 d6 d7 d8 d9 d10 d11 d12 d13 d14 d15 d16 d17 d18 d19); obtain ⟨d0, d1, d2, d3, d4, d5, d6, d7, d8, d9, d10, d11, d12, d13, d14, d15, d16, d17, d18, d19⟩ := box20 (unhide HB); clear hk hb hz)
            | (go_at_call 75; refine (Hnl _).mono ?_; rintro e w3 ⟨rfl, hz⟩; have hk := (unhide HK).step hz; have hb := (unhide HB).kept hz (by simp); clear HK HB; have HK := hide hk; have HB := hide hb; (try clear d0 d1 d2 d3 d4 d5 d6 d7 d8 d9 d10 d11 d12 d13 d14 d15 d16 d17 d18 d19); obtain ⟨d0, d1, d2, d3, d4, d5, d6, d7, d8, d9, d10, d11, d12, d13, d14, d15, d16, d17, d18, d19⟩ := box20 (unhide HB); clear hk hb hz))
          all_goals
            go_ret
            refine ⟨ret_bool ?_, (by first | exact unhide HK | exact (unhide HK).drew | exact (unhide HK).drewN _)⟩
            unfold sKind hand
            clear d0 d1 d2 d3 d4 d5 d6 d7 d8 d9 d10 d11 d12 d13 d14 d15 d16 d17 d18 d19
            first
              | (simp_all; done)
              | (rw [Bool.eq_iff_iff]; simp_all [-List.length_eq_zero_iff]; done)
              | (rw [Bool.eq_iff_iff]; simp_all [-List.length_eq_zero_iff]; omega)
      | false =>
        go_wp2_with (first
          | (refine wpList_load_guard 30 _ rfl _ rfl 30 _ (0, 0) _ (unhide HB) Tryz.underlying30 rfl infoMail rfl ?_)
          | (go_at_call 67; refine (Hsf _).mono ?_; rintro e w3 ⟨rfl, hz⟩; have hz2 := hz.symm; subst hz2; clear hz)
          | (go_at_call 67; refine (Hsd _).mono ?_; rintro e w3 ⟨rfl, hz⟩; have hz2 := hz.symm; subst hz2; clear hz)
          | (go_at_call 47; refine (Hwi _).mono ?_; rintro e w3 ⟨rfl, hz⟩; have hz2 := hz.symm; subst hz2; clear hz)
          | (go_at_call 74; refine (Hnc _).mono ?_; rintro e w3 ⟨rfl, hz⟩; have hk := (unhide HK).step hz; have hb := (unhide HB).kept hz (by simp); clear HK HB; have HK := hide hk; have HB := hide hb; (try clear d0 d1 d2 d3 d4 d5 d6 d7 d8 d9 d10 d11 d12 d13 d14 d15 d16 d17 d18 d19); obtain ⟨d0, d1, d2, d3, d4, d5, d6, d7, d8, d9, d10, d11, d12, d13, d14, d15, d16, d17, d18, d19⟩ := box20 (unhide HB); clear hk hb hz)
          | (go_at_call 75; refine (Hnl _).mono ?_; rintro e w3 ⟨rfl, hz⟩; have hk := (unhide HK).step hz; have hb := (unhide HB).kept hz (by simp); clear HK HB; have HK := hide hk; have HB := hide hb; (try clear d0 d1 d2 d3 d4 d5 d6 d7 d8 d9 d10 d11 d12 d13 d14 d15 d16 d17 d18 d19); obtain ⟨d0, d1, d2, d3, d4, d5, d6, d7, d8, d9, d10, d11, d12, d13, d14, d15, d16, d17, d18, d19⟩ := box20 (unhide HB); clear hk hb hz))
        all_goals
          go_ret
          refine ⟨ret_bool ?_, (by first | exact unhide HK | exact (unhide HK).drew | exact (unhide HK).drewN _)⟩
          unfold sKind hand
          clear d0 d1 d2 d3 d4 d5 d6 d7 d8 d9 d10 d11 d12 d13 d14 d15 d16 d17 d18 d19
          first
            | (simp_all; done)
            | (rw [Bool.eq_iff_iff]; simp_all [-List.length_eq_zero_iff]; done)
            | (rw [Bool.eq_iff_iff]; simp_all [-List.length_eq_zero_iff]; omega)
    | false =>
      rw [h2] at Hsd
      go_wp2_with (first
        | (refine wpList_load_guard 30 _ rfl _ rfl 30 _ (0, 0) _ (unhide HB) Tryz.underlying30 rfl infoMail rfl ?_)
        | (go_at_call 67; refine (Hsf _).mono ?_; rintro e w3 ⟨rfl, hz⟩; have hz2 := hz.symm; subst hz2; clear hz)
        | (go_at_call 67; refine (Hsd _).mono ?_; rintro e w3 ⟨rfl, hz⟩; have hz2 := hz.symm; subst hz2; clear hz)
        | (go_at_call 47; refine (Hwi _).mono ?_; rintro e w3 ⟨rfl, hz⟩; have hz2 := hz.symm; subst hz2; clear hz)
        | (go_at_call 74; refine (Hnc _).mono ?_; rintro e w3 ⟨rfl, hz⟩; have hk := (unhide HK).step hz; have hb := (unhide HB).kept hz (by simp); clear HK HB; have HK := hide hk; have HB := hide hb; (try clear d0 d1 d2 d3 d4 d5 d6 d7 d8 d9 d10 d11 d12 d13 d14 d15 d16 d17 d18 d19); obtain ⟨d0, d1, d2, d3, d4, d5, d6, d7, d8, d9, d10, d11, d12, d13, d14, d15, d16, d17, d18, d19⟩ := box20 (unhide HB); clear hk hb hz)
        | (go_at_call 75; refine (Hnl _).mono ?_; rintro e w3 ⟨rfl, hz⟩; have hk := (unhide HK).step hz; have hb := (unhide HB).kept hz (by simp); clear HK HB; have HK := hide hk; have HB := hide hb; (try clear d0 d1 d2 d3 d4 d5 d6 d7 d8 d9 d10 d11 d12 d13 d14 d15 d16 d17 d18 d19); obtain ⟨d0, d1, d2, d3, d4, d5, d6, d7, d8, d9, d10, d11, d12, d13, d14, d15, d16, d17, d18, d19⟩ := box20 (unhide HB); clear hk hb hz))
      all_goals
        go_ret
        refine ⟨ret_bool ?_, (by first | exact unhide HK | exact (unhide HK).drew | exact (unhide HK).drewN _)⟩
        unfold sKind hand
        clear d0 d1 d2 d3 d4 d5 d6 d7 d8 d9 d10 d11 d12 d13 d14 d15 d16 d17 d18 d19
        first
          | (simp_all; done)
          | (rw [Bool.eq_iff_iff]; simp_all [-List.length_eq_zero_iff]; done)
          | (rw [Bool.eq_iff_iff]; simp_all [-List.length_eq_zero_iff]; omega)
  | false =>
    rw [h1] at Hsf
    go_wp2_with (first
      | (refine wpList_load_guard 30 _ rfl _ rfl 30 _ (0, 0) _ (unhide HB) Tryz.underlying30 rfl infoMail rfl ?_)
      | (go_at_call 67; refine (Hsf _).mono ?_; rintro e w3 ⟨rfl, hz⟩; have hz2 := hz.symm; subst hz2; clear hz)
      | (go_at_call 67; refine (Hsd _).mono ?_; rintro e w3 ⟨rfl, hz⟩; have hz2 := hz.symm; subst hz2; clear hz)
      | (go_at_call 47; refine (Hwi _).mono ?_; rintro e w3 ⟨rfl, hz⟩; have hz2 := hz.symm; subst hz2; clear hz)
      | (go_at_call 74; refine (Hnc _).mono ?_; rintro e w3 ⟨rfl, hz⟩; have hk := (unhide HK).step hz; have hb := (unhide HB).kept hz (by simp); clear HK HB; have HK := hide hk; have HB := hide hb; (try clear d0 d1 d2 d3 d4 d5 d6 d7 d8 d9 d10 d11 d12 d13 d14 d15 d16 d17 d18 d19); obtain ⟨d0, d1, d2, d3, d4, d5, d6, d7, d8, d9, d10, d11, d12, d13, d14, d15, d16, d17, d18, d19⟩ := box20 (unhide HB); clear hk hb hz)
      | (go_at_call 75; refine (Hnl _).mono ?_; rintro e w3 ⟨rfl, hz⟩; have hk := (unhide HK).step hz; have hb := (unhide HB).kept hz (by simp); clear HK HB; have HK := hide hk; have HB := hide hb; (try clear d0 d1 d2 d3 d4 d5 d6 d7 d8 d9 d10 d11 d12 d13 d14 d15 d16 d17 d18 d19); obtain ⟨d0, d1, d2, d3, d4, d5, d6, d7, d8, d9, d10, d11, d12, d13, d14, d15, d16, d17, d18, d19⟩ := box20 (unhide HB); clear hk hb hz))
    all_goals
      go_ret
      refine ⟨ret_bool ?_, (by first | exact unhide HK | exact (unhide HK).drew | exact (unhide HK).drewN _)⟩
      unfold sKind hand
      clear d0 d1 d2 d3 d4 d5 d6 d7 d8 d9 d10 d11 d12 d13 d14 d15 d16 d17 d18 d19
      first
        | (simp_all; done)
        | (rw [Bool.eq_iff_iff]; simp_all [-List.length_eq_zero_iff]; done)
        | (rw [Bool.eq_iff_iff]; simp_all [-List.length_eq_zero_iff]; omega)
end Go.Proofs.YtfhfkpgfnlmfhaaGreatDoor

/- Sound: kind 8. -/
namespace Go.Proofs.YtfhfkpgfnlmfhaaGreatDoor
open Go.RowKit

set_option maxRecDepth 100000 in
set_option maxHeartbeats 3200000 in
theorem sKind_8 (w : World) (p : Ml) (l : Lm) (hk0 : p.kind = 8) : Calls Tryz.prog 48 #[mv p l] w fun e w' => e = .returned (.bool (sKind p)) ∧ Kept [] w w' := by
  have Hsf := fun W => isServer_any W p.frm
  have Hsd := fun W => isServer_any W p.dst
  have Hwi := fun W => isWithin_any W p.epoch 1 1073741824
  have Hnc := fun W => hasNoCopy_any W p l
  have Hnl := fun W => hasNoCall_any W p l
  unfold mv
  go_enter Tryz.func48, Tryz.ntmps48
  go_upto_region 1 with fail
  refine world_at (R := fun X => Blk X w.heap.size (mcc p l) 30 ∧ Kept [] w X) ⟨Blk.new _ _ _, (Kept.refl [] w).alloc _⟩ ?_
  rintro X ⟨hbx, hkx⟩
  obtain ⟨d0, d1, d2, d3, d4, d5, d6, d7, d8, d9, d10, d11, d12, d13, d14, d15, d16, d17, d18, d19⟩ := box20 hbx
  have HB := hide hbx
  have HK := hide hkx
  clear hbx hkx
  cases h1 : srv p.frm with
  | true =>
    rw [h1] at Hsf
    cases h2 : srv p.dst with
    | true =>
      rw [h2] at Hsd
      cases h3 : (p.frm != p.dst) with
      | true =>
        cases h4 : wthn p.epoch 1 1073741824 with
        | true =>
          rw [h4] at Hwi
          cases h5 : noCopy p with
          | true =>
            rw [h5] at Hnc
            go_wp2_with (first
              | (refine wpList_load_guard 30 _ rfl _ rfl 30 _ (0, 0) _ (unhide HB) Tryz.underlying30 rfl infoMail rfl ?_)
              | (go_at_call 67; refine (Hsf _).mono ?_; rintro e w3 ⟨rfl, hz⟩; have hz2 := hz.symm; subst hz2; clear hz)
              | (go_at_call 67; refine (Hsd _).mono ?_; rintro e w3 ⟨rfl, hz⟩; have hz2 := hz.symm; subst hz2; clear hz)
              | (go_at_call 47; refine (Hwi _).mono ?_; rintro e w3 ⟨rfl, hz⟩; have hz2 := hz.symm; subst hz2; clear hz)
              | (go_at_call 74; refine (Hnc _).mono ?_; rintro e w3 ⟨rfl, hz⟩; have hk := (unhide HK).step hz; have hb := (unhide HB).kept hz (by simp); clear HK HB; have HK := hide hk; have HB := hide hb; (try clear d0 d1 d2 d3 d4 d5 d6 d7 d8 d9 d10 d11 d12 d13 d14 d15 d16 d17 d18 d19); obtain ⟨d0, d1, d2, d3, d4, d5, d6, d7, d8, d9, d10, d11, d12, d13, d14, d15, d16, d17, d18, d19⟩ := box20 (unhide HB); clear hk hb hz)
              | (go_at_call 75; refine (Hnl _).mono ?_; rintro e w3 ⟨rfl, hz⟩; have hk := (unhide HK).step hz; have hb := (unhide HB).kept hz (by simp); clear HK HB; have HK := hide hk; have HB := hide hb; (try clear d0 d1 d2 d3 d4 d5 d6 d7 d8 d9 d10 d11 d12 d13 d14 d15 d16 d17 d18 d19); obtain ⟨d0, d1, d2, d3, d4, d5, d6, d7, d8, d9, d10, d11, d12, d13, d14, d15, d16, d17, d18, d19⟩ := box20 (unhide HB); clear hk hb hz))
            all_goals
              go_ret
              refine ⟨ret_bool ?_, (by first | exact unhide HK | exact (unhide HK).drew | exact (unhide HK).drewN _)⟩
              unfold sKind hand
              clear d0 d1 d2 d3 d4 d5 d6 d7 d8 d9 d10 d11 d12 d13 d14 d15 d16 d17 d18 d19
              first
                | (simp_all; done)
                | (rw [Bool.eq_iff_iff]; simp_all [-List.length_eq_zero_iff]; done)
                | (rw [Bool.eq_iff_iff]; simp_all [-List.length_eq_zero_iff]; omega)
          | false =>
            rw [h5] at Hnc
            go_wp2_with (first
              | (refine wpList_load_guard 30 _ rfl _ rfl 30 _ (0, 0) _ (unhide HB) Tryz.underlying30 rfl infoMail rfl ?_)
              | (go_at_call 67; refine (Hsf _).mono ?_; rintro e w3 ⟨rfl, hz⟩; have hz2 := hz.symm; subst hz2; clear hz)
              | (go_at_call 67; refine (Hsd _).mono ?_; rintro e w3 ⟨rfl, hz⟩; have hz2 := hz.symm; subst hz2; clear hz)
              | (go_at_call 47; refine (Hwi _).mono ?_; rintro e w3 ⟨rfl, hz⟩; have hz2 := hz.symm; subst hz2; clear hz)
              | (go_at_call 74; refine (Hnc _).mono ?_; rintro e w3 ⟨rfl, hz⟩; have hk := (unhide HK).step hz; have hb := (unhide HB).kept hz (by simp); clear HK HB; have HK := hide hk; have HB := hide hb; (try clear d0 d1 d2 d3 d4 d5 d6 d7 d8 d9 d10 d11 d12 d13 d14 d15 d16 d17 d18 d19); obtain ⟨d0, d1, d2, d3, d4, d5, d6, d7, d8, d9, d10, d11, d12, d13, d14, d15, d16, d17, d18, d19⟩ := box20 (unhide HB); clear hk hb hz)
              | (go_at_call 75; refine (Hnl _).mono ?_; rintro e w3 ⟨rfl, hz⟩; have hk := (unhide HK).step hz; have hb := (unhide HB).kept hz (by simp); clear HK HB; have HK := hide hk; have HB := hide hb; (try clear d0 d1 d2 d3 d4 d5 d6 d7 d8 d9 d10 d11 d12 d13 d14 d15 d16 d17 d18 d19); obtain ⟨d0, d1, d2, d3, d4, d5, d6, d7, d8, d9, d10, d11, d12, d13, d14, d15, d16, d17, d18, d19⟩ := box20 (unhide HB); clear hk hb hz))
            all_goals
              go_ret
              refine ⟨ret_bool ?_, (by first | exact unhide HK | exact (unhide HK).drew | exact (unhide HK).drewN _)⟩
              unfold sKind hand
              clear d0 d1 d2 d3 d4 d5 d6 d7 d8 d9 d10 d11 d12 d13 d14 d15 d16 d17 d18 d19
              first
                | (simp_all; done)
                | (rw [Bool.eq_iff_iff]; simp_all [-List.length_eq_zero_iff]; done)
                | (rw [Bool.eq_iff_iff]; simp_all [-List.length_eq_zero_iff]; omega)
        | false =>
          rw [h4] at Hwi
          go_wp2_with (first
            | (refine wpList_load_guard 30 _ rfl _ rfl 30 _ (0, 0) _ (unhide HB) Tryz.underlying30 rfl infoMail rfl ?_)
            | (go_at_call 67; refine (Hsf _).mono ?_; rintro e w3 ⟨rfl, hz⟩; have hz2 := hz.symm; subst hz2; clear hz)
            | (go_at_call 67; refine (Hsd _).mono ?_; rintro e w3 ⟨rfl, hz⟩; have hz2 := hz.symm; subst hz2; clear hz)
            | (go_at_call 47; refine (Hwi _).mono ?_; rintro e w3 ⟨rfl, hz⟩; have hz2 := hz.symm; subst hz2; clear hz)
            | (go_at_call 74; refine (Hnc _).mono ?_; rintro e w3 ⟨rfl, hz⟩; have hk := (unhide HK).step hz; have hb := (unhide HB).kept hz (by simp); clear HK HB; have HK := hide hk; have HB := hide hb; (try clear d0 d1 d2 d3 d4 d5 d6 d7 d8 d9 d10 d11 d12 d13 d14 d15 d16 d17 d18 d19); obtain ⟨d0, d1, d2, d3, d4, d5, d6, d7, d8, d9, d10, d11, d12, d13, d14, d15, d16, d17, d18, d19⟩ := box20 (unhide HB); clear hk hb hz)
            | (go_at_call 75; refine (Hnl _).mono ?_; rintro e w3 ⟨rfl, hz⟩; have hk := (unhide HK).step hz; have hb := (unhide HB).kept hz (by simp); clear HK HB; have HK := hide hk; have HB := hide hb; (try clear d0 d1 d2 d3 d4 d5 d6 d7 d8 d9 d10 d11 d12 d13 d14 d15 d16 d17 d18 d19); obtain ⟨d0, d1, d2, d3, d4, d5, d6, d7, d8, d9, d10, d11, d12, d13, d14, d15, d16, d17, d18, d19⟩ := box20 (unhide HB); clear hk hb hz))
          all_goals
            go_ret
            refine ⟨ret_bool ?_, (by first | exact unhide HK | exact (unhide HK).drew | exact (unhide HK).drewN _)⟩
            unfold sKind hand
            clear d0 d1 d2 d3 d4 d5 d6 d7 d8 d9 d10 d11 d12 d13 d14 d15 d16 d17 d18 d19
            first
              | (simp_all; done)
              | (rw [Bool.eq_iff_iff]; simp_all [-List.length_eq_zero_iff]; done)
              | (rw [Bool.eq_iff_iff]; simp_all [-List.length_eq_zero_iff]; omega)
      | false =>
        go_wp2_with (first
          | (refine wpList_load_guard 30 _ rfl _ rfl 30 _ (0, 0) _ (unhide HB) Tryz.underlying30 rfl infoMail rfl ?_)
          | (go_at_call 67; refine (Hsf _).mono ?_; rintro e w3 ⟨rfl, hz⟩; have hz2 := hz.symm; subst hz2; clear hz)
          | (go_at_call 67; refine (Hsd _).mono ?_; rintro e w3 ⟨rfl, hz⟩; have hz2 := hz.symm; subst hz2; clear hz)
          | (go_at_call 47; refine (Hwi _).mono ?_; rintro e w3 ⟨rfl, hz⟩; have hz2 := hz.symm; subst hz2; clear hz)
          | (go_at_call 74; refine (Hnc _).mono ?_; rintro e w3 ⟨rfl, hz⟩; have hk := (unhide HK).step hz; have hb := (unhide HB).kept hz (by simp); clear HK HB; have HK := hide hk; have HB := hide hb; (try clear d0 d1 d2 d3 d4 d5 d6 d7 d8 d9 d10 d11 d12 d13 d14 d15 d16 d17 d18 d19); obtain ⟨d0, d1, d2, d3, d4, d5, d6, d7, d8, d9, d10, d11, d12, d13, d14, d15, d16, d17, d18, d19⟩ := box20 (unhide HB); clear hk hb hz)
          | (go_at_call 75; refine (Hnl _).mono ?_; rintro e w3 ⟨rfl, hz⟩; have hk := (unhide HK).step hz; have hb := (unhide HB).kept hz (by simp); clear HK HB; have HK := hide hk; have HB := hide hb; (try clear d0 d1 d2 d3 d4 d5 d6 d7 d8 d9 d10 d11 d12 d13 d14 d15 d16 d17 d18 d19); obtain ⟨d0, d1, d2, d3, d4, d5, d6, d7, d8, d9, d10, d11, d12, d13, d14, d15, d16, d17, d18, d19⟩ := box20 (unhide HB); clear hk hb hz))
        all_goals
          go_ret
          refine ⟨ret_bool ?_, (by first | exact unhide HK | exact (unhide HK).drew | exact (unhide HK).drewN _)⟩
          unfold sKind hand
          clear d0 d1 d2 d3 d4 d5 d6 d7 d8 d9 d10 d11 d12 d13 d14 d15 d16 d17 d18 d19
          first
            | (simp_all; done)
            | (rw [Bool.eq_iff_iff]; simp_all [-List.length_eq_zero_iff]; done)
            | (rw [Bool.eq_iff_iff]; simp_all [-List.length_eq_zero_iff]; omega)
    | false =>
      rw [h2] at Hsd
      go_wp2_with (first
        | (refine wpList_load_guard 30 _ rfl _ rfl 30 _ (0, 0) _ (unhide HB) Tryz.underlying30 rfl infoMail rfl ?_)
        | (go_at_call 67; refine (Hsf _).mono ?_; rintro e w3 ⟨rfl, hz⟩; have hz2 := hz.symm; subst hz2; clear hz)
        | (go_at_call 67; refine (Hsd _).mono ?_; rintro e w3 ⟨rfl, hz⟩; have hz2 := hz.symm; subst hz2; clear hz)
        | (go_at_call 47; refine (Hwi _).mono ?_; rintro e w3 ⟨rfl, hz⟩; have hz2 := hz.symm; subst hz2; clear hz)
        | (go_at_call 74; refine (Hnc _).mono ?_; rintro e w3 ⟨rfl, hz⟩; have hk := (unhide HK).step hz; have hb := (unhide HB).kept hz (by simp); clear HK HB; have HK := hide hk; have HB := hide hb; (try clear d0 d1 d2 d3 d4 d5 d6 d7 d8 d9 d10 d11 d12 d13 d14 d15 d16 d17 d18 d19); obtain ⟨d0, d1, d2, d3, d4, d5, d6, d7, d8, d9, d10, d11, d12, d13, d14, d15, d16, d17, d18, d19⟩ := box20 (unhide HB); clear hk hb hz)
        | (go_at_call 75; refine (Hnl _).mono ?_; rintro e w3 ⟨rfl, hz⟩; have hk := (unhide HK).step hz; have hb := (unhide HB).kept hz (by simp); clear HK HB; have HK := hide hk; have HB := hide hb; (try clear d0 d1 d2 d3 d4 d5 d6 d7 d8 d9 d10 d11 d12 d13 d14 d15 d16 d17 d18 d19); obtain ⟨d0, d1, d2, d3, d4, d5, d6, d7, d8, d9, d10, d11, d12, d13, d14, d15, d16, d17, d18, d19⟩ := box20 (unhide HB); clear hk hb hz))
      all_goals
        go_ret
        refine ⟨ret_bool ?_, (by first | exact unhide HK | exact (unhide HK).drew | exact (unhide HK).drewN _)⟩
        unfold sKind hand
        clear d0 d1 d2 d3 d4 d5 d6 d7 d8 d9 d10 d11 d12 d13 d14 d15 d16 d17 d18 d19
        first
          | (simp_all; done)
          | (rw [Bool.eq_iff_iff]; simp_all [-List.length_eq_zero_iff]; done)
          | (rw [Bool.eq_iff_iff]; simp_all [-List.length_eq_zero_iff]; omega)
  | false =>
    rw [h1] at Hsf
    go_wp2_with (first
      | (refine wpList_load_guard 30 _ rfl _ rfl 30 _ (0, 0) _ (unhide HB) Tryz.underlying30 rfl infoMail rfl ?_)
      | (go_at_call 67; refine (Hsf _).mono ?_; rintro e w3 ⟨rfl, hz⟩; have hz2 := hz.symm; subst hz2; clear hz)
      | (go_at_call 67; refine (Hsd _).mono ?_; rintro e w3 ⟨rfl, hz⟩; have hz2 := hz.symm; subst hz2; clear hz)
      | (go_at_call 47; refine (Hwi _).mono ?_; rintro e w3 ⟨rfl, hz⟩; have hz2 := hz.symm; subst hz2; clear hz)
      | (go_at_call 74; refine (Hnc _).mono ?_; rintro e w3 ⟨rfl, hz⟩; have hk := (unhide HK).step hz; have hb := (unhide HB).kept hz (by simp); clear HK HB; have HK := hide hk; have HB := hide hb; (try clear d0 d1 d2 d3 d4 d5 d6 d7 d8 d9 d10 d11 d12 d13 d14 d15 d16 d17 d18 d19); obtain ⟨d0, d1, d2, d3, d4, d5, d6, d7, d8, d9, d10, d11, d12, d13, d14, d15, d16, d17, d18, d19⟩ := box20 (unhide HB); clear hk hb hz)
      | (go_at_call 75; refine (Hnl _).mono ?_; rintro e w3 ⟨rfl, hz⟩; have hk := (unhide HK).step hz; have hb := (unhide HB).kept hz (by simp); clear HK HB; have HK := hide hk; have HB := hide hb; (try clear d0 d1 d2 d3 d4 d5 d6 d7 d8 d9 d10 d11 d12 d13 d14 d15 d16 d17 d18 d19); obtain ⟨d0, d1, d2, d3, d4, d5, d6, d7, d8, d9, d10, d11, d12, d13, d14, d15, d16, d17, d18, d19⟩ := box20 (unhide HB); clear hk hb hz))
    all_goals
      go_ret
      refine ⟨ret_bool ?_, (by first | exact unhide HK | exact (unhide HK).drew | exact (unhide HK).drewN _)⟩
      unfold sKind hand
      clear d0 d1 d2 d3 d4 d5 d6 d7 d8 d9 d10 d11 d12 d13 d14 d15 d16 d17 d18 d19
      first
        | (simp_all; done)
        | (rw [Bool.eq_iff_iff]; simp_all [-List.length_eq_zero_iff]; done)
        | (rw [Bool.eq_iff_iff]; simp_all [-List.length_eq_zero_iff]; omega)
end Go.Proofs.YtfhfkpgfnlmfhaaGreatDoor

/- Sound. -/
namespace Go.Proofs.YtfhfkpgfnlmfhaaGreatDoor
open Go.RowKit

set_option maxRecDepth 100000 in
set_option maxHeartbeats 3200000 in
theorem sKind_0 (w : World) (p : Ml) (l : Lm) (hk0 : p.kind ≠ 1 ∧ p.kind ≠ 2 ∧ p.kind ≠ 3 ∧ p.kind ≠ 4 ∧ p.kind ≠ 5 ∧ p.kind ≠ 6 ∧ p.kind ≠ 7 ∧ p.kind ≠ 8) : Calls Tryz.prog 48 #[mv p l] w fun e w' => e = .returned (.bool (sKind p)) ∧ Kept [] w w' := by
  obtain ⟨g1, g2, g3, g4, g5, g6, g7, g8⟩ := hk0
  unfold mv
  go_enter Tryz.func48, Tryz.ntmps48
  go_upto_region 1 with fail
  refine world_at (R := fun X => Blk X w.heap.size (mcc p l) 30 ∧ Kept [] w X) ⟨Blk.new _ _ _, (Kept.refl [] w).alloc _⟩ ?_
  rintro X ⟨hbx, hkx⟩
  obtain ⟨d0, d1, d2, d3, d4, d5, d6, d7, d8, d9, d10, d11, d12, d13, d14, d15, d16, d17, d18, d19⟩ := box20 hbx
  have HB := hide hbx
  have HK := hide hkx
  clear hbx hkx
  go_wp2_with (first
    | (refine wpList_load_guard 30 _ rfl _ rfl 30 _ (0, 0) _ (unhide HB) Tryz.underlying30 rfl infoMail rfl ?_))
  all_goals
    go_ret
    refine ⟨ret_bool ?_, (by first | exact unhide HK | exact (unhide HK).drew | exact (unhide HK).drewN _)⟩
    unfold sKind hand
    clear d0 d1 d2 d3 d4 d5 d6 d7 d8 d9 d10 d11 d12 d13 d14 d15 d16 d17 d18 d19
    first
      | (simp_all; done)
      | (rw [Bool.eq_iff_iff]; simp_all [-List.length_eq_zero_iff]; done)
      | (rw [Bool.eq_iff_iff]; simp_all [-List.length_eq_zero_iff]; omega)
theorem sKind_any (w : World) (p : Ml) (l : Lm) : Calls Tryz.prog 48 #[mv p l] w fun e w' => e = .returned (.bool (sKind p)) ∧ Kept [] w w' := by
  by_cases k1 : p.kind = 1
  · exact sKind_1 w p l k1
  by_cases k2 : p.kind = 2
  · exact sKind_2 w p l k2
  by_cases k3 : p.kind = 3
  · exact sKind_3 w p l k3
  by_cases k4 : p.kind = 4
  · exact sKind_4 w p l k4
  by_cases k5 : p.kind = 5
  · exact sKind_5 w p l k5
  by_cases k6 : p.kind = 6
  · exact sKind_6 w p l k6
  by_cases k7 : p.kind = 7
  · exact sKind_7 w p l k7
  by_cases k8 : p.kind = 8
  · exact sKind_8 w p l k8
  exact sKind_0 w p l ⟨k1, k2, k3, k4, k5, k6, k7, k8⟩
set_option maxRecDepth 100000 in
set_option maxHeartbeats 1600000 in
theorem sound_any (w : World) (p : Ml) (l : Lm) : Calls Tryz.prog 17 #[mv p l] w fun e w' => e = .returned (.bool (snd p)) ∧ Kept [] w w' := by
  have H0 := fun W => isWithin_any W p.shard 0 63
  have H1 := fun W => sKind_any W p l
  unfold mv
  go_enter Tryz.func17, Tryz.ntmps17
  go_upto_region 1 with fail
  refine world_at (R := fun X => Blk X w.heap.size (mcc p l) 30 ∧ Kept [] w X) ⟨Blk.new _ _ _, (Kept.refl [] w).alloc _⟩ ?_
  rintro X ⟨hbx, hkx⟩
  obtain ⟨d0, d1, d2, d3, d4, d5, d6, d7, d8, d9, d10, d11, d12, d13, d14, d15, d16, d17, d18, d19⟩ := box20 hbx
  have HB := hide hbx
  have HK := hide hkx
  clear hbx hkx
  cases h1 : wthn p.shard 0 63 with
  | true =>
    rw [h1] at H0
    go_wp2_with (first
      | (refine wpList_load_guard 30 _ rfl _ rfl 30 _ (0, 0) _ (unhide HB) Tryz.underlying30 rfl infoMail rfl ?_)
      | (go_at_call 47; refine (H0 _).mono ?_; rintro e w3 ⟨rfl, hz⟩; have hz2 := hz.symm; subst hz2; clear hz)
      | (go_at_call 48; refine (H1 _).mono ?_; rintro e w3 ⟨rfl, hz⟩; have hk := (unhide HK).step hz; have hb := (unhide HB).kept hz (by simp); clear HK HB; have HK := hide hk; have HB := hide hb; (try clear d0 d1 d2 d3 d4 d5 d6 d7 d8 d9 d10 d11 d12 d13 d14 d15 d16 d17 d18 d19); obtain ⟨d0, d1, d2, d3, d4, d5, d6, d7, d8, d9, d10, d11, d12, d13, d14, d15, d16, d17, d18, d19⟩ := box20 (unhide HB); clear hk hb hz))
    all_goals
      go_ret
      refine ⟨ret_bool ?_, (by first | exact unhide HK | exact (unhide HK).drew | exact (unhide HK).drewN _)⟩
      unfold snd
      clear d0 d1 d2 d3 d4 d5 d6 d7 d8 d9 d10 d11 d12 d13 d14 d15 d16 d17 d18 d19
      first
        | (simp_all; done)
        | (rw [Bool.eq_iff_iff]; simp_all [-List.length_eq_zero_iff]; done)
        | (rw [Bool.eq_iff_iff]; simp_all [-List.length_eq_zero_iff]; omega)
  | false =>
    rw [h1] at H0
    go_wp2_with (first
      | (refine wpList_load_guard 30 _ rfl _ rfl 30 _ (0, 0) _ (unhide HB) Tryz.underlying30 rfl infoMail rfl ?_)
      | (go_at_call 47; refine (H0 _).mono ?_; rintro e w3 ⟨rfl, hz⟩; have hz2 := hz.symm; subst hz2; clear hz)
      | (go_at_call 48; refine (H1 _).mono ?_; rintro e w3 ⟨rfl, hz⟩; have hk := (unhide HK).step hz; have hb := (unhide HB).kept hz (by simp); clear HK HB; have HK := hide hk; have HB := hide hb; (try clear d0 d1 d2 d3 d4 d5 d6 d7 d8 d9 d10 d11 d12 d13 d14 d15 d16 d17 d18 d19); obtain ⟨d0, d1, d2, d3, d4, d5, d6, d7, d8, d9, d10, d11, d12, d13, d14, d15, d16, d17, d18, d19⟩ := box20 (unhide HB); clear hk hb hz))
    all_goals
      go_ret
      refine ⟨ret_bool ?_, (by first | exact unhide HK | exact (unhide HK).drew | exact (unhide HK).drewN _)⟩
      unfold snd
      clear d0 d1 d2 d3 d4 d5 d6 d7 d8 d9 d10 d11 d12 d13 d14 d15 d16 d17 d18 d19
      first
        | (simp_all; done)
        | (rw [Bool.eq_iff_iff]; simp_all [-List.length_eq_zero_iff]; done)
        | (rw [Bool.eq_iff_iff]; simp_all [-List.length_eq_zero_iff]; omega)
end Go.Proofs.YtfhfkpgfnlmfhaaGreatDoor
