/- A text of the base. -/
import Derived.Test.YtkejpbfbpomjfabPkY
import Derived.Stop.RegionWithIn
/- The entries of a walk, as a sequence. -/
namespace Go.Proofs.Ytkejpbfbpomjfab.tre
open Go.RowKit Go.Shelf
set_option linter.unusedVariables false
attribute [local go_sem] Oper.semAt_some

theorem mid_own {B : Nat} : OwnT B (fun (e : NE) V => Mid V e.1 e.2.1 e.2.2) := by
  intro e X Y row hs hg hr
  obtain ⟨b, u1, u2, u3, u4, h1, h2⟩ := hs
  exact ⟨b, u1, u2, u3, u4, h1, blk_own (β := Unit) (by decide) () X Y row h2 hg hr⟩

/-- operations that defer nothing do in a round what they do anywhere -/
theorem op_round {n l i : Nat} {ops : Array Oper} {Q : Exit → Act → World → Prop} {K : Act → World → Prop} {a : Act} {w : World} (hd : ∀ o ∈ ops, ∀ c, o.op ≠ .defer c)
    (h : wpOpIn Fence.wide n Try.prog ops Q i K a w) : wpOpIn (Fence.wide.inRound l) n Try.prog ops Q i K a w := by
  unfold wpOpIn at *
  cases ho : ops[i]? with
  | none => rw [ho] at h; exact h
  | some o =>
    rw [ho] at h
    simp only at h ⊢
    split
    · rename_i hw
      rw [if_pos hw] at h
      have hnd := hd o (Array.mem_of_getElem? ho)
      refine ⟨fun _ _ => trivial, ?_⟩
      have h2 := h.2
      rw [Oper.semAt_eq _ _ _ hnd] at h2 ⊢
      generalize (execOp a.eval o).run Try.prog w = r at h2
      cases r with
      | ok x w' => cases x <;> exact h2
      | halt x w' => cases x <;> exact h2
    · rename_i hw
      rw [if_neg hw] at h
      exact ⟨fun _ _ => trivial, h.2⟩
theorem any_round {n l : Nat} {md : Region.Mode} {ops : Array Oper} {Q : Exit → Act → World → Prop} (hd : ∀ o ∈ ops, ∀ c, o.op ≠ .defer c) : ∀ (fuel : Nat) {listed : Array Bool} {a : Act} {w : World},
    wpAnyIn Fence.wide n Try.prog md ops Q fuel listed a w → wpAnyIn (Fence.wide.inRound l) n Try.prog md ops Q fuel listed a w
  | 0, _, _, _, h => h
  | fuel + 1, _, _, _, h => ⟨h.1, fun i hi => op_round hd (wpOpIn_mono (fun _ _ => any_round hd fuel) (h.2 i hi))⟩

set_option maxRecDepth 100000 in
set_option maxHeartbeats 2000000 in
theorem entries_seq {w : World} {bn bt bd b0 : Nat} {vt : Value} {s : List TI} (hbn : Blk w bn #[.func (.func 75) #[] #[.pointer (some ⟨bt, 0, none⟩), .pointer (some ⟨bd, 0, none⟩)]] 93) (hbt : Blk w bt #[vt] 95) (hbd : Blk w bd #[.bool false] 4) (hs : NRow b0 w vt s) (hl : (outR s.reverse).length ≤ 8796093022208) :
    SeqO 74 #[.pointer (some ⟨bn, 0, none⟩)] (fun e : ByteArray × VT => #[Value.string e.1, .agg #[.string e.2.1, .int .i64 e.2.2]]) (fun e _ => e ∈ outR s.reverse) (fun xs => xs = outR s.reverse) (fun pre => pre <+: outR s.reverse) (outR s.reverse).length w := by
  intro l J Jx W hW hJ hJx hY h0
  have cbn := (hW.blk hbn (by decide)).cell 0
  simp only [List.getElem?_toArray, List.getElem?_cons_zero] at cbn
  have hka : Kept [] W (W.alloc (.cells #[.func (.yield l) #[] #[]] 116)) := (Kept.refl [] W).alloc _
  have cbn' := hka.cell' cbn
  have hseq := walk_seq hbt hbd hs hl
  refine callsIn_of_wp_marks Try.func74 rfl trivial ?_ rfl
  simp only [Try.ntmps74, List.size_toArray, List.length_cons, List.length_nil, Nat.reduceAdd, Nat.reduceSub, Array.replicate_succ, Array.replicate_zero, List.push_toArray, List.append_toArray, List.nil_append, List.cons_append]
  gi_wp2
  refine range_own (gf := 75) (lb := #[.pointer (some ⟨bt, 0, none⟩), .pointer (some ⟨bd, 0, none⟩)]) rfl (enters_of Try.func75 (by kernel_rfl) rfl) hseq (own_and mid_own (fun _ _ _ _ hs _ _ => hs)) (hW.trans (KpT.of_kept hka)) (fun _ => rfl)
    (fun pre V => (J (pre.map ent) V ∧ Blk V W.heap.size #[.func (.yield l) #[] #[]] 116) ∧ W.heap.size < V.heap.size)
    (fun c pre V => c = .ret ∧ Jx (pre.map ent) V)
    ?hI ?hIx ?h0 (fun x => { tmps := #[.func (.yield l) #[] #[], .pointer (some ⟨bn, 0, none⟩), .pointer (some ⟨W.heap.size, 0, none⟩), .pointer x.1, .func (.func 75) #[] #[.pointer (some ⟨bt, 0, none⟩), .pointer (some ⟨bd, 0, none⟩)], .pointer x.1, undef, undef, undef, undef, undef, undef, undef, undef, undef, undef, undef], defers := [] }) ?assign ?body ?done ?stop
  case hI =>
    refine own_and (own_and (fun s X Y row hs hg hr => own_up hJ (by simp) (s.map ent) X Y row hs hg hr) (blk_own (by decide))) ?_
    intro s X Y row hs hg hr
    exact Nat.lt_of_lt_of_le hs hg.size
  case hIx => exact fun c s X Y row hs hg hr => ⟨hs.1, own_up hJx (by simp) (s.map ent) X Y row hs.2 hg hr⟩
  case h0 => exact ⟨⟨(GrowP.kept hka).own hJ h0, Blk.new _ _ _⟩, by simp⟩
  case assign =>
    intro l2 x V K hK
    gi_wp2
    exact hK
  case body =>
    rintro l2 pre ⟨q, k, x⟩ V ⟨⟨hj, hbx⟩, hsz⟩ ⟨⟨b, u1, u2, u3, u4, e1, hb⟩, hmem⟩ hlen
    simp only at e1 hb
    subst e1
    have cbx := hbx.cell 0
    simp only [List.getElem?_toArray, List.getElem?_cons_zero] at cbx
    obtain ⟨c0, c1, c1s, -, -, -, -⟩ := seven hb
    have hjd : J (pre.map ent) V.drew := (GrowP.kept (Kept.refl [] V).drew).own hJ hj
    obtain ⟨fn, tmps, assign, body, hy, hR⟩ := hY (pre.map ent) (k, x) V.drew (by show W.heap.size ≤ V.heap.size; omega) hjd hmem (by simpa using hlen)
    have HR := hide (hR.mono (R' := fun e V' => ∃ bb : Bool, e = .returned (.bool bb) ∧ KeepsFrom W.heap.size V.drew V' ∧ ((bb = true ∧ KpT V.drew V' ∧ J (pre.map ent ++ [(k, x)]) V') ∨ (bb = false ∧ Jx (pre.map ent ++ [(k, x)]) V'))) (by
      rintro e V' ⟨h1, ⟨rfl, h2, h3⟩ | ⟨rfl, h3⟩⟩
      · exact ⟨true, rfl, h1, Or.inl ⟨rfl, h2, h3⟩⟩
      · exact ⟨false, rfl, h1, Or.inr ⟨rfl, h3⟩⟩))
    have HBX := hide hbx
    clear hR hb hbx
    gi_wp2
    refine wpIn_region_any (by kernel_rfl) (any_round (by intro o ho c; simp at ho; rcases ho with rfl | rfl | rfl | rfl | rfl | rfl | rfl | rfl | rfl | rfl | rfl <;> simp) _ ?_)
    refine wpAnyIn_take (i := 1) (v := .pointer (some ⟨b, 0, none⟩)) rfl rfl (by kernel_rfl) (by kernel_rfl) (by kernel_rfl) (fun _ _ _ h => h) ⟨Or.inl ⟨by rfl, fun w => by go_simp⟩, fun _ => rfl⟩ ?_
    refine wpAnyIn_take (i := 2) (v := .pointer (some ⟨b, 0, none⟩)) rfl rfl (by kernel_rfl) (by kernel_rfl) (by kernel_rfl) (fun _ _ _ h => h) ⟨Or.inl ⟨by rfl, fun w => by go_simp⟩, fun _ => rfl⟩ ?_
    refine wpAnyIn_take (i := 3) (v := .pointer (some ⟨b, 0, none⟩)) rfl rfl (by kernel_rfl) (by kernel_rfl) (by kernel_rfl) (fun _ _ _ h => h) ⟨Or.inl ⟨by rfl, fun w => by go_simp⟩, fun _ => rfl⟩ ?_
    refine wpAnyIn_take (i := 5) (v := .pointer (some ⟨b, 0, none⟩)) rfl rfl (by kernel_rfl) (by kernel_rfl) (by kernel_rfl) (fun _ _ _ h => h) ⟨Or.inl ⟨by rfl, fun w => by go_simp⟩, fun _ => rfl⟩ ?_
    refine wpAnyIn_take (i := 6) (v := .pointer (some ⟨b, 0, none⟩)) rfl rfl (by kernel_rfl) (by kernel_rfl) (by kernel_rfl) (fun _ _ _ h => h) ⟨Or.inl ⟨by rfl, fun w => by go_simp⟩, fun _ => rfl⟩ ?_
    refine wpAnyIn_take (i := 7) (v := .pointer (some ⟨b, 1, none⟩)) rfl rfl (by kernel_rfl) (by kernel_rfl) (by kernel_rfl) (fun _ _ _ h => h) ⟨Or.inl ⟨by rfl, fun w => by go_simp⟩, fun _ => rfl⟩ ?_
    refine wpAnyIn_ready (rs := [0, 4, 8]) (by kernel_rfl) (by simp) ?_
    refine AllReadyIn.cons rfl (fun K hK => ?_) ?_
    · go_simp
      refine hK _ _ ?_
      clear hK K
      refine wpAnyIn_ready (rs := [4, 8]) (by kernel_rfl) (by simp) ?_
      refine AllReadyIn.cons rfl (fun K hK => ?_) ?_
      · go_simp
        refine hK _ _ ?_
        clear hK K
        refine wpAnyIn_ready (rs := [8]) (by kernel_rfl) (by simp) ?_
        refine AllReadyIn.cons rfl (fun K hK => ?_) ?_
        · go_simp
          refine hK _ _ ?_
          clear hK K
          refine wpAnyIn_ready (rs := [9]) (by kernel_rfl) (by simp) ?_
          refine AllReadyIn.cons rfl (fun K hK => ?_) AllReadyIn.nil
          go_simp
          refine ⟨rfl, (unhide HR).mono ?_⟩
          rintro e V4 ⟨bb, rfl, hkf, hbb⟩
          refine hK _ _ ?_
          clear hK K
          refine wpAnyIn_ready (rs := [10]) (by kernel_rfl) (by simp) ?_
          refine AllReadyIn.cons rfl (fun K hK => ?_) AllReadyIn.nil
          go_simp
          refine hK _ _ ?_
          clear hK K
          refine wpAnyIn_done (by kernel_rfl) ?_ _
          have HKF : Hid (KeepsFrom (W.alloc (.cells #[.func (.yield l) #[] #[]] 116)).heap.size V V4) := ⟨hkf.size, fun i o hi h ho => hkf.same i o (by simp at hi; omega) h ho⟩
          rcases hbb with ⟨rfl, hkq, hj4⟩ | ⟨rfl, hjx4⟩
          · have HJ4 := hide hj4
            have HKQ : Hid (KpT V V4) := ⟨hkq.size, hkq.same⟩
            clear hj4 hkf hkq
            gi_wp2
            exact ⟨⟨unhide HKF, unhide HKQ⟩, ⟨by simpa [ent] using unhide HJ4, (unhide HKQ).blk (unhide HBX) (by decide)⟩, Nat.lt_of_lt_of_le hsz (unhide HKQ).size⟩
          · have HJX4 := hide hjx4
            clear hjx4 hkf
            gi_wp2
            exact ⟨unhide HKF, rfl, by simpa [ent] using unhide HJX4⟩
        exact AllReadyIn.nil
      refine AllReadyIn.cons rfl (fun K hK => ?_) ?_
      · go_simp
        refine hK _ _ ?_
        clear hK K
        refine wpAnyIn_ready (rs := [4]) (by kernel_rfl) (by simp) ?_
        refine AllReadyIn.cons rfl (fun K hK => ?_) ?_
        · go_simp
          refine hK _ _ ?_
          clear hK K
          refine wpAnyIn_ready (rs := [9]) (by kernel_rfl) (by simp) ?_
          refine AllReadyIn.cons rfl (fun K hK => ?_) AllReadyIn.nil
          go_simp
          refine ⟨rfl, (unhide HR).mono ?_⟩
          rintro e V4 ⟨bb, rfl, hkf, hbb⟩
          refine hK _ _ ?_
          clear hK K
          refine wpAnyIn_ready (rs := [10]) (by kernel_rfl) (by simp) ?_
          refine AllReadyIn.cons rfl (fun K hK => ?_) AllReadyIn.nil
          go_simp
          refine hK _ _ ?_
          clear hK K
          refine wpAnyIn_done (by kernel_rfl) ?_ _
          have HKF : Hid (KeepsFrom (W.alloc (.cells #[.func (.yield l) #[] #[]] 116)).heap.size V V4) := ⟨hkf.size, fun i o hi h ho => hkf.same i o (by simp at hi; omega) h ho⟩
          rcases hbb with ⟨rfl, hkq, hj4⟩ | ⟨rfl, hjx4⟩
          · have HJ4 := hide hj4
            have HKQ : Hid (KpT V V4) := ⟨hkq.size, hkq.same⟩
            clear hj4 hkf hkq
            gi_wp2
            exact ⟨⟨unhide HKF, unhide HKQ⟩, ⟨by simpa [ent] using unhide HJ4, (unhide HKQ).blk (unhide HBX) (by decide)⟩, Nat.lt_of_lt_of_le hsz (unhide HKQ).size⟩
          · have HJX4 := hide hjx4
            clear hjx4 hkf
            gi_wp2
            exact ⟨unhide HKF, rfl, by simpa [ent] using unhide HJX4⟩
        exact AllReadyIn.nil
      exact AllReadyIn.nil
    refine AllReadyIn.cons rfl (fun K hK => ?_) ?_
    · go_simp
      refine hK _ _ ?_
      clear hK K
      refine wpAnyIn_ready (rs := [0, 8]) (by kernel_rfl) (by simp) ?_
      refine AllReadyIn.cons rfl (fun K hK => ?_) ?_
      · go_simp
        refine hK _ _ ?_
        clear hK K
        refine wpAnyIn_ready (rs := [8]) (by kernel_rfl) (by simp) ?_
        refine AllReadyIn.cons rfl (fun K hK => ?_) ?_
        · go_simp
          refine hK _ _ ?_
          clear hK K
          refine wpAnyIn_ready (rs := [9]) (by kernel_rfl) (by simp) ?_
          refine AllReadyIn.cons rfl (fun K hK => ?_) AllReadyIn.nil
          go_simp
          refine ⟨rfl, (unhide HR).mono ?_⟩
          rintro e V4 ⟨bb, rfl, hkf, hbb⟩
          refine hK _ _ ?_
          clear hK K
          refine wpAnyIn_ready (rs := [10]) (by kernel_rfl) (by simp) ?_
          refine AllReadyIn.cons rfl (fun K hK => ?_) AllReadyIn.nil
          go_simp
          refine hK _ _ ?_
          clear hK K
          refine wpAnyIn_done (by kernel_rfl) ?_ _
          have HKF : Hid (KeepsFrom (W.alloc (.cells #[.func (.yield l) #[] #[]] 116)).heap.size V V4) := ⟨hkf.size, fun i o hi h ho => hkf.same i o (by simp at hi; omega) h ho⟩
          rcases hbb with ⟨rfl, hkq, hj4⟩ | ⟨rfl, hjx4⟩
          · have HJ4 := hide hj4
            have HKQ : Hid (KpT V V4) := ⟨hkq.size, hkq.same⟩
            clear hj4 hkf hkq
            gi_wp2
            exact ⟨⟨unhide HKF, unhide HKQ⟩, ⟨by simpa [ent] using unhide HJ4, (unhide HKQ).blk (unhide HBX) (by decide)⟩, Nat.lt_of_lt_of_le hsz (unhide HKQ).size⟩
          · have HJX4 := hide hjx4
            clear hjx4 hkf
            gi_wp2
            exact ⟨unhide HKF, rfl, by simpa [ent] using unhide HJX4⟩
        exact AllReadyIn.nil
      refine AllReadyIn.cons rfl (fun K hK => ?_) ?_
      · go_simp
        refine hK _ _ ?_
        clear hK K
        refine wpAnyIn_ready (rs := [0]) (by kernel_rfl) (by simp) ?_
        refine AllReadyIn.cons rfl (fun K hK => ?_) ?_
        · go_simp
          refine hK _ _ ?_
          clear hK K
          refine wpAnyIn_ready (rs := [9]) (by kernel_rfl) (by simp) ?_
          refine AllReadyIn.cons rfl (fun K hK => ?_) AllReadyIn.nil
          go_simp
          refine ⟨rfl, (unhide HR).mono ?_⟩
          rintro e V4 ⟨bb, rfl, hkf, hbb⟩
          refine hK _ _ ?_
          clear hK K
          refine wpAnyIn_ready (rs := [10]) (by kernel_rfl) (by simp) ?_
          refine AllReadyIn.cons rfl (fun K hK => ?_) AllReadyIn.nil
          go_simp
          refine hK _ _ ?_
          clear hK K
          refine wpAnyIn_done (by kernel_rfl) ?_ _
          have HKF : Hid (KeepsFrom (W.alloc (.cells #[.func (.yield l) #[] #[]] 116)).heap.size V V4) := ⟨hkf.size, fun i o hi h ho => hkf.same i o (by simp at hi; omega) h ho⟩
          rcases hbb with ⟨rfl, hkq, hj4⟩ | ⟨rfl, hjx4⟩
          · have HJ4 := hide hj4
            have HKQ : Hid (KpT V V4) := ⟨hkq.size, hkq.same⟩
            clear hj4 hkf hkq
            gi_wp2
            exact ⟨⟨unhide HKF, unhide HKQ⟩, ⟨by simpa [ent] using unhide HJ4, (unhide HKQ).blk (unhide HBX) (by decide)⟩, Nat.lt_of_lt_of_le hsz (unhide HKQ).size⟩
          · have HJX4 := hide hjx4
            clear hjx4 hkf
            gi_wp2
            exact ⟨unhide HKF, rfl, by simpa [ent] using unhide HJX4⟩
        exact AllReadyIn.nil
      exact AllReadyIn.nil
    refine AllReadyIn.cons rfl (fun K hK => ?_) ?_
    · go_simp
      refine hK _ _ ?_
      clear hK K
      refine wpAnyIn_ready (rs := [0, 4]) (by kernel_rfl) (by simp) ?_
      refine AllReadyIn.cons rfl (fun K hK => ?_) ?_
      · go_simp
        refine hK _ _ ?_
        clear hK K
        refine wpAnyIn_ready (rs := [4]) (by kernel_rfl) (by simp) ?_
        refine AllReadyIn.cons rfl (fun K hK => ?_) ?_
        · go_simp
          refine hK _ _ ?_
          clear hK K
          refine wpAnyIn_ready (rs := [9]) (by kernel_rfl) (by simp) ?_
          refine AllReadyIn.cons rfl (fun K hK => ?_) AllReadyIn.nil
          go_simp
          refine ⟨rfl, (unhide HR).mono ?_⟩
          rintro e V4 ⟨bb, rfl, hkf, hbb⟩
          refine hK _ _ ?_
          clear hK K
          refine wpAnyIn_ready (rs := [10]) (by kernel_rfl) (by simp) ?_
          refine AllReadyIn.cons rfl (fun K hK => ?_) AllReadyIn.nil
          go_simp
          refine hK _ _ ?_
          clear hK K
          refine wpAnyIn_done (by kernel_rfl) ?_ _
          have HKF : Hid (KeepsFrom (W.alloc (.cells #[.func (.yield l) #[] #[]] 116)).heap.size V V4) := ⟨hkf.size, fun i o hi h ho => hkf.same i o (by simp at hi; omega) h ho⟩
          rcases hbb with ⟨rfl, hkq, hj4⟩ | ⟨rfl, hjx4⟩
          · have HJ4 := hide hj4
            have HKQ : Hid (KpT V V4) := ⟨hkq.size, hkq.same⟩
            clear hj4 hkf hkq
            gi_wp2
            exact ⟨⟨unhide HKF, unhide HKQ⟩, ⟨by simpa [ent] using unhide HJ4, (unhide HKQ).blk (unhide HBX) (by decide)⟩, Nat.lt_of_lt_of_le hsz (unhide HKQ).size⟩
          · have HJX4 := hide hjx4
            clear hjx4 hkf
            gi_wp2
            exact ⟨unhide HKF, rfl, by simpa [ent] using unhide HJX4⟩
        exact AllReadyIn.nil
      refine AllReadyIn.cons rfl (fun K hK => ?_) ?_
      · go_simp
        refine hK _ _ ?_
        clear hK K
        refine wpAnyIn_ready (rs := [0]) (by kernel_rfl) (by simp) ?_
        refine AllReadyIn.cons rfl (fun K hK => ?_) ?_
        · go_simp
          refine hK _ _ ?_
          clear hK K
          refine wpAnyIn_ready (rs := [9]) (by kernel_rfl) (by simp) ?_
          refine AllReadyIn.cons rfl (fun K hK => ?_) AllReadyIn.nil
          go_simp
          refine ⟨rfl, (unhide HR).mono ?_⟩
          rintro e V4 ⟨bb, rfl, hkf, hbb⟩
          refine hK _ _ ?_
          clear hK K
          refine wpAnyIn_ready (rs := [10]) (by kernel_rfl) (by simp) ?_
          refine AllReadyIn.cons rfl (fun K hK => ?_) AllReadyIn.nil
          go_simp
          refine hK _ _ ?_
          clear hK K
          refine wpAnyIn_done (by kernel_rfl) ?_ _
          have HKF : Hid (KeepsFrom (W.alloc (.cells #[.func (.yield l) #[] #[]] 116)).heap.size V V4) := ⟨hkf.size, fun i o hi h ho => hkf.same i o (by simp at hi; omega) h ho⟩
          rcases hbb with ⟨rfl, hkq, hj4⟩ | ⟨rfl, hjx4⟩
          · have HJ4 := hide hj4
            have HKQ : Hid (KpT V V4) := ⟨hkq.size, hkq.same⟩
            clear hj4 hkf hkq
            gi_wp2
            exact ⟨⟨unhide HKF, unhide HKQ⟩, ⟨by simpa [ent] using unhide HJ4, (unhide HKQ).blk (unhide HBX) (by decide)⟩, Nat.lt_of_lt_of_le hsz (unhide HKQ).size⟩
          · have HJX4 := hide hjx4
            clear hjx4 hkf
            gi_wp2
            exact ⟨unhide HKF, rfl, by simpa [ent] using unhide HJX4⟩
        exact AllReadyIn.nil
      exact AllReadyIn.nil
    exact AllReadyIn.nil
  case done =>
    rintro D xs V hD hS ⟨⟨hj, hbx⟩, hsz⟩ hK
    gi_wp2
    refine ⟨by simp, .inl ⟨_, _, rfl, run_takeDeferred hK, ?_⟩⟩
    exact ⟨_, results_none rfl _ _ _, ⟨_, rfl⟩, .inl ⟨_, hS, own_put hJ _ hj (by simp at hD; omega) hK rfl⟩⟩
  case stop =>
    rintro D c pre V hD hSp ⟨rfl, hjx⟩ hK
    gi_wp2
    refine ⟨by simp, .inl ⟨_, _, rfl, run_takeDeferred hK, ?_⟩⟩
    exact ⟨_, results_none rfl _ _ _, ⟨_, rfl⟩, .inr ⟨_, hSp, own_put hJx _ hjx (by simp at hD; omega) hK rfl⟩⟩
end Go.Proofs.Ytkejpbfbpomjfab.tre
