/- Write, where it is carried out. -/
import Derived.Test.YtfaoblnghkiibaaQWrite0
import Derived.Deep.DeepCutAuto
namespace Go.Proofs.Ytfaoblnghkiibaa
open Go.RowKit

theorem wp_bslice_run {P : Program} {o : Oper} {a : Act} {w : World} {K : Act → World → Prop} {Q : Exit → Act → World → Prop} (t : TypeId) (n : Nat) (parts : Array (Nat × Operand)) (hop : o.op = .buildSlice t n parts)
    {v' : Value} {w' : World} (ps : Array (Nat × Value)) (hp : (parts.map fun (i, x) => (i, a.eval x)) = ps) (hr : (Instr.buildSlice t n ps).run P w = .ok v' w') (hK : K (a.put o.dst v') w') : Oper.wp P o a w K Q := by
  unfold Oper.wp
  simp only [execOp, hop, hp, hr, Sem.run_bind, Sem.run_pure, Result.andThen_ok]
  exact hK
theorem wp_append_run {P : Program} {o : Oper} {a : Act} {w : World} {K : Act → World → Prop} {Q : Exit → Act → World → Prop}
    (d x : Operand) (dT sT ty : TypeId) (hop : o.op = Op.call { callee := Callee.builtin Builtin.append, args := #[d, x], argTypes := #[dT, sT] }) (hty : o.type = ty)
    (v u : Value) (hd : a.eval d = v) (hx : a.eval x = u) {v' : Value} {w' : World} (hr : (Builtin.append_ #[dT, sT] ty #[v, u]).run P w = .ok v' w') (hK : K (a.put o.dst v') w') : Oper.wp P o a w K Q := by
  unfold Oper.wp
  simp [execOp, hop, hty, resolve, invoke, builtin, hd, hx, hr, Result.andThen]
  exact hK

set_option maxRecDepth 100000 in
set_option maxHeartbeats 2000000 in
theorem write_yes {w : World} {b : Nat} {F : List Nat} {d : Dm} (h : Dk w b F d) {k : Nat} (hx : rE d (k : Int) = 0) {v : Value} {l : List Nat} (hv : Sees w v l) (hl : l.length = 64) (hvF : ∀ q, v.ownBlock = some q → q ∉ F) (hpl : (d.pend.length + 1) * 72 ≤ 140737488355328) :
    Calls Try.prog 19 #[.pointer (some ⟨b, 0, none⟩), .int .i64 (k : Int), v] w fun e w' => ∃ F', e = .returned (.int .i64 0) ∧ Dk w' b F' (d.write k l) ∧ Nx F w F' w' := by
  obtain ⟨g, pa, pc, h, hb, hg, hp, hlt⟩ := h
  have HP := hide (refusal_any h (k : Int))
  rw [hx] at HP
  obtain ⟨k', hk', hkn, hfz⟩ := rE_zero hx
  obtain rfl : k = k' := by omega
  obtain ⟨va, vc, rfl, hv1, hv2, hv3, hv4⟩ := hv
  obtain ⟨vb, voff, rfl, hvb, hvc⟩ : ∃ b off, va = some ⟨b, off, none⟩ ∧ b < w.heap.size ∧ ∀ j, j < l.length → w.cell? ⟨b, off + j, none⟩ = some (.int .u8 (l.getD j 0 : Nat)) := by
    rcases hv4 with h4 | h4
    · rw [h4] at hl; simp at hl
    · exact h4
  have hxo : (⟨k, l⟩ : Wt).ok d.n := ⟨hkn, hl, hv3⟩
  have hr0 : w.rangeAt vb voff (u8s l) := fun j u hu => by
    have hj := (List.getElem?_eq_some_iff.1 hu).1
    rw [u8s_length] at hj
    rw [hvc j hj, ← u8s_at l hj, hu]
  obtain ⟨a2, c2, w2, hap, hdp, c1w, f1w, hkw, how⟩ := append_write h hxo hpl 66
  have c1 := (dp_cells h).2.1
  have c4 := (dp_cells hdp).2.2.2.2.1
  have f4 := hdp.head.frozen 4
  have hs := hdp.setHead 4 (.int .i64 (wrap64 (d.wr + 1))) (f := d.fuse) (wr := one d.wr) (sy := d.sy) (by rw [wrap64_one]; rfl) hdp.ok.fuse
  have HB := hide (burn_any hs hfz)
  have HEND : Hid (∀ w3 : World, Dp w3 b g a2 c2 { ({ d with pend := d.pend ++ [⟨k, l⟩], fuse := d.fuse, wr := one d.wr, sy := d.sy } : Dm) with fuse := burn d.fuse } → Kept [b] ((w2.setCell ⟨b, 1, none⟩ (.slice a2 (d.pend.length + 1) c2)).setCell ⟨b, 4, none⟩ (.int .i64 (wrap64 (d.wr + 1)))) w3 →
      ∃ F', Dk w3 b F' (d.write k l) ∧ Nx F w F' w3) := by
    intro w3 hd3 hk3
    have hk0 : Kept F w w2 := hkw.mono (fun y hy => by
      simp only [List.mem_cons, Option.mem_toList] at hy
      rcases hy with rfl | rfl | hy
      · exact Or.inl hb
      · exact Or.inl hg
      · exact Or.inl (hp y hy))
    have hk1 : Kept F w w3 := ((hk0.setCell (p := ⟨b, 1, none⟩) (Or.inl hb) _).setCell (p := ⟨b, 4, none⟩) (Or.inl hb) _).trans hk3 (fun y hy => by simp at hy; subst hy; exact Or.inl hb)
    refine ⟨b :: g :: (Value.slice a2 (d.pend.length + 1) c2).ownBlock.toList, ⟨g, a2, c2, hd3, by simp, by simp, fun p hp' => ?_, fun y hy => ?_⟩, hk1, fun y hy => ?_⟩
    · have : (Value.slice a2 (d.pend.length + 1) c2).ownBlock = some p := by simpa [Dm.write] using hp'
      simp [this]
    · simp only [List.mem_cons, Option.mem_toList] at hy
      rcases hy with rfl | rfl | hy
      · exact hd3.head.lt
      · exact hd3.safe.lt
      · have : (Value.slice a2 (d.pend ++ [(⟨k, l⟩ : Wt)]).length c2).ownBlock = some y := by simpa using hy
        exact (hd3.pend.lt y this).2
    · simp only [List.mem_cons, Option.mem_toList] at hy
      rcases hy with rfl | rfl | hy
      · exact Or.inl hb
      · exact Or.inl hg
      · rcases how y hy with e | e
        · exact Or.inl (hp y e)
        · exact Or.inr e
  have hbd := fun w => build79 w (k : Int) (u8s l) (by rw [u8s_length, hl])
  have hbs := fun w => slice79 w (wc ⟨k, l⟩) (wc_len hxo)
  have hwc : wc ⟨k, l⟩ = Value.int .i64 (k : Int) :: u8s l := rfl
  rw [← hwc] at hbd
  have hcl : (u8s l).length = 64 := by rw [u8s_length, hl]
  have hco := u8s_one l
  have hci : (Try.prog.info? 70).map (·.size) = some (u8s l).length := by rw [hcl]; exact size70
  have hu70 := Try.underlying70
  have hld : (Instr.loadAt 70 (.pointer (some ⟨vb, voff, none⟩))).run Try.prog w.drew = .ok (.agg (u8s l).toArray) w.drew := run_loadAt_mid w.drew vb voff 70 (u8s l) _ hr0 hu70 rfl hci
  have c1a : (w.alloc (.cells (wc ⟨k, l⟩).toArray 79)).cell? ⟨b, 1, none⟩ = some (.slice pa d.pend.length pc) := ((Kept.refl [] w).alloc _).cell (p := ⟨b, 1, none⟩) h.head.lt (by simp) |>.trans c1
  clear hvF
  have HAP := hide hap
  have HLD := hide hld
  have HR0 : Hid (w.drew.rangeAt vb voff (u8s l)) := hr0
  have HCI := hide hci
  have HBD := hide hbd
  have HBS := hide hbs
  clear hld hbd hbs hci hco hcl hwc hap hr0 h hdp hs hx hk' hkn hfz hv1 hv2 hv3 hv4 hvc hxo hkw how hb hg hp hlt hpl hvb
  generalize d.pend.length = n at *
  generalize wc ⟨k, l⟩ = cx at *
  generalize hcs : u8s l = cs at *
  clear hcs
  simp only at c4
  generalize d.wr = wr0 at *
  have hat : ∀ w, (Instr.arrayAt 70 (.slice (some ⟨vb, voff, none⟩) 64 vc)).run Try.prog w = .ok (.pointer (some ⟨vb, voff, none⟩)) w := fun w => by simp [Instr.arrayAt, run_underlying hu70]
  clear hu70
  go_enter Try.func19, Try.ntmps19
  go_wp2_with (first | (go_at_call 40; refine (unhide HP).mono ?_; rintro e w' ⟨rfl, hq⟩; have hq' := hq.symm; subst hq'; clear HP))
  go_cut [28] (fun _ wc => wc = w2.setCell ⟨b, 1, none⟩ (.slice a2 (n + 1) c2))
  case first =>
    refine wp_region_any (by kernel_rfl) ?_
    change wpAny _ _ _ _ _ _ _ (World.drew _)
    refine wpAny_take (i := 0) (v := .pointer (some ⟨b, 0, none⟩)) rfl (by kernel_rfl) (by kernel_rfl) (by kernel_rfl) (fun _ _ _ h => h) (Or.inl ⟨by rfl, by intro w; go_simp⟩) ?_
    refine wpAny_take (i := 1) (v := .pointer (some ⟨b, 0, none⟩)) rfl (by kernel_rfl) (by kernel_rfl) (by kernel_rfl) (fun _ _ _ h => h) (Or.inl ⟨by rfl, by intro w; go_simp⟩) ?_
    refine wpAny_take (i := 2) (v := .pointer (some ⟨b, 0, none⟩)) rfl (by kernel_rfl) (by kernel_rfl) (by kernel_rfl) (fun _ _ _ h => h) (Or.inl ⟨by rfl, by intro w; go_simp⟩) ?_
    refine wpAny_take (i := 3) (v := .pointer (some ⟨b, 1, none⟩)) rfl (by kernel_rfl) (by kernel_rfl) (by kernel_rfl) (fun _ _ _ h => h) (Or.inl ⟨by rfl, by intro w; go_simp⟩) ?_
    refine wpAny_take (i := 5) (v := .int .i64 k) rfl (by kernel_rfl) (by kernel_rfl) (by kernel_rfl) (fun _ _ _ h => h) (Or.inl ⟨by rfl, by intro w; go_simp⟩) ?_
    refine wpAny_take (i := 6) (v := .slice (some ⟨vb, voff, none⟩) 64 vc) rfl (by kernel_rfl) (by kernel_rfl) (by kernel_rfl) (fun _ _ _ h => h) (Or.inl ⟨by rfl, by intro w; go_simp⟩) ?_
    refine wpAny_take (i := 7) (v := .pointer (some ⟨vb, voff, none⟩)) rfl (by kernel_rfl) (by kernel_rfl) (by kernel_rfl) (fun _ _ _ h => h) (Or.inl ⟨by rfl, exec_arr 70 (.tmp 23) (by rfl) (u := .slice (some ⟨vb, voff, none⟩) 64 vc) (by rfl) hat⟩) ?_
    simp only [List.getElem_toArray, List.getElem_cons_succ, List.getElem_cons_zero, Act.put, List.setIfInBounds_toArray, List.set_cons_succ, List.set_cons_zero]
    refine wpAny_ready (rs := [4, 8]) (by kernel_rfl) (by simp) ?_
    refine AllReady.cons rfl (fun K hK => ?_) (AllReady.cons rfl (fun K hK => ?_) AllReady.nil)
    · go_simp
      refine hK _ _ ?_
      clear hK K
      refine wpAny_ready (rs := [8]) (by kernel_rfl) (by simp) ?_
      refine AllReady.cons rfl (fun K hK => ?_) AllReady.nil
      simp only [List.getElem_toArray, List.getElem_cons_succ, List.getElem_cons_zero]
      rw [if_pos (by rfl)]; refine wp_load_mid 70 (.tmp 24) rfl vb voff rfl cs _ (unhide HR0) Try.underlying70 rfl (unhide HCI) (hK _ _ ?_)
      clear hK K
      simp only [Act.put, List.setIfInBounds_toArray, List.set_cons_succ, List.set_cons_zero]
      refine wpAny_take (i := 9) (v := .agg cx.toArray) rfl (by kernel_rfl) (by kernel_rfl) (by kernel_rfl) (fun _ _ _ h => h) (Or.inl ⟨by rfl, exec_build 79 #[(0, .tmp 22), (1, .tmp 25)] (by rfl) #[(0, .int .i64 k), (1, .agg cs.toArray)] (by simp [Act.eval]) (unhide HBD)⟩) ?_
      simp only [List.getElem_toArray, List.getElem_cons_succ, List.getElem_cons_zero, Act.put, List.setIfInBounds_toArray, List.set_cons_succ, List.set_cons_zero]
      refine wpAny_ready (rs := [10]) (by kernel_rfl) (by simp) ?_
      refine AllReady.cons rfl (fun K hK => ?_) AllReady.nil
      simp only [List.getElem_toArray, List.getElem_cons_succ, List.getElem_cons_zero]
      rw [if_pos (by rfl)]; refine wp_bslice_run 66 1 #[(0, .tmp 26)] rfl #[(0, .agg cx.toArray)] (by simp [Act.eval]) (unhide HBS _) (hK _ _ ?_)
      clear hK K
      simp only [Act.put, List.setIfInBounds_toArray, List.set_cons_succ, List.set_cons_zero]
      refine wpAny_ready (rs := [11]) (by kernel_rfl) (by simp) ?_
      refine AllReady.cons rfl (fun K hK => ?_) AllReady.nil
      simp only [List.getElem_toArray, List.getElem_cons_succ, List.getElem_cons_zero]
      rw [if_pos (by rfl)]; refine wp_append_run (.tmp 21) (.tmp 27) 66 66 66 rfl rfl _ _ rfl rfl (unhide HAP) (hK _ _ ?_)
      clear hK K
      simp only [Act.put, List.setIfInBounds_toArray, List.set_cons_succ, List.set_cons_zero]
      refine wpAny_take (i := 12) (v := .pointer (some ⟨b, 0, none⟩)) rfl (by kernel_rfl) (by kernel_rfl) (by kernel_rfl) (fun _ _ _ h => h) (Or.inl ⟨by rfl, by intro w; go_simp⟩) ?_
      simp only [List.getElem_toArray, List.getElem_cons_succ, List.getElem_cons_zero, Act.put, List.setIfInBounds_toArray, List.set_cons_succ, List.set_cons_zero]
      refine wpAny_take (i := 13) (v := .pointer (some ⟨b, 1, none⟩)) rfl (by kernel_rfl) (by kernel_rfl) (by kernel_rfl) (fun _ _ _ h => h) (Or.inl ⟨by rfl, by intro w; go_simp⟩) ?_
      simp only [List.getElem_toArray, List.getElem_cons_succ, List.getElem_cons_zero, Act.put, List.setIfInBounds_toArray, List.set_cons_succ, List.set_cons_zero]
      refine wpAny_ready (rs := [14]) (by kernel_rfl) (by simp) ?_
      refine AllReady.cons rfl (fun K hK => ?_) AllReady.nil
      go_simp
      refine hK _ _ ?_
      clear hK K
      refine wpAny_done (by kernel_rfl) ?_ _
      go_wp2_with fail
      go_meet
      case rel => exact rfl
    · simp only [List.getElem_toArray, List.getElem_cons_succ, List.getElem_cons_zero]
      rw [if_pos (by rfl)]; refine wp_load_mid 70 (.tmp 24) rfl vb voff rfl cs _ (unhide HR0) Try.underlying70 rfl (unhide HCI) (hK _ _ ?_)
      clear hK K
      simp only [Act.put, List.setIfInBounds_toArray, List.set_cons_succ, List.set_cons_zero]
      refine wpAny_take (i := 9) (v := .agg cx.toArray) rfl (by kernel_rfl) (by kernel_rfl) (by kernel_rfl) (fun _ _ _ h => h) (Or.inl ⟨by rfl, exec_build 79 #[(0, .tmp 22), (1, .tmp 25)] (by rfl) #[(0, .int .i64 k), (1, .agg cs.toArray)] (by simp [Act.eval]) (unhide HBD)⟩) ?_
      simp only [List.getElem_toArray, List.getElem_cons_succ, List.getElem_cons_zero, Act.put, List.setIfInBounds_toArray, List.set_cons_succ, List.set_cons_zero]
      refine wpAny_ready (rs := [4, 10]) (by kernel_rfl) (by simp) ?_
      refine AllReady.cons rfl (fun K hK => ?_) (AllReady.cons rfl (fun K hK => ?_) AllReady.nil)
      · go_simp
        refine hK _ _ ?_
        clear hK K
        refine wpAny_ready (rs := [10]) (by kernel_rfl) (by simp) ?_
        refine AllReady.cons rfl (fun K hK => ?_) AllReady.nil
        simp only [List.getElem_toArray, List.getElem_cons_succ, List.getElem_cons_zero]
        rw [if_pos (by rfl)]; refine wp_bslice_run 66 1 #[(0, .tmp 26)] rfl #[(0, .agg cx.toArray)] (by simp [Act.eval]) (unhide HBS _) (hK _ _ ?_)
        clear hK K
        simp only [Act.put, List.setIfInBounds_toArray, List.set_cons_succ, List.set_cons_zero]
        refine wpAny_ready (rs := [11]) (by kernel_rfl) (by simp) ?_
        refine AllReady.cons rfl (fun K hK => ?_) AllReady.nil
        simp only [List.getElem_toArray, List.getElem_cons_succ, List.getElem_cons_zero]
        rw [if_pos (by rfl)]; refine wp_append_run (.tmp 21) (.tmp 27) 66 66 66 rfl rfl _ _ rfl rfl (unhide HAP) (hK _ _ ?_)
        clear hK K
        simp only [Act.put, List.setIfInBounds_toArray, List.set_cons_succ, List.set_cons_zero]
        refine wpAny_take (i := 12) (v := .pointer (some ⟨b, 0, none⟩)) rfl (by kernel_rfl) (by kernel_rfl) (by kernel_rfl) (fun _ _ _ h => h) (Or.inl ⟨by rfl, by intro w; go_simp⟩) ?_
        simp only [List.getElem_toArray, List.getElem_cons_succ, List.getElem_cons_zero, Act.put, List.setIfInBounds_toArray, List.set_cons_succ, List.set_cons_zero]
        refine wpAny_take (i := 13) (v := .pointer (some ⟨b, 1, none⟩)) rfl (by kernel_rfl) (by kernel_rfl) (by kernel_rfl) (fun _ _ _ h => h) (Or.inl ⟨by rfl, by intro w; go_simp⟩) ?_
        simp only [List.getElem_toArray, List.getElem_cons_succ, List.getElem_cons_zero, Act.put, List.setIfInBounds_toArray, List.set_cons_succ, List.set_cons_zero]
        refine wpAny_ready (rs := [14]) (by kernel_rfl) (by simp) ?_
        refine AllReady.cons rfl (fun K hK => ?_) AllReady.nil
        go_simp
        refine hK _ _ ?_
        clear hK K
        refine wpAny_done (by kernel_rfl) ?_ _
        go_wp2_with fail
        go_meet
        case rel => exact rfl
      · simp only [List.getElem_toArray, List.getElem_cons_succ, List.getElem_cons_zero]
        rw [if_pos (by rfl)]; refine wp_bslice_run 66 1 #[(0, .tmp 26)] rfl #[(0, .agg cx.toArray)] (by simp [Act.eval]) (unhide HBS _) (hK _ _ ?_)
        clear hK K
        simp only [Act.put, List.setIfInBounds_toArray, List.set_cons_succ, List.set_cons_zero]
        refine wpAny_ready (rs := [4]) (by kernel_rfl) (by simp) ?_
        refine AllReady.cons rfl (fun K hK => ?_) AllReady.nil
        go_simp
        refine hK _ _ ?_
        clear hK K
        refine wpAny_ready (rs := [11]) (by kernel_rfl) (by simp) ?_
        refine AllReady.cons rfl (fun K hK => ?_) AllReady.nil
        simp only [List.getElem_toArray, List.getElem_cons_succ, List.getElem_cons_zero]
        rw [if_pos (by rfl)]; refine wp_append_run (.tmp 21) (.tmp 27) 66 66 66 rfl rfl _ _ rfl rfl (unhide HAP) (hK _ _ ?_)
        clear hK K
        simp only [Act.put, List.setIfInBounds_toArray, List.set_cons_succ, List.set_cons_zero]
        refine wpAny_take (i := 12) (v := .pointer (some ⟨b, 0, none⟩)) rfl (by kernel_rfl) (by kernel_rfl) (by kernel_rfl) (fun _ _ _ h => h) (Or.inl ⟨by rfl, by intro w; go_simp⟩) ?_
        simp only [List.getElem_toArray, List.getElem_cons_succ, List.getElem_cons_zero, Act.put, List.setIfInBounds_toArray, List.set_cons_succ, List.set_cons_zero]
        refine wpAny_take (i := 13) (v := .pointer (some ⟨b, 1, none⟩)) rfl (by kernel_rfl) (by kernel_rfl) (by kernel_rfl) (fun _ _ _ h => h) (Or.inl ⟨by rfl, by intro w; go_simp⟩) ?_
        simp only [List.getElem_toArray, List.getElem_cons_succ, List.getElem_cons_zero, Act.put, List.setIfInBounds_toArray, List.set_cons_succ, List.set_cons_zero]
        refine wpAny_ready (rs := [14]) (by kernel_rfl) (by simp) ?_
        refine AllReady.cons rfl (fun K hK => ?_) AllReady.nil
        go_simp
        refine hK _ _ ?_
        clear hK K
        refine wpAny_done (by kernel_rfl) ?_ _
        go_wp2_with fail
        go_meet
        case rel => exact rfl
  case rest =>
    have hcut' := hcut.symm
    subst hcut'
    go_wp2_with (first | (go_at_call 41; refine (unhide HB).mono ?_; rintro e w3 ⟨rfl, hd3, hk3⟩; have HD3 := hide hd3; have HK3 := hide hk3; clear HB hd3 hk3))
    go_ret
    obtain ⟨F', hF'⟩ := unhide HEND _ (unhide HD3) (unhide HK3)
    exact ⟨F', rfl, hF'⟩
end Go.Proofs.Ytfaoblnghkiibaa
