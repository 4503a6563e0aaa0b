/- nag; a message more. -/
import Derived.Test.YtnpabeodakncfaaGTake
import Derived.Deep.DeepCutAuto
import Derived.Deep.RegionLaw
namespace Go.Proofs.Ytnpabeodakncfaa
open Go.RowKit

/-- 'append' as one step of a region that draws, by its run -/
theorem step_append_runE {P : Program} {ops : Array Oper} {o : Oper} {a : Act} {w : World} {K : Act → World → Prop} {Q : Exit → Act → World → Prop} {E : Prop}
    (hg : o.guard = none) (d x : Operand) (dT sT : TypeId) (hop : o.op = Op.call { callee := Callee.builtin Builtin.append, args := #[d, x], argTypes := #[dT, sT] })
    (v u : Value) (hd : a.eval d = v) (hx : a.eval x = u) {v' : Value} {w' : World} (hr : (Builtin.append_ #[dT, sT] o.type #[v, u]).run P w = .ok v' w') (hK : K (a.put o.dst v') w') :
    if Region.wanted o (yielded ops a.tmps) = true then Oper.wp P o a w K Q else E := by
  have hw : Region.wanted o (yielded ops a.tmps) = true := by simp [Region.wanted, hg]
  rw [if_pos hw]
  unfold Oper.wp
  simp [execOp, hop, resolve, invoke, builtin, hd, hx, hr, Result.andThen]
  exact hK
theorem infoMail : (Try.prog.info? 79).map (fun i => (i.zero, i.size, i.bytes)) = some (some (.agg #[.int .i64 0, .int .i64 0, .int .i64 0, .int .i64 0]), 4, 32) := by kernel_rfl
theorem info_parts {o : Option TypeInfo} {z : Option Value} {s b : Nat} (h : o.map (fun i => (i.zero, i.size, i.bytes)) = some (z, s, b)) : ∃ i, o = some i ∧ i.zero = z ∧ i.size = s ∧ i.bytes = b := by
  cases o with
  | none => cases h
  | some i => simp at h; exact ⟨i, rfl, h.1, h.2.1, h.2.2⟩
theorem app_mail {w : World} {v : Value} {xs : List Ml} (h : w.ownsRow 0 79 4 v xs.length (xs.flatMap mc)) (m : Ml) (hl : xs.length + 1 ≤ 4398046511104) (ty : TypeId) :
    ∃ a' cap' w', (Builtin.append_ #[47, 47] ty #[v, .slice (some ⟨w.heap.size, 0, none⟩) 1 1]).run Try.prog (w.alloc (.cells #[.int .i64 m.kind, .int .i64 m.ep, .int .i64 m.fr, .int .i64 m.to] 79)).drew = .ok (.slice a' (xs.length + 1) cap') w' ∧ w'.ownsRow 0 79 4 (.slice a' (xs.length + 1) cap') (xs ++ [m]).length ((xs ++ [m]).flatMap mc) ∧
      Kept v.ownBlock.toList w w' ∧ ((Value.slice a' (xs.length + 1) cap').ownBlock = v.ownBlock ∨ ∃ z, (Value.slice a' (xs.length + 1) cap').ownBlock = some z ∧ w.heap.size ≤ z) := by
  obtain ⟨i0, hi, hz0, hz1, hz2⟩ := info_parts infoMail
  have hk0 : Kept [] w (w.alloc (.cells #[.int .i64 m.kind, .int .i64 m.ep, .int .i64 m.fr, .int .i64 m.to] 79)).drew := ((Kept.refl [] w).alloc _).drew
  have hb : Blk (w.alloc (.cells #[.int .i64 m.kind, .int .i64 m.ep, .int .i64 m.fr, .int .i64 m.to] 79)).drew w.heap.size #[.int .i64 m.kind, .int .i64 m.ep, .int .i64 m.fr, .int .i64 m.to] 79 := Blk.new w _ _
  have hsz : (w.alloc (.cells #[.int .i64 m.kind, .int .i64 m.ep, .int .i64 m.fr, .int .i64 m.to] 79)).drew.heap.size = w.heap.size + 1 := by show (w.heap.push _).size = _; simp
  have ho := own_kept h hk0 (by simp)
  generalize (w.alloc (.cells #[.int .i64 m.kind, .int .i64 m.ep, .int .i64 m.fr, .int .i64 m.to] 79)).drew = W at *
  obtain ⟨v', w', hr, h2, h3, _, h5⟩ := run_append_own_at (P := Try.prog) W 0 47 ty 79 i0 _ 4 32 Try.underlying47 hi hz0 hz1 hz2 rfl (by decide) v xs.length (xs.flatMap mc) ho ⟨w.heap.size, 0, none⟩ 1 1 (mc m) rfl (fun j u hu => by
    have hadd : (⟨w.heap.size, 0, none⟩ : Addr).add j = ⟨w.heap.size, j, none⟩ := by unfold Addr.add; split <;> simp_all
    rw [hadd, hb.cell]
    show (mc m).toArray[j]? = some u
    rw [List.getElem?_toArray]
    exact hu) (by intro u hu; simp [mc] at hu; rcases hu with rfl | rfl | rfl | rfl <;> rfl) (by unfold maxLen; omega) (by omega) (Nat.zero_le _)
  have hfl : (xs ++ [m]).flatMap mc = xs.flatMap mc ++ mc m := by simp
  have hln : (xs ++ [m]).length = xs.length + 1 := by simp
  obtain ⟨a', c', rfl⟩ := own_len h2
  refine ⟨a', c', w', hr, by rw [hfl, hln]; exact h2, ?_, ?_⟩
  · exact (hk0.mono (G := v.ownBlock.toList) (fun x hx => by cases hx)).grown h3 (fun k hk => Or.inl (by rw [hk]; simp))
  · rcases h5 with h5 | h5
    · exact Or.inl h5
    · exact Or.inr ⟨_, h5, by omega⟩
set_option maxRecDepth 100000 in
set_option maxHeartbeats 40000000 in
theorem nagW_any {w : World} {b : Nat} {rv sv : Value} {row : List Ld} {sent : List Ml} (hw : Wd w b rv sv row sent) {k : Nat} (hk : k < row.length) (hs : sent.length < 4398046511103) :
    Calls Try.prog 53 #[.pointer (some ⟨b, 0, none⟩), .int .i64 (k : Int)] w
      fun e w' => ∃ sv', Wd w' b rv sv' row (if nag (row.getD k ⟨0, 0, 0⟩) = 0 then sent else sent ++ [⟨nag (row.getD k ⟨0, 0, 0⟩), (row.getD k ⟨0, 0, 0⟩).ep, (k : Int), (row.getD k ⟨0, 0, 0⟩).pe⟩]) ∧ (e = .returned (.bool true) ∨ e = .returned (.bool false)) ∧ Kept (b :: sv.ownBlock.toList) w w' ∧ (sv'.ownBlock = sv.ownBlock ∨ ∃ z, sv'.ownBlock = some z ∧ w.heap.size ≤ z) := by
  have HW := hide hw
  obtain ⟨g, cap, hrv, -, hgl, hrg⟩ := own_at (ce := lc) (fun _ => rfl) hw.ro (led_lt hk)
  have hbk := hw.blk
  subst hrv
  have HN := fun W a b c => nag_any W ⟨a, b, c⟩
  obtain ⟨n, hn⟩ : ∃ n, row.length = n := ⟨_, rfl⟩
  have hkn : (k : Int) < (n : Int) := by omega
  rw [hn] at HW hbk ⊢
  generalize hgl2 : row.getD k ⟨0, 0, 0⟩ = l at *
  obtain ⟨d0, d1, d2⟩ := row_cells hrg
  have b0 : w.cell? ⟨b, 0, none⟩ = some (.slice (some ⟨g, 0, none⟩) n cap) := hbk.cell 0
  have b1 : w.cell? ⟨b, 1, none⟩ = some sv := hbk.cell 1
  have HRG := hide hrg
  clear hgl2 hrg hbk hw
  obtain ⟨la, lb, lc'⟩ := l
  unfold lv at HN
  dsimp only at *
  by_cases hz : nag ⟨la, lb, lc'⟩ = 0
  · simp only [hz, if_true]
    go_enter Try.func53, Try.ntmps53
    go_wp2_with (first
      | (go_at_call 24; refine (HN _ _ _ _).mono ?_; rintro e w1 ⟨rfl, hk1⟩; have HK1 := hide hk1; clear hk1))
    go_ret
    exact ⟨sv, (unhide HW).kept (unhide HK1), Or.inr rfl, (unhide HK1).mono (fun x hx => by cases hx), Or.inl rfl⟩
  · simp only [if_neg hz]
    have hz1 : (nag ⟨la, lb, lc'⟩ == 0) = false := by simpa using hz
    obtain ⟨N, hN⟩ : ∃ N, nag ⟨la, lb, lc'⟩ = N := ⟨_, rfl⟩
    have HNN := hide hN
    rw [hN] at hz hz1 ⊢
    have HN2 : ∀ W, Calls Try.prog 24 #[.agg #[.int .i64 la, .int .i64 lb, .int .i64 lc']] W fun e w' => e = .returned (.int .i64 N) ∧ Kept [] W w' := fun W => by rw [← hN]; exact HN W la lb lc'
    clear hN HN
    go_enter Try.func53, Try.ntmps53
    go_wp2_with (first
      | (go_at_call 24; refine (HN2 _).mono ?_; rintro e w1 ⟨rfl, hk1⟩; have HK1 := hide hk1; clear hk1))
    clear d0 d1 d2 b0 b1
    have hW1 := (unhide HW).kept (unhide HK1)
    obtain ⟨d0, d1, d2⟩ := row_cells (range_kept (unhide HRG) (unhide HK1) hgl (by simp))
    have b0 : w1.cell? ⟨b, 0, none⟩ = some (.slice (some ⟨g, 0, none⟩) n cap) := hW1.blk.cell 0
    have b1 : w1.cell? ⟨b, 1, none⟩ = some sv := hW1.blk.cell 1
    have hbl1 := hW1.blk.lt
    have hgl1 : g < w1.heap.size := Nat.lt_of_lt_of_le hgl (unhide HK1).size
    obtain ⟨a2, c2, w2, hap, ho2, hk2, hv2⟩ := app_mail hW1.so ⟨N, lb, (k : Int), lc'⟩ (by omega) 47
    obtain ⟨L, hL⟩ : ∃ L, sent.length + 1 = L := ⟨_, rfl⟩
    rw [hL] at hap ho2 hv2
    have HAP := hide hap
    have HAP2 : Hid ((Builtin.append_ #[47, 47] 47 #[sv, .slice (some ⟨w1.heap.size, 0, none⟩) 1 1]).run Try.prog (w1.drew.alloc (.cells #[.int .i64 N, .int .i64 lb, .int .i64 (k : Int), .int .i64 lc'] 79)) = .ok (.slice a2 L c2) w2) := hap
    have hnb : b ∉ sv.ownBlock.toList := fun q => hW1.ns (by simpa using q)
    have hb2 := hW1.blk.kept hk2 hnb
    have e1 : w2.cell? ⟨b, 1, none⟩ = some sv := hb2.cell 1
    have f1 : w2.frozen? ⟨b, 1, none⟩ = false := hb2.frozen 1
    have HB2 := hide hb2
    have HO2 := hide ho2
    have HK2 := hide hk2
    have HV2 := hide hv2
    have HW1 := hide hW1
    clear hap ho2 hk2 hv2 hb2 hW1 hL hnb
    have hka : Kept [] w1 (w1.alloc (.cells #[.int .i64 N, .int .i64 lb, .int .i64 (k : Int), .int .i64 lc'] 79)) := (Kept.refl [] w1).alloc _
    have b0a : (w1.alloc (.cells #[.int .i64 N, .int .i64 lb, .int .i64 (k : Int), .int .i64 lc'] 79)).cell? ⟨b, 0, none⟩ = some (.slice (some ⟨g, 0, none⟩) n cap) := (hka.cell (p := ⟨b, 0, none⟩) hbl1 (by simp)).trans b0
    have b1a : (w1.alloc (.cells #[.int .i64 N, .int .i64 lb, .int .i64 (k : Int), .int .i64 lc'] 79)).cell? ⟨b, 1, none⟩ = some sv := (hka.cell (p := ⟨b, 1, none⟩) hbl1 (by simp)).trans b1
    have hk0 : (0 : Int) ≤ (k : Int) := by omega
    have hkn' : k < n := by omega
    clear hka
    go_region_law (first | (refine step_append_runE (by rfl) _ _ 47 47 (by rfl) _ _ (by rfl) (by rfl) (unhide HAP) ?_) | (refine step_append_runE (by rfl) _ _ 47 47 (by rfl) _ _ (by rfl) (by rfl) (unhide HAP2) ?_))
    all_goals
      go_wp2
      go_ret
      refine ⟨.slice a2 L c2, ⟨?_, ?_, ?_⟩, Or.inl rfl, ?_, ?_⟩
      · exact (unhide HB2).set 1 _
      · exact own_kept (own_kept (unhide HW1).ro (unhide HK2) (fun q hq hm => (unhide HW1).rs hq (by simpa using hm))) ((Kept.refl [b] w2).setCell (Or.inl (by simp)) _) (fun q hq hm => by simp at hm; subst hm; exact (unhide HW1).nr hq)
      · exact own_kept (unhide HO2) ((Kept.refl [b] w2).setCell (Or.inl (by simp)) _) (fun q hq hm => by
          simp at hm
          subst hm
          rcases unhide HV2 with z | ⟨z, z1, z2⟩
          · rw [hq] at z; exact (unhide HW1).ns z.symm
          · rw [hq] at z1; cases z1; omega)
      · refine ((unhide HK1).mono (G := b :: sv.ownBlock.toList) (fun x hx => by cases hx)).trans (G := b :: sv.ownBlock.toList) (((unhide HK2).mono (G := b :: sv.ownBlock.toList) (fun x hx => Or.inl (List.mem_cons_of_mem _ hx))).setCell (Or.inl (by simp)) _) (fun x hx => Or.inl hx)
      · rcases unhide HV2 with z | ⟨z, z1, z2⟩
        · exact Or.inl z
        · exact Or.inr ⟨z, z1, Nat.le_trans (unhide HK1).size z2⟩
end Go.Proofs.Ytnpabeodakncfaa
