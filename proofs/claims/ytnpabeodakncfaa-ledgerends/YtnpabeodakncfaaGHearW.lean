/- hear. -/
import Derived.Test.YtnpabeodakncfaaGNag
import Derived.Test.YtnpabeodakncfaaGInv2
import Derived.BigRegion
namespace Go.Proofs.Ytnpabeodakncfaa
open Go.RowKit

/-- what 'hear' makes of a row, and of what was sent -/
def rowH (row : List Ld) (t : Nat) (r ep fr : Int) : List Ld := if r = 0 then row else row.set t (stp (t : Int) (row.getD t ⟨0, 0, 0⟩) r ep fr)
def sentH (sent : List Ml) (t : Nat) (y ep fr : Int) : List Ml := if y = 0 then sent else sent ++ [⟨y, ep, (t : Int), fr⟩]
theorem rfs_ans {s : Int} {l : Ld} {k e f : Int} {full : Bool} (h : (ans full (her s l k e f)).1 ≠ 0) : rfs s l (ans full (her s l k e f)).1 e f = 0 := by
  unfold ans at h ⊢
  split at h
  · exact absurd rfl h
  · rename_i q
    rw [if_neg q]
    exact (her_rec h).1
set_option maxRecDepth 100000 in
set_option maxHeartbeats 40000000 in
theorem hearW_any {w : World} {b : Nat} {rv sv : Value} {row : List Ld} {sent : List Ml} (hw : Wd w b rv sv row sent) (kd ep fr : Int) {t : Nat} (ht : t < row.length) (full : Bool) (hs : sent.length < 4398046511103) {R Y : Int} (hans : ans full (her (t : Int) (row.getD t ⟨0, 0, 0⟩) kd ep fr) = (R, Y)) :
    Calls Try.prog 54 #[.pointer (some ⟨b, 0, none⟩), .agg #[.int .i64 kd, .int .i64 ep, .int .i64 fr, .int .i64 (t : Int)], .bool full] w
      fun e w' => e = .returned (.bool true) ∧ ∃ sv', Wd w' b rv sv' (rowH row t R ep fr) (sentH sent t Y ep fr) ∧ Kept (b :: (rv.ownBlock.toList ++ sv.ownBlock.toList)) w w' ∧ (sv'.ownBlock = sv.ownBlock ∨ ∃ z, sv'.ownBlock = some z ∧ w.heap.size ≤ z) := by
  have HW := hide hw
  obtain ⟨g, cap, hrv, -, hgl, hrg⟩ := own_at (ce := lc) (fun _ => rfl) hw.ro (led_lt ht)
  have hbk := hw.blk
  subst hrv
  obtain ⟨n, hn⟩ : ∃ n, row.length = n := ⟨_, rfl⟩
  have hkn : (t : Int) < (n : Int) := by omega
  rw [hn] at HW hbk ⊢
  have HH := fun W => hear_any W (t : Int) (row.getD t ⟨0, 0, 0⟩) kd ep fr
  have HT := hide (fun (W : World) (q : Wd W b (.slice (some ⟨g, 0, none⟩) n cap) sv row sent) => take_any q ht R ep fr)
  have HRFS : Hid (R ≠ 0 → rfs (t : Int) (row.getD t ⟨0, 0, 0⟩) R ep fr = 0) := fun q => by
    have := rfs_ans (s := (t : Int)) (l := row.getD t ⟨0, 0, 0⟩) (k := kd) (e := ep) (f := fr) (full := full) (by rw [hans]; exact q)
    rw [hans] at this
    exact this
  have HROW : Hid (R ≠ 0 → rowH row t R ep fr = row.set t (stp (t : Int) (row.getD t ⟨0, 0, 0⟩) R ep fr)) := fun q => by unfold rowH; rw [if_neg q]
  have HROW0 : Hid (R = 0 → rowH row t R ep fr = row) := fun q => by unfold rowH; rw [if_pos q]
  obtain ⟨⟨r0, y0⟩, hr0⟩ : ∃ z, her (t : Int) (row.getD t ⟨0, 0, 0⟩) kd ep fr = z := ⟨_, rfl⟩
  rw [hr0] at hans HH
  have HA := hide hans
  have b0 : w.cell? ⟨b, 0, none⟩ = some (.slice (some ⟨g, 0, none⟩) n cap) := hbk.cell 0
  have hbl := hbk.lt
  have HRG := hide hrg
  generalize hgl2 : row.getD t ⟨0, 0, 0⟩ = l at *
  generalize rowH row t R ep fr = row2 at *
  clear hr0 hans hrg hbk hgl2 hw
  obtain ⟨la, lb, lc'⟩ := l
  unfold lv at HH
  dsimp only at *
  go_enter Try.func54, Try.ntmps54
  go_wp2_with fail
  have HB : Hid (Blk (w.alloc (.cells #[.int .i64 kd, .int .i64 ep, .int .i64 fr, .int .i64 (t : Int)] 79)) w.heap.size #[.int .i64 kd, .int .i64 ep, .int .i64 fr, .int .i64 (t : Int)] 79) := Blk.new _ _ _
  refine world_at (R := fun W => Kept [] w W ∧ Blk W w.heap.size #[.int .i64 kd, .int .i64 ep, .int .i64 fr, .int .i64 (t : Int)] 79) ⟨(Kept.refl _ _).alloc _, unhide HB⟩ ?_
  rintro W1 ⟨hK1, hB1⟩
  have m0 : W1.cell? ⟨w.heap.size, 0, none⟩ = some (.int .i64 kd) := hB1.cell 0
  have m1 : W1.cell? ⟨w.heap.size, 1, none⟩ = some (.int .i64 ep) := hB1.cell 1
  have m2 : W1.cell? ⟨w.heap.size, 2, none⟩ = some (.int .i64 fr) := hB1.cell 2
  have m3 : W1.cell? ⟨w.heap.size, 3, none⟩ = some (.int .i64 (t : Int)) := hB1.cell 3
  have b01 : W1.cell? ⟨b, 0, none⟩ = some (.slice (some ⟨g, 0, none⟩) n cap) := (Wd.kept (unhide HW) hK1).blk.cell 0
  have ht0 : ((t : Int) < 0) = False := by simp
  have htn : ((n : Int) ≤ (t : Int)) = False := by simp; omega
  clear b0 HB
  go_region_held3 (fun w' => w'.cell? ⟨w.heap.size, 3, none⟩ = some (.int .i64 (t : Int)) ∧ w'.cell? ⟨b, 0, none⟩ = some (.slice (some ⟨g, 0, none⟩) n cap)) (first | assumption | exact ⟨m3, b01⟩) (fail)
  go_wp2_with fail
  have SMK : ∀ W : World, Kept [] w W → Blk W w.heap.size #[.int .i64 kd, .int .i64 ep, .int .i64 fr, .int .i64 (t : Int)] 79 → (W.cell? ⟨w.heap.size, 0, none⟩ = some (.int .i64 kd) ∧ W.cell? ⟨w.heap.size, 1, none⟩ = some (.int .i64 ep) ∧ W.cell? ⟨w.heap.size, 2, none⟩ = some (.int .i64 fr) ∧ W.cell? ⟨w.heap.size, 3, none⟩ = some (.int .i64 (t : Int)) ∧ W.cell? ⟨b, 0, none⟩ = some (.slice (some ⟨g, 0, none⟩) n cap) ∧ W.cell? ⟨g, t * 3, none⟩ = some (.int .i64 la) ∧ W.cell? ⟨g, t * 3 + 1, none⟩ = some (.int .i64 lb) ∧ W.cell? ⟨g, t * 3 + 2, none⟩ = some (.int .i64 lc') ∧ Kept [] w W ∧ Blk W w.heap.size #[.int .i64 kd, .int .i64 ep, .int .i64 fr, .int .i64 (t : Int)] 79) := fun W q1 q2 =>
    ⟨q2.cell 0, q2.cell 1, q2.cell 2, q2.cell 3, (Wd.kept (unhide HW) q1).blk.cell 0, (row_cells (range_kept (unhide HRG) q1 hgl (by simp))).1, (row_cells (range_kept (unhide HRG) q1 hgl (by simp))).2.1, (row_cells (range_kept (unhide HRG) q1 hgl (by simp))).2.2, q1, q2⟩
  have HSMK := hide SMK
  clear SMK m0 m1 m2 m3 b01
  have hS1 := unhide HSMK W1.drew.drew (hK1.drew.drew) hB1
  go_region_held3 (fun w' => w'.cell? ⟨w.heap.size, 0, none⟩ = some (.int .i64 kd) ∧ w'.cell? ⟨w.heap.size, 1, none⟩ = some (.int .i64 ep) ∧ w'.cell? ⟨w.heap.size, 2, none⟩ = some (.int .i64 fr) ∧ w'.cell? ⟨w.heap.size, 3, none⟩ = some (.int .i64 (t : Int)) ∧ w'.cell? ⟨b, 0, none⟩ = some (.slice (some ⟨g, 0, none⟩) n cap) ∧ w'.cell? ⟨g, t * 3, none⟩ = some (.int .i64 la) ∧ w'.cell? ⟨g, t * 3 + 1, none⟩ = some (.int .i64 lb) ∧ w'.cell? ⟨g, t * 3 + 2, none⟩ = some (.int .i64 lc') ∧ Kept [] w w' ∧ Blk w' w.heap.size #[.int .i64 kd, .int .i64 ep, .int .i64 fr, .int .i64 (t : Int)] 79) (first | assumption | exact hS1 | exact unhide HSMK _ (hK1.drew) hB1 | exact unhide HSMK _ (hK1.drew.drew) hB1) (first
    | (go_at_call 12; refine (HH _).mono ?_; rintro e w3 ⟨rfl, hk3⟩
       obtain ⟨-, -, -, -, -, -, -, -, q1, q2⟩ : _ ∧ _ ∧ _ ∧ _ ∧ _ ∧ _ ∧ _ ∧ _ ∧ Kept [] w _ ∧ Blk _ _ _ _ := by assumption
       have HS3 : w3.cell? ⟨w.heap.size, 0, none⟩ = some (.int .i64 kd) ∧ w3.cell? ⟨w.heap.size, 1, none⟩ = some (.int .i64 ep) ∧ w3.cell? ⟨w.heap.size, 2, none⟩ = some (.int .i64 fr) ∧ w3.cell? ⟨w.heap.size, 3, none⟩ = some (.int .i64 (t : Int)) ∧ w3.cell? ⟨b, 0, none⟩ = some (.slice (some ⟨g, 0, none⟩) n cap) ∧ w3.cell? ⟨g, t * 3, none⟩ = some (.int .i64 la) ∧ w3.cell? ⟨g, t * 3 + 1, none⟩ = some (.int .i64 lb) ∧ w3.cell? ⟨g, t * 3 + 2, none⟩ = some (.int .i64 lc') ∧ Kept [] w w3 ∧ Blk w3 w.heap.size #[.int .i64 kd, .int .i64 ep, .int .i64 fr, .int .i64 (t : Int)] 79 := unhide HSMK w3 (q1.step hk3) (q2.kept hk3 (by simp))))
  obtain ⟨-, -, -, -, -, -, -, -, q1', q2'⟩ := HS3
  refine world_at (R := fun W => Kept [] w W ∧ Blk W w.heap.size #[.int .i64 kd, .int .i64 ep, .int .i64 fr, .int .i64 (t : Int)] 79) ⟨q1', q2'⟩ ?_
  clear hK1 hB1 hS1 q1 q2 hk3 q1' q2'
  rintro W4 ⟨hK4, hB4⟩
  have HK4 := hide hK4
  have HB4 := hide hB4
  clear hK4 hB4
  go_upto_region 4 with fail
  go_cut [46] (fun t wc => wc = W4 ∧ t = .bool (decide (r0 = 4 ∧ full = true)))
  case first =>
    by_cases h4 : r0 = 4
    · have t4 : (r0 == 4) = true := by simpa using h4
      have H4 := hide h4
      clear h4
      cases full with
      | true =>
        go_wp2_with fail
        go_meet
        exact ⟨rfl, by have := unhide H4; simp [this]⟩
      | false =>
        go_wp2_with fail
        go_meet
        exact ⟨rfl, by simp⟩
    · have t4 : (r0 == 4) = false := by simpa using h4
      go_wp2_with fail
      go_meet
      exact ⟨rfl, by simp [h4]⟩
  case rest =>
    obtain ⟨rfl, rfl⟩ := hcut
    go_upto_if 46 with fail
    go_cut [7, 8] (fun r y wq => wq = wc ∧ r = .int .i64 R ∧ y = .int .i64 Y)
    case first =>
      by_cases hf : r0 = 4 ∧ full = true
      · have hq : ((0 : Int), (8 : Int)) = (R, Y) := by have := unhide HA; rw [ans, if_pos hf] at this; exact this
        have hR : R = 0 := by injection hq with z; exact z.symm
        have hY : Y = 8 := by injection hq with _ z; exact z.symm
        rw [decide_eq_true hf]
        go_wp2_with fail
        go_meet
        exact ⟨rfl, by rw [hR], by rw [hY]⟩
      · have hq : (r0, y0) = (R, Y) := by have := unhide HA; rw [ans, if_neg hf] at this; exact this
        have hR : R = r0 := by injection hq with z; exact z.symm
        have hY : Y = y0 := by injection hq with _ z; exact z.symm
        rw [decide_eq_false hf]
        go_wp2_with fail
        go_meet
        exact ⟨rfl, by rw [hR], by rw [hY]⟩
    case rest =>
      obtain ⟨rfl, rfl, rfl⟩ := hcut
      go_upto_region 6 with fail
      have m1 : wc.cell? ⟨w.heap.size, 1, none⟩ = some (.int .i64 ep) := (unhide HB4).cell 1
      have m2 : wc.cell? ⟨w.heap.size, 2, none⟩ = some (.int .i64 fr) := (unhide HB4).cell 2
      have m3 : wc.cell? ⟨w.heap.size, 3, none⟩ = some (.int .i64 (t : Int)) := (unhide HB4).cell 3
      go_cut [61] (fun z wq => z = .bool false ∧ Hid (Wd wq b (.slice (some ⟨g, 0, none⟩) n cap) sv row2 sent ∧ Kept [g] w wq ∧ Blk wq w.heap.size #[.int .i64 kd, .int .i64 ep, .int .i64 fr, .int .i64 (t : Int)] 79))
      case first =>
        by_cases hR0 : R = 0
        · have t0 : (R == 0) = true := by simpa using hR0
          have t1 : (R != 0) = false := by simpa using hR0
          have HR0 := hide hR0
          clear hR0
          go_wp2_with fail
          go_meet
          refine ⟨rfl, hide ⟨?_, (unhide HK4).mono (fun x hx => by cases hx), unhide HB4⟩⟩
          rw [unhide HROW0 (unhide HR0)]
          exact Wd.kept (unhide HW) (unhide HK4)
        · have t0 : (R == 0) = false := by simpa using hR0
          have t1 : (R != 0) = true := by simpa using hR0
          have HT2 := unhide HT wc (Wd.kept (unhide HW) (unhide HK4))
          rw [unhide HRFS hR0] at HT2
          simp only [if_true, decide_true] at HT2
          rw [← unhide HROW hR0] at HT2
          have HT3 := hide HT2
          clear HT2 hR0
          go_wp2_with (first
            | (go_at_call 52; refine (unhide HT3).mono ?_; rintro e w5 ⟨rfl, hwd5, hk5⟩))
          go_meet
          refine ⟨rfl, hide ⟨hwd5, ((unhide HK4).mono (G := [g]) (fun x hx => by cases hx)).trans (G := [g]) hk5 (fun x hx => Or.inl hx), (unhide HB4).kept hk5 (fun q => by simp [Value.ownBlock] at q; omega)⟩⟩
      case rest =>
        obtain ⟨rfl, HX⟩ := hcut
        clear m1 m2 m3
        by_cases hY0 : Y = 0
        · have t0 : (Y == 0) = true := by simpa using hY0
          have t1 : (Y != 0) = false := by simpa using hY0
          have hsn : sentH sent t Y ep fr = sent := by unfold sentH; rw [if_pos hY0]
          have HSN := hide hsn
          have HR0 := hide hY0
          clear hY0 hsn
          go_wp2_with fail
          go_ret
          rw [unhide HSN]
          exact ⟨rfl, sv, (unhide HX).1, (unhide HX).2.1.mono (fun x hx => Or.inl (by simp at hx; subst hx; simp [Value.ownBlock])), Or.inl rfl⟩
        · have t0 : (Y == 0) = false := by simpa using hY0
          have t1 : (Y != 0) = true := by simpa using hY0
          have hsn : sentH sent t Y ep fr = sent ++ [⟨Y, ep, (t : Int), fr⟩] := by unfold sentH; rw [if_neg hY0]
          have HSN := hide hsn
          clear hY0 hsn HROW HROW0 HRFS HA HH HT
          go_upto_region 9 with fail
          have hW1 := (unhide HX).1
          have hK1 := (unhide HX).2.1
          have m1 : wc.cell? ⟨w.heap.size, 1, none⟩ = some (.int .i64 ep) := (unhide HX).2.2.cell 1
          have m2 : wc.cell? ⟨w.heap.size, 2, none⟩ = some (.int .i64 fr) := (unhide HX).2.2.cell 2
          have m3 : wc.cell? ⟨w.heap.size, 3, none⟩ = some (.int .i64 (t : Int)) := (unhide HX).2.2.cell 3
          have hml := (unhide HX).2.2.lt
          have b1 : wc.cell? ⟨b, 1, none⟩ = some sv := hW1.blk.cell 1
          have hbl1 := hW1.blk.lt
          obtain ⟨a2, c2, w2, hap, ho2, hk2, hv2⟩ := app_mail hW1.so ⟨Y, ep, (t : Int), fr⟩ (by omega) 47
          obtain ⟨L, hL⟩ : ∃ L, sent.length + 1 = L := ⟨_, rfl⟩
          rw [hL] at hap ho2 hv2
          have HAP := hide hap
          have HAP2 : Hid ((Builtin.append_ #[47, 47] 47 #[sv, .slice (some ⟨wc.heap.size, 0, none⟩) 1 1]).run Try.prog (wc.drew.alloc (.cells #[.int .i64 Y, .int .i64 ep, .int .i64 (t : Int), .int .i64 fr] 79)) = .ok (.slice a2 L c2) w2) := hap
          have hnb : b ∉ sv.ownBlock.toList := fun q => hW1.ns (by simpa using q)
          have hb2 := hW1.blk.kept hk2 hnb
          have e1 : w2.cell? ⟨b, 1, none⟩ = some sv := hb2.cell 1
          have f1 : w2.frozen? ⟨b, 1, none⟩ = false := hb2.frozen 1
          have HB2 := hide hb2
          have HO2 := hide ho2
          have HK2 := hide hk2
          have HV2 := hide hv2
          have HW1 := hide hW1
          have HK1 := hide hK1
          clear hap ho2 hk2 hv2 hb2 hL hnb HX
          have hka : Kept [] wc (wc.alloc (.cells #[.int .i64 Y, .int .i64 ep, .int .i64 (t : Int), .int .i64 fr] 79)) := (Kept.refl [] wc).alloc _
          have b1a : (wc.alloc (.cells #[.int .i64 Y, .int .i64 ep, .int .i64 (t : Int), .int .i64 fr] 79)).cell? ⟨b, 1, none⟩ = some sv := (hka.cell (p := ⟨b, 1, none⟩) hbl1 (by simp)).trans b1
          clear hka hW1 hK1
          go_region_law (first | (refine step_append_runE (by rfl) _ _ 47 47 (by rfl) _ _ (by rfl) (by rfl) (unhide HAP) ?_) | (refine step_append_runE (by rfl) _ _ 47 47 (by rfl) _ _ (by rfl) (by rfl) (unhide HAP2) ?_))
          all_goals
            go_wp2
            go_ret
            rw [unhide HSN]
            refine ⟨rfl, .slice a2 L c2, ⟨?_, ?_, ?_⟩, ?_, ?_⟩
            · exact (unhide HB2).set 1 _
            · exact own_kept (own_kept (unhide HW1).ro (unhide HK2) (fun q hq hm => (unhide HW1).rs hq (by simpa using hm))) ((Kept.refl [b] w2).setCell (Or.inl (by simp)) _) (fun q hq hm => by simp at hm; subst hm; exact (unhide HW1).nr hq)
            · exact own_kept (unhide HO2) ((Kept.refl [b] w2).setCell (Or.inl (by simp)) _) (fun q hq hm => by
                simp at hm
                subst hm
                rcases unhide HV2 with z | ⟨z, z1, z2⟩
                · rw [hq] at z; exact (unhide HW1).ns z.symm
                · rw [hq] at z1; cases z1; omega)
            · refine ((unhide HK1).mono (G := b :: ([g] ++ sv.ownBlock.toList)) (fun x hx => Or.inl (by simp at hx; subst hx; simp))).trans (G := b :: ([g] ++ sv.ownBlock.toList)) (((unhide HK2).mono (G := b :: ([g] ++ sv.ownBlock.toList)) (fun x hx => Or.inl (List.mem_cons_of_mem _ (List.mem_append_right _ hx)))).setCell (Or.inl (by simp)) _) (fun x hx => Or.inl hx)
            · rcases unhide HV2 with z | ⟨z, z1, z2⟩
              · exact Or.inl z
              · exact Or.inr ⟨z, z1, Nat.le_trans (unhide HK1).size z2⟩
end Go.Proofs.Ytnpabeodakncfaa
