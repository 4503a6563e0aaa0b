/- take. -/
import Derived.Test.YtnpabeodakncfaaGRow
import Derived.BigRegion
namespace Go.Proofs.Ytnpabeodakncfaa
open Go.RowKit

theorem led_lt {row : List Ld} {k : Nat} (hk : k < row.length) : row[k]? = some (row.getD k ⟨0, 0, 0⟩) := by
  rw [List.getD, List.getElem?_eq_getElem hk]; rfl
abbrev TkS (w : World) (b g n cap k : Nat) (sv : Value) (row : List Ld) (sent : List Ml) (la lb lc' kd ep pe : Int) (W : World) : Prop :=
  W.cell? ⟨b, 0, none⟩ = some (.slice (some ⟨g, 0, none⟩) n cap) ∧ W.cell? ⟨g, k * 3, none⟩ = some (.int .i64 la) ∧ W.cell? ⟨g, k * 3 + 1, none⟩ = some (.int .i64 lb) ∧ W.cell? ⟨g, k * 3 + 2, none⟩ = some (.int .i64 lc') ∧
  W.cell? ⟨w.heap.size, 0, none⟩ = some (.int .i64 kd) ∧ W.cell? ⟨w.heap.size, 1, none⟩ = some (.int .i64 0) ∧ W.cell? ⟨w.heap.size, 2, none⟩ = some (.int .i64 ep) ∧ W.cell? ⟨w.heap.size, 3, none⟩ = some (.int .i64 pe) ∧ W.cell? ⟨w.heap.size, 4, none⟩ = some (.int .i64 0) ∧ W.cell? ⟨w.heap.size, 5, none⟩ = some (.int .i64 0) ∧ W.cell? ⟨w.heap.size, 6, none⟩ = some (.int .i64 0) ∧ W.cell? ⟨w.heap.size, 7, none⟩ = some (.slice none 0 0) ∧ W.cell? ⟨w.heap.size, 8, none⟩ = some (.slice none 0 0) ∧ W.cell? ⟨w.heap.size, 9, none⟩ = some (.int .i64 0) ∧ W.cell? ⟨w.heap.size, 10, none⟩ = some (.slice none 0 0) ∧
  Kept [] w W ∧ Wd W b (.slice (some ⟨g, 0, none⟩) n cap) sv row sent ∧ W.rangeAt g (k * 3) (lc ⟨la, lb, lc'⟩) ∧ g < W.heap.size ∧ Blk W w.heap.size #[.int .i64 kd, .int .i64 0, .int .i64 ep, .int .i64 pe, .int .i64 0, .int .i64 0, .int .i64 0, .slice none 0 0, .slice none 0 0, .int .i64 0, .slice none 0 0] 35
theorem TkS.mk {w : World} {b g n cap k : Nat} {sv : Value} {row : List Ld} {sent : List Ml} {la lb lc' kd ep pe : Int} {W : World} (h1 : Kept [] w W) (h2 : Wd W b (.slice (some ⟨g, 0, none⟩) n cap) sv row sent) (h3 : W.rangeAt g (k * 3) (lc ⟨la, lb, lc'⟩)) (h4 : g < W.heap.size) (h5 : Blk W w.heap.size #[.int .i64 kd, .int .i64 0, .int .i64 ep, .int .i64 pe, .int .i64 0, .int .i64 0, .int .i64 0, .slice none 0 0, .slice none 0 0, .int .i64 0, .slice none 0 0] 35) : TkS w b g n cap k sv row sent la lb lc' kd ep pe W :=
  ⟨h2.blk.cell 0, h3 0 _ rfl, h3 1 _ rfl, h3 2 _ rfl, h5.cell 0, h5.cell 1, h5.cell 2, h5.cell 3, h5.cell 4, h5.cell 5, h5.cell 6, h5.cell 7, h5.cell 8, h5.cell 9, h5.cell 10, h1, h2, h3, h4, h5⟩
theorem TkS.kept {w : World} {b g n cap k : Nat} {sv : Value} {row : List Ld} {sent : List Ml} {la lb lc' kd ep pe : Int} {W W' : World} (h : TkS w b g n cap k sv row sent la lb lc' kd ep pe W) (hk : Kept [] W W') : TkS w b g n cap k sv row sent la lb lc' kd ep pe W' := by
  obtain ⟨-, -, -, -, -, -, -, -, -, -, -, -, -, -, -, h1, h2, h3, h4, h5⟩ := h
  exact TkS.mk (h1.step hk) (h2.kept hk) (range_kept h3 hk h4 (by simp)) (Nat.lt_of_lt_of_le h4 hk.size) (h5.kept hk (by simp))
theorem TkS.alloc {w : World} {b g n cap k : Nat} {sv : Value} {row : List Ld} {sent : List Ml} {la lb lc' kd ep pe : Int} {W : World} (h : TkS w b g n cap k sv row sent la lb lc' kd ep pe W) (o : Obj) : TkS w b g n cap k sv row sent la lb lc' kd ep pe (W.alloc o) := h.kept ((Kept.refl [] W).alloc o)
theorem TkS.drew {w : World} {b g n cap k : Nat} {sv : Value} {row : List Ld} {sent : List Ml} {la lb lc' kd ep pe : Int} {W : World} (h : TkS w b g n cap k sv row sent la lb lc' kd ep pe W) : TkS w b g n cap k sv row sent la lb lc' kd ep pe W.drew := h.kept ((Kept.refl [] W).drew)
theorem TkS.set {w : World} {b g n cap k : Nat} {sv : Value} {row : List Ld} {sent : List Ml} {la lb lc' kd ep pe : Int} {W : World} (hw0 : Hid (Wd w b (.slice (some ⟨g, 0, none⟩) n cap) sv row sent)) (h0 : Hid (w.rangeAt g (k * 3) (lc ⟨la, lb, lc'⟩))) (hg : g < w.heap.size) (h : TkS w b g n cap k sv row sent la lb lc' kd ep pe W) {p : Addr} (hp : w.heap.size < p.block) (u : Value) : TkS w b g n cap k sv row sent la lb lc' kd ep pe (W.setCell p u) := by
  obtain ⟨-, -, -, -, -, -, -, -, -, -, -, -, -, -, -, h1, h2, h3, h4, h5⟩ := h
  have hk := h1.setCell (p := p) (Or.inr (by omega)) u
  exact TkS.mk hk (Wd.kept hw0 hk) (range_kept h0 hk hg (by simp)) (Nat.lt_of_lt_of_le hg hk.size) (h5.other p (by omega) u)
set_option maxRecDepth 100000 in
set_option maxHeartbeats 1000000 in
theorem take_any {w : World} {b : Nat} {rv sv : Value} {row : List Ld} {sent : List Ml} (hw : Wd w b rv sv row sent) {k : Nat} (hk : k < row.length) (kd ep pe : Int) :
    Calls Try.prog 52 #[.pointer (some ⟨b, 0, none⟩), .int .i64 (k : Int), .agg #[.int .i64 kd, .int .i64 0, .int .i64 ep, .int .i64 pe, .int .i64 0, .int .i64 0, .int .i64 0, .slice none 0 0, .slice none 0 0, .int .i64 0, .slice none 0 0]] w
      fun e w' => e = .returned (.bool (decide (rfs (k : Int) (row.getD k ⟨0, 0, 0⟩) kd ep pe = 0))) ∧
        Wd w' b rv sv (if rfs (k : Int) (row.getD k ⟨0, 0, 0⟩) kd ep pe = 0 then row.set k (stp (k : Int) (row.getD k ⟨0, 0, 0⟩) kd ep pe) else row) sent ∧ Kept rv.ownBlock.toList w w' := by
  have HW := hide hw
  obtain ⟨g, cap, hrv, -, hgl, hrg⟩ := own_at (ce := lc) (fun _ => rfl) hw.ro (led_lt hk)
  have hbk := hw.blk
  subst hrv
  have HS := fun W => step_any W (k : Int) (row.getD k ⟨0, 0, 0⟩) ⟨kd, 0, ep, pe, 0, 0, 0, .slice none 0 0, .slice none 0 0, 0, .slice none 0 0⟩
  have HN := fun W n => num_any W n
  have HSET := hide (fun (W : World) (h : Wd W b (.slice (some ⟨g, 0, none⟩) row.length cap) sv row sent) x => own_set3 h.ro hk x)
  generalize hgl2 : row.getD k ⟨0, 0, 0⟩ = l at *
  obtain ⟨X, hX⟩ : ∃ X, stp (k : Int) l kd ep pe = X := ⟨_, rfl⟩
  obtain ⟨E, hE⟩ : ∃ E, rfs (k : Int) l kd ep pe = E := ⟨_, rfl⟩
  dsimp only at HS
  simp only [hX, hE] at HS ⊢
  obtain ⟨n, hn⟩ : ∃ n, row.length = n := ⟨_, rfl⟩
  have hkn : (k : Int) < (n : Int) := by omega
  rw [hn] at HW hbk ⊢
  have HN' := hide hn
  rw [hn] at HSET
  obtain ⟨d0, d1, d2⟩ := row_cells hrg
  have b0 : w.cell? ⟨b, 0, none⟩ = some (.slice (some ⟨g, 0, none⟩) n cap) := hbk.cell 0
  have hbl := hbk.lt
  have HRG := hide hrg
  clear hX hE hgl2 hrg hbk hw
  obtain ⟨la, lb, lc'⟩ := l
  obtain ⟨xa, xb, xc⟩ := X
  unfold lv rv at HS
  dsimp only at *
  go_enter Try.func52, Try.ntmps52
  go_wp2_with fail
  have hT0 : TkS w b g n cap k sv row sent la lb lc' kd ep pe (w.alloc (.cells #[.int .i64 kd, .int .i64 0, .int .i64 ep, .int .i64 pe, .int .i64 0, .int .i64 0, .int .i64 0, .slice none 0 0, .slice none 0 0, .int .i64 0, .slice none 0 0] 35)) :=
    TkS.mk ((Kept.refl [] w).alloc _) ((unhide HW).kept ((Kept.refl [] w).alloc _)) (range_kept (unhide HRG) ((Kept.refl [] w).alloc _) hgl (by simp)) (Nat.lt_of_lt_of_le hgl ((Kept.refl [] w).alloc _).size) (Blk.new _ _ _)
  refine world_at (R := fun W => TkS w b g n cap k sv row sent la lb lc' kd ep pe W) hT0 ?_
  clear hT0 d0 d1 d2 b0
  intro W1 hT1
  have hw1 : w.heap.size < W1.heap.size := hT1.2.2.2.2.2.2.2.2.2.2.2.2.2.2.2.2.2.2.2.lt
  have hT1d := hT1.drew
  go_region_held3 (fun w' => w'.cell? ⟨b, 0, none⟩ = some (.slice (some ⟨g, 0, none⟩) n cap) ∧ w'.cell? ⟨g, k * 3, none⟩ = some (.int .i64 la) ∧ w'.cell? ⟨g, k * 3 + 1, none⟩ = some (.int .i64 lb) ∧ w'.cell? ⟨g, k * 3 + 2, none⟩ = some (.int .i64 lc') ∧  w'.cell? ⟨w.heap.size, 0, none⟩ = some (.int .i64 kd) ∧ w'.cell? ⟨w.heap.size, 1, none⟩ = some (.int .i64 0) ∧ w'.cell? ⟨w.heap.size, 2, none⟩ = some (.int .i64 ep) ∧ w'.cell? ⟨w.heap.size, 3, none⟩ = some (.int .i64 pe) ∧ w'.cell? ⟨w.heap.size, 4, none⟩ = some (.int .i64 0) ∧ w'.cell? ⟨w.heap.size, 5, none⟩ = some (.int .i64 0) ∧ w'.cell? ⟨w.heap.size, 6, none⟩ = some (.int .i64 0) ∧ w'.cell? ⟨w.heap.size, 7, none⟩ = some (.slice none 0 0) ∧ w'.cell? ⟨w.heap.size, 8, none⟩ = some (.slice none 0 0) ∧ w'.cell? ⟨w.heap.size, 9, none⟩ = some (.int .i64 0) ∧ w'.cell? ⟨w.heap.size, 10, none⟩ = some (.slice none 0 0) ∧  Kept [] w w' ∧ Wd w' b (.slice (some ⟨g, 0, none⟩) n cap) sv row sent ∧ w'.rangeAt g (k * 3) (lc ⟨la, lb, lc'⟩) ∧ g < w'.heap.size ∧ Blk w' w.heap.size #[.int .i64 kd, .int .i64 0, .int .i64 ep, .int .i64 pe, .int .i64 0, .int .i64 0, .int .i64 0, .slice none 0 0, .slice none 0 0, .int .i64 0, .slice none 0 0] 35) (first | assumption | exact hT1d | exact TkS.alloc (by assumption) _ | exact TkS.set HW HRG hgl (TkS.set HW HRG hgl (TkS.set HW HRG hgl (by assumption) (by first | exact hw1 | exact hx5) _) (by first | exact hw1 | exact hx5) _) (by first | exact hw1 | exact hx5) _) (first
    | (go_at_call 10; refine (HS _).mono ?_; rintro e w3 ⟨rfl, hk3⟩
       have hTq3 : TkS w b g n cap k sv row sent la lb lc' kd ep pe w3 := TkS.kept (by assumption) hk3
       have hx5 : w.heap.size < w3.heap.size := hTq3.2.2.2.2.2.2.2.2.2.2.2.2.2.2.2.2.2.2.2.lt
       try (have hbx : Blk w3 W1.heap.size #[.int .i64 0, .int .i64 0, .int .i64 0] 25 := (hk3.block W1.heap.size (by simp) (by simp)).trans (Blk.new W1 #[.int .i64 0, .int .i64 0, .int .i64 0] 25)
            obtain ⟨x0, x1, x2⟩ := box3 hbx
            obtain ⟨z0, z1, z2⟩ := froz hbx
            have hx4 := hbx.lt)))
  all_goals have hK3 := hTq3.2.2.2.2.2.2.2.2.2.2.2.2.2.2.2.1
  · refine world_at (R := fun W => Kept [] w W ∧ Blk W w3.heap.size #[.int .i64 xa, .int .i64 xb, .int .i64 xc] 25) ⟨hK3.alloc _, Blk.new _ _ _⟩ ?_
    generalize hcc : w3.heap.size = c at *
    clear hcc
    rintro W4 ⟨hK4, hB4⟩
    have hW4 := Wd.kept (unhide HW) hK4
    have r4 := range_kept (unhide HRG) hK4 hgl (by simp)
    obtain ⟨x0, x1, x2⟩ := box3 hB4
    obtain ⟨d0, d1, d2⟩ := row_cells r4
    have b0 : W4.cell? ⟨b, 0, none⟩ = some (.slice (some ⟨g, 0, none⟩) n cap) := hW4.blk.cell 0
    have f0 := own_frozen hW4.ro (k * 3)
    have f1 := own_frozen hW4.ro (k * 3 + 1)
    have f2 := own_frozen hW4.ro (k * 3 + 2)
    by_cases hE : E = 0
    · subst hE
      go_wp2_with (first
        | (go_at_call 11; refine (HN _ _).mono ?_; rintro e wz ⟨rfl, hq⟩; have hq2 := hq.symm; subst hq2))
      go_region
      all_goals
        go_wp2
        go_ret
        have hset := unhide HSET W4 hW4 ⟨xa, xb, xc⟩
        have hkk : Kept [g] W4 (((W4.setCell ⟨g, k * 3, none⟩ (.int .i64 xa)).setCell ⟨g, k * 3 + 1, none⟩ (.int .i64 xb)).setCell ⟨g, k * 3 + 2, none⟩ (.int .i64 xc)).drew := ((((Kept.refl [g] W4).setCell (Or.inl (by simp)) _).setCell (Or.inl (by simp)) _).setCell (Or.inl (by simp)) _).drew
        refine ⟨rfl, ⟨?_, ?_, ?_⟩, ?_⟩
        · exact hW4.blk.kept hkk (fun q => by simp at q; exact hW4.nr (by rw [q]; rfl))
        · have hl : (row.set k ⟨xa, xb, xc⟩).length = n := by simp; exact unhide HN'
          rw [hl] at hset ⊢
          exact hset
        · exact own_kept hW4.so hkk (fun q hq hm => by simp at hm; subst hm; exact hW4.rs rfl hq)
        · exact (hK4.mono (G := [g]) (fun x hx => by cases hx)).trans hkk (fun x hx => Or.inl hx)
    · have hE1 : (E != 0) = true := by simp; exact hE
      have hE2 : (E == 0) = false := by simp; exact hE
      go_wp2_with (first
        | (go_at_call 11; refine (HN _ _).mono ?_; rintro e wz ⟨rfl, hq⟩; have hq2 := hq.symm; subst hq2))
      go_ret
      refine ⟨?_, hW4, hK4.mono (fun x hx => by cases hx)⟩
      simp
  · refine world_at (R := fun W => Kept [] w W ∧ Blk W W1.heap.size #[.int .i64 xa, .int .i64 xb, .int .i64 xc] 25) ⟨((hK3.setCell (Or.inr (Nat.le_of_lt hw1)) _).setCell (Or.inr (Nat.le_of_lt hw1)) _).setCell (Or.inr (Nat.le_of_lt hw1)) _, put3 hbx _ _ _⟩ ?_
    generalize hcc : W1.heap.size = c at *
    clear hcc
    rintro W4 ⟨hK4, hB4⟩
    have hW4 := Wd.kept (unhide HW) hK4
    have r4 := range_kept (unhide HRG) hK4 hgl (by simp)
    obtain ⟨x0, x1, x2⟩ := box3 hB4
    obtain ⟨d0, d1, d2⟩ := row_cells r4
    have b0 : W4.cell? ⟨b, 0, none⟩ = some (.slice (some ⟨g, 0, none⟩) n cap) := hW4.blk.cell 0
    have f0 := own_frozen hW4.ro (k * 3)
    have f1 := own_frozen hW4.ro (k * 3 + 1)
    have f2 := own_frozen hW4.ro (k * 3 + 2)
    by_cases hE : E = 0
    · subst hE
      go_wp2_with (first
        | (go_at_call 11; refine (HN _ _).mono ?_; rintro e wz ⟨rfl, hq⟩; have hq2 := hq.symm; subst hq2))
      go_region
      all_goals
        go_wp2
        go_ret
        have hset := unhide HSET W4 hW4 ⟨xa, xb, xc⟩
        have hkk : Kept [g] W4 (((W4.setCell ⟨g, k * 3, none⟩ (.int .i64 xa)).setCell ⟨g, k * 3 + 1, none⟩ (.int .i64 xb)).setCell ⟨g, k * 3 + 2, none⟩ (.int .i64 xc)).drew := ((((Kept.refl [g] W4).setCell (Or.inl (by simp)) _).setCell (Or.inl (by simp)) _).setCell (Or.inl (by simp)) _).drew
        refine ⟨rfl, ⟨?_, ?_, ?_⟩, ?_⟩
        · exact hW4.blk.kept hkk (fun q => by simp at q; exact hW4.nr (by rw [q]; rfl))
        · have hl : (row.set k ⟨xa, xb, xc⟩).length = n := by simp; exact unhide HN'
          rw [hl] at hset ⊢
          exact hset
        · exact own_kept hW4.so hkk (fun q hq hm => by simp at hm; subst hm; exact hW4.rs rfl hq)
        · exact (hK4.mono (G := [g]) (fun x hx => by cases hx)).trans hkk (fun x hx => Or.inl hx)
    · have hE1 : (E != 0) = true := by simp; exact hE
      have hE2 : (E == 0) = false := by simp; exact hE
      go_wp2_with (first
        | (go_at_call 11; refine (HN _ _).mono ?_; rintro e wz ⟨rfl, hq⟩; have hq2 := hq.symm; subst hq2))
      go_ret
      refine ⟨?_, hW4, hK4.mono (fun x hx => by cases hx)⟩
      simp
end Go.Proofs.Ytnpabeodakncfaa
