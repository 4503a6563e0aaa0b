/- One case of LedgerRises. -/
import Derived.Test.YtnpabeodakncfaaGLaw
namespace Go.Proofs.Ytnpabeodakncfaa
open Go.RowKit

/-- a case -/
structure Cs where
  sv : Int
  hm : Int
  ph : Int
  ep : Int
  pe : Int
  rc : Int
  re : Int
  rp : Int
  ms : Int
  se : Int
  sd : Int
def cc (c : Cs) : List Value := [.int .i64 c.sv, .int .i64 c.hm, .int .i64 c.ph, .int .i64 c.ep, .int .i64 c.pe, .int .i64 c.rc, .int .i64 c.re, .int .i64 c.rp, .int .i64 c.ms, .int .i64 c.se, .int .i64 c.sd]
def cv (c : Cs) : Value := .agg #[.int .i64 c.sv, .int .i64 c.hm, .int .i64 c.ph, .int .i64 c.ep, .int .i64 c.pe, .int .i64 c.rc, .int .i64 c.re, .int .i64 c.rp, .int .i64 c.ms, .int .i64 c.se, .int .i64 c.sd]

theorem rfs_vld {s : Int} {l : Ld} {k e p : Int} (h : rfs s l k e p = 0) : vld s l = true ∧ 1 ≤ k ∧ k ≤ 8 ∧ plc l.ph k = true ∧ emb l k e = true ∧ pmb s k p = true := by
  unfold rfs at h
  by_cases h1 : vld s l = false ∨ k < 1 ∨ 8 < k
  · rw [if_pos h1] at h; omega
  rw [if_neg h1] at h
  by_cases h2 : plc l.ph k = false
  · rw [if_pos h2] at h; omega
  rw [if_neg h2] at h
  by_cases h3 : emb l k e = false
  · rw [if_pos h3] at h; omega
  rw [if_neg h3] at h
  by_cases h4 : pmb s k p = false
  · rw [if_pos h4] at h; omega
  refine ⟨?_, by omega, by omega, by simpa using h2, by simpa using h3, by simpa using h4⟩
  cases hv : vld s l
  · exact absurd (Or.inl hv) h1
  · rfl
theorem kinds {k : Int} (h1 : 1 ≤ k) (h2 : k ≤ 8) : k = 1 ∨ k = 2 ∨ k = 3 ∨ k = 4 ∨ k = 5 ∨ k = 6 ∨ k = 7 ∨ k = 8 := by omega
theorem stp_vld {s : Int} {l : Ld} {k e p : Int} (h : rfs s l k e p = 0) : vld s (stp s l k e p) = true ∧ l.ep ≤ (stp s l k e p).ep := by
  obtain ⟨h1, h2, h3, h4, h5, h6⟩ := rfs_vld h
  obtain ⟨a, b, c⟩ := l
  rw [stp, if_pos h]
  rcases kinds h2 h3 with rfl | rfl | rfl | rfl | rfl | rfl | rfl | rfl <;>
    simp [vld, bhd, plc, emb, pmb, oth] at * <;> omega
theorem off_spec {l : Ld} {e f : Int} (h : (off l e f).1 ≠ 0) : off l e f = (4, 4) ∧ (l.ph = 0 ∨ l.ph = 4 ∨ l.ph = 5) ∧ l.ep < e ∧ e < 1073741824 := by
  unfold off at *
  by_cases a : l.ph = 4 ∧ met l e f = true
  · rw [if_pos a] at h; exact absurd rfl h
  rw [if_neg a] at h ⊢
  by_cases b : (l.ph = 0 ∨ l.ph = 4 ∨ l.ph = 5) ∧ l.ep < e ∧ e < 1073741824
  · rw [if_pos b]; exact ⟨rfl, b⟩
  · rw [if_neg b] at h; exact absurd rfl h
theorem hav_spec {l : Ld} {e f : Int} (h : (hav l e f).1 ≠ 0) : hav l e f = (5, 5) ∧ l.ph = 2 ∧ l.ep = e ∧ l.pe = f := by
  unfold hav at *
  by_cases a : l.ph = 2 ∧ met l e f = true
  · rw [if_pos a]; exact ⟨rfl, a.1, by simpa [met] using a.2⟩
  rw [if_neg a] at h
  by_cases b : l.ph = 3 ∧ met l e f = true
  · rw [if_pos b] at h; exact absurd rfl h
  rw [if_neg b] at h
  by_cases c : e < l.ep
  · rw [if_pos c] at h; exact absurd rfl h
  · rw [if_neg c] at h; exact absurd rfl h
theorem cmt_spec {l : Ld} {e f : Int} (h : (cmt l e f).1 ≠ 0) : cmt l e f = (6, 6) ∧ l.ph = 4 ∧ l.ep = e ∧ l.pe = f := by
  unfold cmt at *
  by_cases a : l.ph = 4 ∧ met l e f = true
  · rw [if_pos a]; exact ⟨rfl, a.1, by simpa [met] using a.2⟩
  rw [if_neg a] at h
  by_cases b : l.ph = 4 ∧ l.ep = e
  · rw [if_pos b] at h; exact absurd rfl h
  rw [if_neg b] at h
  by_cases c : e ≤ l.ep
  · rw [if_pos c] at h; exact absurd rfl h
  · rw [if_neg c] at h; exact absurd rfl h
theorem eof_spec {p r : Int} {l : Ld} {e f : Int} (h : eof p r l e f ≠ 0) : eof p r l e f = r ∧ l.ph = p ∧ l.ep = e ∧ l.pe = f := by
  unfold eof at *
  by_cases a : l.ph = p ∧ met l e f = true
  · rw [if_pos a]; exact ⟨rfl, a.1, by simpa [met] using a.2⟩
  · rw [if_neg a] at h; exact absurd rfl h
theorem her_no {s : Int} {l : Ld} {k e f : Int} (h : vld s l = false ∨ oth s f = false) : her s l k e f = (0, 0) := by unfold her; rw [if_pos h]
theorem her_yes {s : Int} {l : Ld} (k e f : Int) (hv : vld s l = true) (ho : oth s f = true) : her s l k e f = if k = 3 then off l e f else if k = 4 then hav l e f else if k = 5 then cmt l e f
  else if k = 6 then (eof 3 7 l e f, 0) else if k = 7 then (eof 4 8 l e f, 0) else if k = 8 then (eof 2 3 l e f, 0) else (0, 0) := by
  unfold her; rw [if_neg (by simp [hv, ho])]
theorem her_spec {s : Int} {l : Ld} {k e f : Int} (h : (her s l k e f).1 ≠ 0) : vld s l = true ∧ oth s f = true ∧
    ((k = 3 ∧ her s l k e f = (4, 4) ∧ (l.ph = 0 ∨ l.ph = 4 ∨ l.ph = 5) ∧ l.ep < e ∧ e < 1073741824) ∨
     (k = 4 ∧ her s l k e f = (5, 5) ∧ l.ph = 2 ∧ l.ep = e ∧ l.pe = f) ∨
     (k = 5 ∧ her s l k e f = (6, 6) ∧ l.ph = 4 ∧ l.ep = e ∧ l.pe = f) ∨
     (k = 6 ∧ her s l k e f = (7, 0) ∧ l.ph = 3 ∧ l.ep = e ∧ l.pe = f) ∨
     (k = 7 ∧ her s l k e f = (8, 0) ∧ l.ph = 4 ∧ l.ep = e ∧ l.pe = f) ∨
     (k = 8 ∧ her s l k e f = (3, 0) ∧ l.ph = 2 ∧ l.ep = e ∧ l.pe = f)) := by
  by_cases h1 : vld s l = false ∨ oth s f = false
  · rw [her_no h1] at h; exact absurd rfl h
  have hv : vld s l = true := by
    cases hv : vld s l
    · exact absurd (Or.inl hv) h1
    · rfl
  have ho : oth s f = true := by
    cases hv : oth s f
    · exact absurd (Or.inr hv) h1
    · rfl
  refine ⟨hv, ho, ?_⟩
  rw [her_yes k e f hv ho] at h ⊢
  by_cases k3 : k = 3
  · simp only [k3, if_true] at h ⊢
    exact Or.inl ⟨trivial, off_spec h⟩
  rw [if_neg k3] at h ⊢
  by_cases k4 : k = 4
  · rw [if_pos k4] at h ⊢
    exact Or.inr (Or.inl ⟨k4, hav_spec h⟩)
  rw [if_neg k4] at h ⊢
  by_cases k5 : k = 5
  · rw [if_pos k5] at h ⊢
    exact Or.inr (Or.inr (Or.inl ⟨k5, cmt_spec h⟩))
  rw [if_neg k5] at h ⊢
  by_cases k6 : k = 6
  · rw [if_pos k6] at h ⊢
    obtain ⟨q1, q2⟩ := eof_spec h
    exact Or.inr (Or.inr (Or.inr (Or.inl ⟨k6, by rw [q1], q2⟩)))
  rw [if_neg k6] at h ⊢
  by_cases k7 : k = 7
  · rw [if_pos k7] at h ⊢
    obtain ⟨q1, q2⟩ := eof_spec h
    exact Or.inr (Or.inr (Or.inr (Or.inr (Or.inl ⟨k7, by rw [q1], q2⟩))))
  rw [if_neg k7] at h ⊢
  by_cases k8 : k = 8
  · rw [if_pos k8] at h ⊢
    obtain ⟨q1, q2⟩ := eof_spec h
    exact Or.inr (Or.inr (Or.inr (Or.inr (Or.inr ⟨k8, by rw [q1], q2⟩))))
  rw [if_neg k8] at h
  exact absurd rfl h
theorem her_rec {s : Int} {l : Ld} {k e f : Int} (h : (her s l k e f).1 ≠ 0) :
    rfs s l (her s l k e f).1 e f = 0 ∧ stp s l (her s l k e f).1 e f ≠ l := by
  obtain ⟨h1, h2, h3⟩ := her_spec h
  obtain ⟨a, b, c⟩ := l
  have key : rfs s ⟨a, b, c⟩ (her s ⟨a, b, c⟩ k e f).1 e f = 0 := by
    rcases h3 with ⟨-, h3, h4⟩ | ⟨-, h3, h4⟩ | ⟨-, h3, h4⟩ | ⟨-, h3, h4⟩ | ⟨-, h3, h4⟩ | ⟨-, h3, h4⟩ <;> rw [h3] <;>
      simp [rfs, h1, h2, plc, emb, pmb] at * <;> omega
  refine ⟨key, ?_⟩
  rw [stp, if_pos key]
  rcases h3 with ⟨-, h3, h4⟩ | ⟨-, h3, h4⟩ | ⟨-, h3, h4⟩ | ⟨-, h3, h4⟩ | ⟨-, h3, h4⟩ | ⟨-, h3, h4⟩ <;> rw [h3] <;>
    simp [bhd] at * <;> omega
theorem her_rep (s : Int) (l : Ld) (k e f : Int) : (her s l k e f).2 = 0 ∨ (3 ≤ (her s l k e f).2 ∧ (her s l k e f).2 ≤ 8) := by
  unfold her off hav cmt
  repeat' split
  all_goals simp

set_option maxRecDepth 100000 in
set_option maxHeartbeats 1000000 in
theorem rises_any (w : World) (c : Cs) : Calls Try.prog 19 #[cv c] w fun e w' => e = .returned (.bool true) ∧ Kept [] w w' := by
  obtain ⟨sv, hm, ph, ep, pe, rc, re, rp, ms, se, sd⟩ := c
  have HS := fun W k x p => step_any W sv ⟨ph, ep, pe⟩ ⟨k, 0, x, p, 0, 0, 0, .slice none 0 0, .slice none 0 0, 0, .slice none 0 0⟩
  have HH := fun W => hear_any W sv ⟨ph, ep, pe⟩ ms se sd
  have HV := fun W a b c => valid_any W sv ⟨a, b, c⟩
  have HN := fun W n => num_any W n
  have f1 := stp_vld (s := sv) (l := ⟨ph, ep, pe⟩) (k := rc) (e := re) (p := rp)
  have f2 := fun h => (rfs_vld (s := sv) (l := ⟨ph, ep, pe⟩) (k := rc) (e := re) (p := rp) h).1
  have f3 := her_rec (s := sv) (l := ⟨ph, ep, pe⟩) (k := ms) (e := se) (f := sd)
  have f4 := her_rep sv ⟨ph, ep, pe⟩ ms se sd
  have f6 : rfs sv ⟨ph, ep, pe⟩ rc re rp ≠ 0 → stp sv ⟨ph, ep, pe⟩ rc re rp = ⟨0, 0, 0⟩ := fun h => by rw [stp, if_neg h]
  obtain ⟨R, Y, hH⟩ : ∃ R Y, her sv ⟨ph, ep, pe⟩ ms se sd = (R, Y) := ⟨_, _, rfl⟩
  have f5 := fun h => stp_vld (s := sv) (l := ⟨ph, ep, pe⟩) (k := R) (e := se) (p := sd) h
  rw [hH] at f3 f4
  obtain ⟨⟨xa, xb, xc⟩, hX⟩ : ∃ x, stp sv ⟨ph, ep, pe⟩ rc re rp = x := ⟨_, rfl⟩
  obtain ⟨⟨ya, yb, yc⟩, hY⟩ : ∃ x, stp sv ⟨ph, ep, pe⟩ R se sd = x := ⟨_, rfl⟩
  obtain ⟨E, hE⟩ : ∃ x, rfs sv ⟨ph, ep, pe⟩ rc re rp = x := ⟨_, rfl⟩
  rw [hX] at f1 f6
  rw [hE] at f1 f2 f6
  rw [hY] at f5
  simp only [hY] at f3
  unfold lv rv at *
  rw [show cv ⟨sv, hm, ph, ep, pe, rc, re, rp, ms, se, sd⟩ = .agg #[.int .i64 sv, .int .i64 hm, .int .i64 ph, .int .i64 ep, .int .i64 pe, .int .i64 rc, .int .i64 re, .int .i64 rp, .int .i64 ms, .int .i64 se, .int .i64 sd] from rfl]
  dsimp only at HS HH HV f1 f5
  have key : (E = 0 ∧ vld sv ⟨ph, ep, pe⟩ = true ∧ vld sv ⟨xa, xb, xc⟩ = true ∧ ¬ xb < ep) ∨ (E ≠ 0 ∧ xa = 0 ∧ xb = 0 ∧ xc = 0) := by
    by_cases h : E = 0
    · have := f1 h
      exact Or.inl ⟨h, f2 h, this.1, by omega⟩
    · have := f6 h
      exact Or.inr ⟨h, by injection this, by injection this, by injection this⟩
  have key2 : (R = 0 ∧ (Y = 0 ∨ 3 ≤ Y ∧ Y ≤ 8)) ∨ (R ≠ 0 ∧ rfs sv ⟨ph, ep, pe⟩ R se sd = 0 ∧ vld sv ⟨ya, yb, yc⟩ = true ∧ ¬ (ya = ph ∧ yb = ep ∧ yc = pe)) := by
    by_cases h : R = 0
    · exact Or.inl ⟨h, f4⟩
    · have := f3 h
      refine Or.inr ⟨h, this.1, (f5 this.1).1, ?_⟩
      rintro ⟨rfl, rfl, rfl⟩
      exact this.2 rfl
  clear f1 f2 f3 f4 f5 f6
  rcases key with ⟨rfl, v1, v2, v3⟩ | ⟨h1, rfl, rfl, rfl⟩
  · rcases key2 with ⟨rfl, v4⟩ | ⟨v4, v5, v6, v7⟩
    · go_enter Try.func19, Try.ntmps19
      go_wp2_with (first
        | (go_at_call 10; refine (HS _ _ _ _).mono ?_; rintro e w1 ⟨rfl, hk⟩; (first | (replace hC := hC.kept hk (by simp); (first | replace hB := hB.kept hk (by simp) | have hB := True.intro); replace hK := hK.step hk) | (replace hC := (hC.alloc _).kept hk (by simp); have hB := True.intro; replace hK := (hK.alloc _).step hk) | (have hC := (Blk.new w _ _).kept hk (by simp); have hK := ((Kept.refl [] w).alloc _).step hk)); clear hk; obtain ⟨c0, c1, c2, c3, c4, c5, c6, c7, c8, c9, c10⟩ := box11 hC; have hcl := hC.lt)
        | (go_at_call 32; refine (HV _ _ _ _).mono ?_; rintro e w2 ⟨rfl, hk⟩; (first | replace hC := hC.kept hk (by simp) | replace hC := (hC.alloc _).kept hk (by simp)); (first | replace hB := hB.kept hk (by simp) | replace hB := (hB.alloc _).kept hk (by simp) | have hB := (Blk.new w1 _ _).kept hk (by simp)); (first | replace hK := hK.step hk | replace hK := (hK.alloc _).step hk); (try have hD := (Blk.new w1 _ _).kept hk (by simp)); (try obtain ⟨d0, d1, d2⟩ := box3 hD); clear hk; obtain ⟨c0, c1, c2, c3, c4, c5, c6, c7, c8, c9, c10⟩ := box11 hC; (try obtain ⟨b0, b1, b2⟩ := box3 hB))
        | (go_at_call 12; refine (HH _).mono ?_; rintro e w3 ⟨rfl, hk⟩; (first | replace hC := hC.kept hk (by simp) | replace hC := (hC.alloc _).kept hk (by simp)); (first | replace hB := hB.kept hk (by simp) | have hB := (Blk.new w1 _ _).kept hk (by simp)); (first | replace hK := hK.step hk | replace hK := (hK.alloc _).step hk); clear hk; obtain ⟨c0, c1, c2, c3, c4, c5, c6, c7, c8, c9, c10⟩ := box11 hC; obtain ⟨b0, b1, b2⟩ := box3 hB)
        | (go_at_call 11; refine (HN _ _).mono ?_; rintro e w8 ⟨rfl, hq⟩; have hq2 := hq.symm; subst hq2))
      all_goals
        go_ret
        refine ⟨ret_bool ?_, hK⟩
        first | rfl | (simp; omega)
    · go_enter Try.func19, Try.ntmps19
      go_wp2_with (first
        | (go_at_call 10; refine (HS _ _ _ _).mono ?_; rintro e w1 ⟨rfl, hk⟩; (first | (replace hC := hC.kept hk (by simp); (first | replace hB := hB.kept hk (by simp) | have hB := True.intro); replace hK := hK.step hk) | (replace hC := (hC.alloc _).kept hk (by simp); have hB := True.intro; replace hK := (hK.alloc _).step hk) | (have hC := (Blk.new w _ _).kept hk (by simp); have hK := ((Kept.refl [] w).alloc _).step hk)); clear hk; obtain ⟨c0, c1, c2, c3, c4, c5, c6, c7, c8, c9, c10⟩ := box11 hC; have hcl := hC.lt)
        | (go_at_call 32; refine (HV _ _ _ _).mono ?_; rintro e w2 ⟨rfl, hk⟩; (first | replace hC := hC.kept hk (by simp) | replace hC := (hC.alloc _).kept hk (by simp)); (first | replace hB := hB.kept hk (by simp) | replace hB := (hB.alloc _).kept hk (by simp) | have hB := (Blk.new w1 _ _).kept hk (by simp)); (first | replace hK := hK.step hk | replace hK := (hK.alloc _).step hk); (try have hD := (Blk.new w1 _ _).kept hk (by simp)); (try obtain ⟨d0, d1, d2⟩ := box3 hD); clear hk; obtain ⟨c0, c1, c2, c3, c4, c5, c6, c7, c8, c9, c10⟩ := box11 hC; (try obtain ⟨b0, b1, b2⟩ := box3 hB))
        | (go_at_call 12; refine (HH _).mono ?_; rintro e w3 ⟨rfl, hk⟩; (first | replace hC := hC.kept hk (by simp) | replace hC := (hC.alloc _).kept hk (by simp)); (first | replace hB := hB.kept hk (by simp) | have hB := (Blk.new w1 _ _).kept hk (by simp)); (first | replace hK := hK.step hk | replace hK := (hK.alloc _).step hk); clear hk; obtain ⟨c0, c1, c2, c3, c4, c5, c6, c7, c8, c9, c10⟩ := box11 hC; obtain ⟨b0, b1, b2⟩ := box3 hB)
        | (go_at_call 11; refine (HN _ _).mono ?_; rintro e w8 ⟨rfl, hq⟩; have hq2 := hq.symm; subst hq2))
      all_goals
        go_ret
        refine ⟨ret_bool ?_, hK⟩
        first | rfl | (simp; omega) | (simp_all; omega)
  · rcases key2 with ⟨rfl, v4⟩ | ⟨v4, v5, v6, v7⟩
    · go_enter Try.func19, Try.ntmps19
      go_wp2_with (first
        | (go_at_call 10; refine (HS _ _ _ _).mono ?_; rintro e w1 ⟨rfl, hk⟩; (first | (replace hC := hC.kept hk (by simp); (first | replace hB := hB.kept hk (by simp) | have hB := True.intro); replace hK := hK.step hk) | (replace hC := (hC.alloc _).kept hk (by simp); have hB := True.intro; replace hK := (hK.alloc _).step hk) | (have hC := (Blk.new w _ _).kept hk (by simp); have hK := ((Kept.refl [] w).alloc _).step hk)); clear hk; obtain ⟨c0, c1, c2, c3, c4, c5, c6, c7, c8, c9, c10⟩ := box11 hC; have hcl := hC.lt)
        | (go_at_call 32; refine (HV _ _ _ _).mono ?_; rintro e w2 ⟨rfl, hk⟩; (first | replace hC := hC.kept hk (by simp) | replace hC := (hC.alloc _).kept hk (by simp)); (first | replace hB := hB.kept hk (by simp) | replace hB := (hB.alloc _).kept hk (by simp) | have hB := (Blk.new w1 _ _).kept hk (by simp)); (first | replace hK := hK.step hk | replace hK := (hK.alloc _).step hk); (try have hD := (Blk.new w1 _ _).kept hk (by simp)); (try obtain ⟨d0, d1, d2⟩ := box3 hD); clear hk; obtain ⟨c0, c1, c2, c3, c4, c5, c6, c7, c8, c9, c10⟩ := box11 hC; (try obtain ⟨b0, b1, b2⟩ := box3 hB))
        | (go_at_call 12; refine (HH _).mono ?_; rintro e w3 ⟨rfl, hk⟩; (first | replace hC := hC.kept hk (by simp) | replace hC := (hC.alloc _).kept hk (by simp)); (first | replace hB := hB.kept hk (by simp) | have hB := (Blk.new w1 _ _).kept hk (by simp)); (first | replace hK := hK.step hk | replace hK := (hK.alloc _).step hk); clear hk; obtain ⟨c0, c1, c2, c3, c4, c5, c6, c7, c8, c9, c10⟩ := box11 hC; obtain ⟨b0, b1, b2⟩ := box3 hB)
        | (go_at_call 11; refine (HN _ _).mono ?_; rintro e w8 ⟨rfl, hq⟩; have hq2 := hq.symm; subst hq2))
      all_goals
        go_ret
        refine ⟨ret_bool ?_, hK⟩
        first | rfl | (simp; omega)
    · go_enter Try.func19, Try.ntmps19
      go_wp2_with (first
        | (go_at_call 10; refine (HS _ _ _ _).mono ?_; rintro e w1 ⟨rfl, hk⟩; (first | (replace hC := hC.kept hk (by simp); (first | replace hB := hB.kept hk (by simp) | have hB := True.intro); replace hK := hK.step hk) | (replace hC := (hC.alloc _).kept hk (by simp); have hB := True.intro; replace hK := (hK.alloc _).step hk) | (have hC := (Blk.new w _ _).kept hk (by simp); have hK := ((Kept.refl [] w).alloc _).step hk)); clear hk; obtain ⟨c0, c1, c2, c3, c4, c5, c6, c7, c8, c9, c10⟩ := box11 hC; have hcl := hC.lt)
        | (go_at_call 32; refine (HV _ _ _ _).mono ?_; rintro e w2 ⟨rfl, hk⟩; (first | replace hC := hC.kept hk (by simp) | replace hC := (hC.alloc _).kept hk (by simp)); (first | replace hB := hB.kept hk (by simp) | replace hB := (hB.alloc _).kept hk (by simp) | have hB := (Blk.new w1 _ _).kept hk (by simp)); (first | replace hK := hK.step hk | replace hK := (hK.alloc _).step hk); (try have hD := (Blk.new w1 _ _).kept hk (by simp)); (try obtain ⟨d0, d1, d2⟩ := box3 hD); clear hk; obtain ⟨c0, c1, c2, c3, c4, c5, c6, c7, c8, c9, c10⟩ := box11 hC; (try obtain ⟨b0, b1, b2⟩ := box3 hB))
        | (go_at_call 12; refine (HH _).mono ?_; rintro e w3 ⟨rfl, hk⟩; (first | replace hC := hC.kept hk (by simp) | replace hC := (hC.alloc _).kept hk (by simp)); (first | replace hB := hB.kept hk (by simp) | have hB := (Blk.new w1 _ _).kept hk (by simp)); (first | replace hK := hK.step hk | replace hK := (hK.alloc _).step hk); clear hk; obtain ⟨c0, c1, c2, c3, c4, c5, c6, c7, c8, c9, c10⟩ := box11 hC; obtain ⟨b0, b1, b2⟩ := box3 hB)
        | (go_at_call 11; refine (HN _ _).mono ?_; rintro e w8 ⟨rfl, hq⟩; have hq2 := hq.symm; subst hq2))
      all_goals
        go_ret
        refine ⟨ret_bool ?_, hK⟩
        first | rfl | (simp; omega) | (simp_all; omega)
end Go.Proofs.Ytnpabeodakncfaa
