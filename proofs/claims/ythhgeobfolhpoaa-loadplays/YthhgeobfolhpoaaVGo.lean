/- Go, Hit, New. -/
import Derived.Test.YthhgeobfolhpoaaVGrow
import Derived.Deep.RegionLaw
namespace Go.Proofs.Ythhgeobfolhpoaa
open Go.RowKit

theorem Mp.quiet {w w' : World} {b g : Nat} {m : Mt} (h : Mp w b g m) (hq : Quiet w w') : Mp w' b g m := h.kept hq.kept (by simp) (by simp)
theorem Mp.setClock {w : World} {b g : Nat} {m : Mt} (h : Mp w b g m) {t : Nat} (ht : t ≤ 1099511627776) : Mp (w.setCell ⟨b, 1, none⟩ (.int .i64 (t : Int))) b g { m with clock := t } := by
  refine ⟨⟨h.ok.h1, h.ok.h2, ht, h.ok.l1, h.ok.l2, h.ok.lo, h.ok.wl, h.ok.wi⟩, ?_, h.row.other ⟨b, 1, none⟩ (fun e => h.bg e.symm) _, h.bg⟩
  have := h.head.set 1 (.int .i64 (t : Int))
  rw [List.setIfInBounds_toArray] at this
  exact this
theorem Mt.goE_no {m : Mt} {now : Int} (h : m.goE now ≠ 0) : (now < 0 ∧ m.goE now = 2) ∨ (0 ≤ now ∧ 1099511627776 < now ∧ m.goE now = 2) ∨ (0 ≤ now ∧ now ≤ 1099511627776 ∧ now < (m.clock : Int) ∧ m.goE now = 90) := by
  unfold Mt.goE at h ⊢
  by_cases h1 : now < 0
  · exact Or.inl ⟨h1, by rw [if_pos (Or.inl h1)]⟩
  · by_cases h2 : 1099511627776 < now
    · exact Or.inr (Or.inl ⟨by omega, h2, by rw [if_pos (Or.inr h2)]⟩)
    · rw [if_neg (by omega)] at h ⊢
      by_cases h3 : now < (m.clock : Int)
      · exact Or.inr (Or.inr ⟨by omega, by omega, h3, by rw [if_pos h3]⟩)
      · rw [if_neg h3] at h; exact absurd rfl h

set_option maxRecDepth 100000 in
set_option maxHeartbeats 2000000 in
theorem go_yes {w : World} {b g : Nat} {m : Mt} (h : Mp w b g m) {t : Nat} (ht : t ≤ 1099511627776) (hc : m.clock ≤ t) : Calls Try.prog 18 #[.pointer (some ⟨b, 0, none⟩), .int .i64 (t : Int)] w fun e w' => e = .returned (.int .i64 0) ∧ Mp w' b g (m.go t) ∧ Kept [b, g] w w' := by
  have h1 := h.ok.h1
  have hcl := h.ok.c
  obtain ⟨-, c1, -⟩ := h.cells
  have f1 := h.head.frozen 1
  have hage1 : ∀ W, Quiet w W → Calls Try.prog 42 #[.pointer (some ⟨b, 0, none⟩), .int .i64 (t : Int)] W fun e w' => e = .returned (.int .i64 ((t / m.half : Nat) : Int)) ∧ w' = W := fun W hq => age_any (h.quiet hq) t ht
  have hage2 : ∀ W, Quiet w W → Calls Try.prog 42 #[.pointer (some ⟨b, 0, none⟩), .int .i64 (m.clock : Int)] W fun e w' => e = .returned (.int .i64 ((m.clock / m.half : Nat) : Int)) ∧ w' = W := fun W hq => age_any (h.quiet hq) m.clock hcl
  have hq1 : m.clock / m.half ≤ t / m.half := Nat.div_le_div_right hc
  have hq2 : t / m.half ≤ t := Nat.div_le_self _ _
  have hgr : ∀ W, Quiet w W → Calls Try.prog 41 #[.pointer (some ⟨b, 0, none⟩), .int .i64 (((t / m.half : Nat) : Int) - ((m.clock / m.half : Nat) : Int))] W fun e w' => e = .returned (.tuple #[]) ∧ Mp w' b g (m.grow (m.age t)) ∧ Kept [b, g] w w' := fun W hq => by
    have e : (((t / m.half : Nat) : Int) - ((m.clock / m.half : Nat) : Int)) = ((m.age t : Nat) : Int) := by unfold Mt.age; omega
    rw [e]
    refine (grow_any (h.quiet hq) (m.age t) (by unfold Mt.age; exact Nat.le_trans (Nat.sub_le _ _) (Nat.le_trans hq2 ht))).mono ?_
    rintro e' w' ⟨r1, r2, r3⟩
    exact ⟨r1, r2, hq.kept.mono (fun _ hx => by cases hx) |>.trans r3 (fun x hx => Or.inl hx)⟩
  have HG1 := hide hage1
  have HG2 := hide hage2
  have HGR := hide hgr
  have HM := hide h
  have t1 : ((t : Int) < 0) = False := by simp
  have t2 : ((1099511627776 : Int) < (t : Int)) = False := by simp; omega
  have t3 : ((t : Int) < (m.clock : Int)) = False := by simp; omega
  clear hage1 hage2 hgr h h1 hc
  obtain ⟨A, hA⟩ : ∃ A, t / m.half = A := ⟨_, rfl⟩
  obtain ⟨B, hB⟩ : ∃ B, m.clock / m.half = B := ⟨_, rfl⟩
  rw [hA] at HG1 HGR hq1 hq2
  rw [hB] at HG2 HGR hq1
  clear hA hB
  have HME := hide (show ∀ W, Mp W b g (m.grow (m.age t)) → Mp (W.setCell ⟨b, 1, none⟩ (.int .i64 (t : Int))) b g (m.go t) from fun W hW => hW.setClock ht)
  generalize hcl' : m.clock = cl at *
  have hwr : IntKind.i64.wrap ((A : Int) - (B : Int)) = (A : Int) - (B : Int) := by rw [IntKind.wrap_i64]; omega
  go_enter Try.func18, Try.ntmps18
  go_wp2_with fail
  go_region_held3 (fun w' => w'.cell? ⟨b, 1, none⟩ = some (.int .i64 (cl : Int))) (first | (with_reducible exact c1) | exact c1x | exact c1) (first
    | (go_at_call 42; refine (unhide HG1 _ (by first | exact Quiet.refl _ | exact (Quiet.refl _).drew | exact (Quiet.refl _).drew.drew)).mono ?_; rintro e w1 ⟨rfl, hq⟩; have hq' := hq.symm; subst hq'; clear HG1)
    | (go_at_call 42; refine (unhide HG2 _ (by first | exact Quiet.refl _ | exact (Quiet.refl _).drew | exact (Quiet.refl _).drew.drew)).mono ?_; rintro e w1 ⟨rfl, hq⟩; have hq' := hq.symm; subst hq')
    | (go_at_call 41; refine (unhide HGR _ (by first | exact Quiet.refl _ | exact (Quiet.refl _).drew | exact (Quiet.refl _).drew.drew)).mono ?_; rintro e w1 ⟨rfl, hmg, hkg⟩; have c1x : w1.cell? ⟨b, 1, none⟩ = some (.int .i64 (cl : Int)) := by rw [← hcl']; exact hmg.cells.2.1))
  have f1x := hmg.head.frozen 1
  have HE := hide (unhide HME _ hmg)
  have HKE := hide (hkg.setCell (p := ⟨b, 1, none⟩) (Or.inl (by simp)) (.int .i64 (t : Int)))
  clear hmg hkg
  go_wp2
  go_ret
  exact ⟨rfl, unhide HE, unhide HKE⟩

set_option maxRecDepth 100000 in
theorem go_no {w : World} {b g : Nat} {m : Mt} (h : Mp w b g m) {now : Int} (hn : m.goE now ≠ 0) : Calls Try.prog 18 #[.pointer (some ⟨b, 0, none⟩), .int .i64 now] w fun e w' => e = .returned (.int .i64 (m.goE now : Nat)) ∧ w' = w := by
  obtain ⟨-, c1, -⟩ := h.cells
  clear h
  rcases Mt.goE_no hn with ⟨h1, e⟩ | ⟨h1, h2, e⟩ | ⟨h1, h2, h3, e⟩
  · rw [e]
    have t1 : (now < 0) = True := by simp; exact h1
    clear hn e
    go_enter Try.func18, Try.ntmps18
    go_wp2
    go_ret
    exact ⟨rfl, rfl⟩
  · rw [e]
    have t1 : (now < 0) = False := by simp; omega
    have t2 : ((1099511627776 : Int) < now) = True := by simp; omega
    clear hn e
    go_enter Try.func18, Try.ntmps18
    go_wp2
    go_ret
    exact ⟨rfl, rfl⟩
  · rw [e]
    have t1 : (now < 0) = False := by simp; omega
    have t2 : ((1099511627776 : Int) < now) = False := by simp; omega
    have t3 : (now < (m.clock : Int)) = True := by simp; omega
    clear hn e
    go_enter Try.func18, Try.ntmps18
    go_wp2
    go_ret
    exact ⟨rfl, rfl⟩
/-- Go, whatever the time -/
theorem go_any {w : World} {b g : Nat} {m : Mt} (h : Mp w b g m) (now : Int) : Calls Try.prog 18 #[.pointer (some ⟨b, 0, none⟩), .int .i64 now] w fun e w' => e = .returned (.int .i64 (m.goE now : Nat)) ∧ Mp w' b g (m.onGo now) ∧ Kept [b, g] w w' := by
  by_cases hn : m.goE now = 0
  · obtain ⟨h1, h2, h3⟩ := Mt.goE_ok hn
    have := go_yes h (t := now.toNat) (by omega) (by omega)
    rw [show ((now.toNat : Nat) : Int) = now by omega] at this
    rw [hn]; unfold Mt.onGo; rw [if_pos hn]
    exact this
  · refine (go_no h hn).mono ?_
    rintro e w' ⟨r1, r2⟩
    refine ⟨r1, ?_, by rw [r2]; exact Kept.refl _ _⟩
    unfold Mt.onGo; rw [if_neg hn, r2]; exact h
set_option maxRecDepth 100000 in
theorem ngo (w : World) (now : Int) : Calls Try.prog 18 #[.pointer none, .int .i64 now] w fun e w' => e = .returned (.int .i64 1) ∧ w' = w := by
  go_enter Try.func18, Try.ntmps18
  go_wp2
  go_ret
  exact ⟨rfl, rfl⟩
set_option maxRecDepth 100000 in
theorem nhit (w : World) (s now : Int) (x : Nat) : Calls Try.prog 29 #[.pointer none, .int .i64 s, .int .i64 now, .float .f64 x] w fun e w' => e = .returned (.int .i64 1) ∧ w' = w := by
  go_enter Try.func29, Try.ntmps29
  go_wp2
  go_ret
  exact ⟨rfl, rfl⟩
end Go.Proofs.Ythhgeobfolhpoaa
