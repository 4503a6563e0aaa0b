/- Hit, New. -/
import Derived.Test.YthhgeobfolhpoaaVGo
namespace Go.Proofs.Ythhgeobfolhpoaa
open Go.RowKit

theorem Mp.setWin {w : World} {b g : Nat} {m : Mt} (h : Mp w b g m) {j x : Nat} (hj : j < 8) (hx : low x) : Mp (w.setCell ⟨b, 3 + j, none⟩ (.float .f64 x)) b g { m with wins := m.wins.set j x } := by
  refine ⟨⟨h.ok.h1, h.ok.h2, h.ok.c, h.ok.l1, h.ok.l2, h.ok.lo, by simp; exact h.ok.wl, fun i => ?_⟩, ?_, h.row.other ⟨b, 3 + j, none⟩ (fun e => h.bg e.symm) _, h.bg⟩
  · simp only []; rw [getD_set _ _ _ _ (by rw [h.ok.wl]; exact hj)]; split
    · exact hx
    · exact h.ok.wi i
  · have := h.head.set (3 + j) (.float .f64 x)
    rw [List.setIfInBounds_toArray] at this
    have e : (mcells m g).set (3 + j) (.float .f64 x) = mcells { half := m.half, clock := m.clock, loads := m.loads, wins := m.wins.set j x } g := by
      simp only [mcells, Nat.add_comm 3, List.set_cons_succ, flts_set]
    rw [e] at this
    exact this

set_option maxRecDepth 100000 in
set_option maxHeartbeats 2000000 in
theorem hit_yes {w : World} {b g : Nat} {m : Mt} (h : Mp w b g m) {s t x : Nat} (hs : s < m.loads.length) (ht : t ≤ 1099511627776) (hc : m.clock ≤ t) (hx : wok x) : Calls Try.prog 29 #[.pointer (some ⟨b, 0, none⟩), .int .i64 (s : Int), .int .i64 (t : Int), .float .f64 x] w fun e w' => e = .returned (.int .i64 0) ∧ Mp w' b g (m.hit s t x) ∧ Kept [b, g] w w' := by
  obtain ⟨-, -, c2⟩ := h.cells
  have hb64 : x < 18446744073709551616 := by unfold wok at hx; omega
  have hl2 := h.ok.l2
  have hwe := fun W => weighs_any W hb64
  rw [decide_eq_true hx] at hwe
  have HWE := fun W => hide (hwe W)
  have HGO := hide (fun W (hq : Quiet w W) => go_yes (h.quiet hq) ht hc)
  have HMO := hide (fun W W' (hq : Quiet w W) (hk : Kept [b, g] W W') => (hq.kept.mono (fun _ hx => by cases hx) |>.trans hk (fun x hx => Or.inl hx) : Kept [b, g] w W'))
  have HLL := hide (Mt.go_len m t)
  have HX := hide hx
  obtain ⟨L, hL⟩ : ∃ L, m.loads.length = L := ⟨_, rfl⟩
  rw [hL] at c2 hs hl2
  have HL := hide hL
  clear h hwe hL hx hb64
  have t1 : ((s : Int) < 0) = False := by simp
  have t2 : ((L : Int) ≤ (s : Int)) = False := by simp; omega
  go_enter Try.func29, Try.ntmps29
  go_wp2_with (first
    | (go_at_call 48; refine (unhide (HWE _)).mono ?_; rintro e w1 ⟨rfl, hq⟩; have hq' := hq.symm; subst hq'; clear HWE)
    | (go_at_call 18; refine (unhide HGO _ (by first | exact Quiet.refl _ | exact (Quiet.refl _).drew | exact (Quiet.refl _).drew.drew)).mono ?_; rintro e w1 ⟨rfl, hm1, hk1⟩
       have HK1 := hide hk1
       have HM1 := hide hm1
       obtain ⟨-, -, d2⟩ := hm1.cells
       rw [unhide HLL, unhide HL] at d2
       have hlen : s < (m.go t).loads.length := by rw [unhide HLL, unhide HL]; exact hs
       have lc := hm1.load hlen
       have ha1 := (add_eq (hm1.ok.lo s).good (unhide HX).fair).1
       have ha2 := (add_eq (hm1.ok.wi 7).good (unhide HX).fair).1
       have lo1 := add_low (hm1.ok.lo s) (unhide HX)
       have lo2 := add_low (hm1.ok.wi 7) (unhide HX)
       have hm2 := hm1.setLoad (j := s) lo1
       have hm3 := hm2.setWin (j := 7) (by omega) lo2
       have wc := hm2.win (j := 7) (by omega)
       simp only [Nat.reduceAdd] at wc
       have hs1 := fun W (hW : Quiet w1 W) => store_flt (o := s) (x := addF ((m.go t).loads.getD s 0) x) (hm1.quiet hW).row (by simp [flts_length]; exact hlen)
       have hs2 := store_flt (o := 10) (x := addF ((m.go t).wins.getD 7 0) x) hm2.head (by simp [mcells, flts_length]; rw [hm1.ok.wl]; omega)
       have hs3 := store_flt (o := 10) (x := addF ((m.go t).wins.getD 7 0) x) (hm2.quiet (Quiet.refl _).drew).head (by simp [mcells, flts_length]; rw [hm1.ok.wl]; omega)
       have HEND : Hid (Mp ((w1.setCell ⟨g, s, none⟩ (.float .f64 (addF ((m.go t).loads.getD s 0) x))).setCell ⟨b, 10, none⟩ (.float .f64 (addF ((m.go t).wins.getD 7 0) x))) b g (m.hit s t x)) := hm3
       have HKE := hide ((hk1.setCell (p := ⟨g, s, none⟩) (Or.inl (by simp)) (.float .f64 (addF ((m.go t).loads.getD s 0) x))).setCell (p := ⟨b, 10, none⟩) (Or.inl (by simp)) (.float .f64 (addF ((m.go t).wins.getD 7 0) x)))
       generalize (m.go t).loads.getD s 0 = l0 at *
       generalize (m.go t).wins.getD 7 0 = w7 at *
       generalize addF l0 x = l1 at *
       generalize addF w7 x = w8 at *
       have hr1 : ∀ t w, (binOp .add t (.float .f64 l0) (.float .f64 x)).run Try.prog w = .ok (.float .f64 l1) w := fun t w => run_float_arith w .add t .f64 _ _ _ ha1
       have hr2 : ∀ t w, (binOp .add t (.float .f64 w7) (.float .f64 x)).run Try.prog w = .ok (.float .f64 w8) w := fun t w => run_float_arith w .add t .f64 _ _ _ ha2
       have hs1' := hs1 w1 (Quiet.refl _)
       clear hm1 hm2 hm3 hk1 hlen lo1 lo2 ha1 ha2 hs1 HGO))
  go_region
  go_wp2
  go_ret
  exact ⟨rfl, (unhide HEND).quiet (Quiet.refl _).drew, (unhide HKE).drew⟩

theorem Mt.hitE_no {m : Mt} {s now : Int} {x : Nat} (h : m.hitE s now x ≠ 0) : (s < 0 ∧ m.hitE s now x = 2) ∨ (0 ≤ s ∧ (m.loads.length : Int) ≤ s ∧ m.hitE s now x = 2) ∨ (0 ≤ s ∧ s < (m.loads.length : Int) ∧ ¬ wok x ∧ m.hitE s now x = 2) ∨ (0 ≤ s ∧ s < (m.loads.length : Int) ∧ wok x ∧ m.hitE s now x = m.goE now ∧ m.goE now ≠ 0) := by
  unfold Mt.hitE at h ⊢
  by_cases h1 : s < 0
  · exact Or.inl ⟨h1, by rw [if_pos (Or.inl h1)]⟩
  · by_cases h2 : (m.loads.length : Int) ≤ s
    · exact Or.inr (Or.inl ⟨by omega, h2, by rw [if_pos (Or.inr (Or.inl h2))]⟩)
    · by_cases h3 : wok x
      · have hn : ¬ (s < 0 ∨ (m.loads.length : Int) ≤ s ∨ ¬ wok x) := by
          rintro (h4 | h4 | h4)
          · exact h1 h4
          · exact h2 h4
          · exact h4 h3
        rw [if_neg hn] at h ⊢
        exact Or.inr (Or.inr (Or.inr ⟨by omega, by omega, h3, rfl, h⟩))
      · exact Or.inr (Or.inr (Or.inl ⟨by omega, by omega, h3, by rw [if_pos (Or.inr (Or.inr h3))]⟩))
set_option maxRecDepth 100000 in
set_option maxHeartbeats 1000000 in
theorem hit_no {w : World} {b g : Nat} {m : Mt} (h : Mp w b g m) {s now : Int} {x : Nat} (hb64 : x < 18446744073709551616) (hn : m.hitE s now x ≠ 0) : Calls Try.prog 29 #[.pointer (some ⟨b, 0, none⟩), .int .i64 s, .int .i64 now, .float .f64 x] w fun e w' => e = .returned (.int .i64 (m.hitE s now x : Nat)) ∧ w' = w := by
  obtain ⟨-, -, c2⟩ := h.cells
  have hl2 := h.ok.l2
  have hwe := fun W => weighs_any W hb64
  rcases Mt.hitE_no hn with ⟨h1, e⟩ | ⟨h1, h2, e⟩ | ⟨h1, h2, h3, e⟩ | ⟨h1, h2, h3, e, h4⟩
  · rw [e]
    have t1 : (s < 0) = True := by simp; exact h1
    clear hn e h hwe
    go_enter Try.func29, Try.ntmps29
    go_wp2
    go_ret
    exact ⟨rfl, rfl⟩
  · rw [e]
    have t1 : (s < 0) = False := by simp; omega
    have t2 : ((m.loads.length : Int) ≤ s) = True := by simp; exact h2
    clear hn e h hwe
    go_enter Try.func29, Try.ntmps29
    go_wp2
    go_ret
    exact ⟨rfl, rfl⟩
  · rw [e]
    have t1 : (s < 0) = False := by simp; omega
    have t2 : ((m.loads.length : Int) ≤ s) = False := by simp; exact h2
    rw [decide_eq_false h3] at hwe
    have HWE := fun W => hide (hwe W)
    clear hn e h hwe
    go_enter Try.func29, Try.ntmps29
    go_wp2_with (first
      | (go_at_call 48; refine (unhide (HWE _)).mono ?_; rintro e w1 ⟨rfl, hq⟩; have hq' := hq.symm; subst hq'; clear HWE))
    go_ret
    exact ⟨rfl, rfl⟩
  · rw [e]
    have t1 : (s < 0) = False := by simp; omega
    have t2 : ((m.loads.length : Int) ≤ s) = False := by simp; exact h2
    rw [decide_eq_true h3] at hwe
    have HWE := fun W => hide (hwe W)
    have HGO := hide (go_no h h4)
    have t3 : ((m.goE now : Nat) = 0) = False := by simp; exact h4
    have t4 : (((m.goE now : Nat) : Int) = 0) = False := by simp; exact h4
    clear hn e h hwe
    generalize m.goE now = E at *
    go_enter Try.func29, Try.ntmps29
    go_wp2_with (first
      | (go_at_call 48; refine (unhide (HWE _)).mono ?_; rintro e w1 ⟨rfl, hq⟩; have hq' := hq.symm; subst hq'; clear HWE)
      | (go_at_call 18; refine (unhide HGO).mono ?_; rintro e w1 ⟨rfl, hq⟩; have hq' := hq.symm; subst hq'; clear HGO))
    go_ret
    exact ⟨rfl, rfl⟩
/-- Hit, whatever is handed in -/
theorem hit_any {w : World} {b g : Nat} {m : Mt} (h : Mp w b g m) (s now : Int) {x : Nat} (hb64 : x < 18446744073709551616) : Calls Try.prog 29 #[.pointer (some ⟨b, 0, none⟩), .int .i64 s, .int .i64 now, .float .f64 x] w fun e w' => e = .returned (.int .i64 (m.hitE s now x : Nat)) ∧ Mp w' b g (m.onHit s now x) ∧ Kept [b, g] w w' := by
  by_cases hn : m.hitE s now x = 0
  · obtain ⟨h1, h2, h3, h4⟩ := Mt.hitE_ok hn
    obtain ⟨h5, h6, h7⟩ := Mt.goE_ok h4
    have := hit_yes h (s := s.toNat) (t := now.toNat) (by omega) (by omega) (by omega) h3
    rw [show ((now.toNat : Nat) : Int) = now by omega, show ((s.toNat : Nat) : Int) = s by omega] at this
    rw [hn]; unfold Mt.onHit; rw [if_pos hn]
    exact this
  · refine (hit_no h hb64 hn).mono ?_
    rintro e w' ⟨r1, r2⟩
    refine ⟨r1, ?_, by rw [r2]; exact Kept.refl _ _⟩
    unfold Mt.onHit; rw [if_neg hn, r2]; exact h
end Go.Proofs.Ythhgeobfolhpoaa
