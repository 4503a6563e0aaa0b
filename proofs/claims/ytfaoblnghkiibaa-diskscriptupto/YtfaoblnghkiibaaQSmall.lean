/- The disk's short calls: power, refusal, burn, Pending, Counts, Sectors, Fuse. -/
import Derived.Test.YtfaoblnghkiibaaQMem
import Derived.BigRegion
namespace Go.Proofs.Ytfaoblnghkiibaa
open Go.RowKit

set_option maxRecDepth 100000 in
theorem power_any {w : World} {b g pc : Nat} {pa : Option Addr} {d : Dm} (h : Dp w b g pa pc d) :
    Calls Try.prog 43 #[.pointer (some ⟨b, 0, none⟩)] w fun e w' => e = .returned (.int .i64 (pE d : Nat)) ∧ w' = w := by
  obtain ⟨-, -, c2, c3, -, -⟩ := dp_cells h
  clear h
  unfold pE
  rcases d with ⟨n, s, ps, fu, wr, sy⟩
  cases fu with
  | none =>
    simp at c2 c3 ⊢
    go_enter Try.func43, Try.ntmps43
    go_wp2
    go_ret
    exact ⟨rfl, rfl⟩
  | some f =>
    simp at c2 c3 ⊢
    by_cases hf : f = 0
    · subst hf
      simp at c3 ⊢
      go_enter Try.func43, Try.ntmps43
      go_wp2
      go_ret
      exact ⟨rfl, rfl⟩
    · have t1 : ((f : Int) = 0) = False := by simp; omega
      simp only [if_neg hf]
      go_enter Try.func43, Try.ntmps43
      go_wp2
      go_ret
      exact ⟨rfl, rfl⟩

set_option maxRecDepth 100000 in
theorem npower (w : World) : Calls Try.prog 43 #[.pointer none] w fun e w' => e = .returned (.int .i64 1) ∧ w' = w := by
  go_enter Try.func43, Try.ntmps43
  go_wp2
  go_ret
  exact ⟨rfl, rfl⟩

theorem pE_two (d : Dm) : (pE d = 80 ∧ d.fuse = some 0) ∨ (pE d = 0 ∧ d.fuse ≠ some 0) := by
  unfold pE; split
  · next h => exact Or.inl ⟨rfl, h⟩
  · next h => exact Or.inr ⟨rfl, h⟩

set_option maxRecDepth 100000 in
theorem refusal_any {w : World} {b g pc : Nat} {pa : Option Addr} {d : Dm} (h : Dp w b g pa pc d) (x : Int) :
    Calls Try.prog 40 #[.pointer (some ⟨b, 0, none⟩), .int .i64 x] w fun e w' => e = .returned (.int .i64 (rE d x : Nat)) ∧ w' = w := by
  obtain ⟨c0, -, -, -, -, -⟩ := dp_cells h
  have HP := hide (power_any h)
  have hn := h.ok.most
  clear h
  rcases pE_two d with ⟨h1, h2⟩ | ⟨h1, h2⟩
  · rw [h1] at HP
    have hr : rE d x = 80 := by simp [rE, h2]
    rw [hr]
    clear h1 h2 hr
    go_enter Try.func40, Try.ntmps40
    go_wp2_with (first | (go_at_call 43; refine (unhide HP).mono ?_; rintro e w' ⟨rfl, hq⟩; subst hq; clear HP))
    go_ret
    exact ⟨rfl, rfl⟩
  · rw [h1] at HP
    by_cases hx : x < 0 ∨ (d.n : Int) ≤ x
    · have hr : rE d x = 81 := by simp only [rE, if_neg h2, if_pos hx]
      rw [hr]
      generalize d.n = n at *
      clear h1 h2 hr
      by_cases hx0 : x < 0
      · clear hx
        go_enter Try.func40, Try.ntmps40
        go_wp2_with (first | (go_at_call 43; refine (unhide HP).mono ?_; rintro e w' ⟨rfl, hq⟩; subst hq; clear HP))
        go_ret
        exact ⟨rfl, rfl⟩
      · have t1 : (x < 0) = False := by simp; omega
        have t2 : ((n : Int) ≤ x) = True := by simp; omega
        clear hx hx0
        go_enter Try.func40, Try.ntmps40
        go_wp2_with (first | (go_at_call 43; refine (unhide HP).mono ?_; rintro e w' ⟨rfl, hq⟩; subst hq; clear HP))
        go_ret
        exact ⟨rfl, rfl⟩
    · have hr : rE d x = 0 := by simp only [rE, if_neg h2, if_neg hx]
      rw [hr]
      generalize d.n = n at *
      have t1 : (x < 0) = False := by simp; omega
      have t2 : ((n : Int) ≤ x) = False := by simp; omega
      clear h1 h2 hr hx
      go_enter Try.func40, Try.ntmps40
      go_wp2_with (first | (go_at_call 43; refine (unhide HP).mono ?_; rintro e w' ⟨rfl, hq⟩; subst hq; clear HP))
      go_ret
      exact ⟨rfl, rfl⟩

set_option maxRecDepth 100000 in
theorem nrefusal (w : World) (x : Int) : Calls Try.prog 40 #[.pointer none, .int .i64 x] w fun e w' => e = .returned (.int .i64 1) ∧ w' = w := by
  have HP := hide (npower w)
  go_enter Try.func40, Try.ntmps40
  go_wp2_with (first | (go_at_call 43; refine (unhide HP).mono ?_; rintro e w' ⟨rfl, hq⟩; subst hq; clear HP))
  go_ret
  exact ⟨rfl, rfl⟩

set_option maxRecDepth 100000 in
theorem pending_any {w : World} {b : Nat} {F : List Nat} {d : Dm} (h : Dk w b F d) :
    Calls Try.prog 23 #[.pointer (some ⟨b, 0, none⟩)] w fun e w' => e = .returned (.int .i64 (d.pend.length : Int)) ∧ w' = w := by
  obtain ⟨g, pa, pc, h, -⟩ := h
  obtain ⟨-, c1, -, -, -, -⟩ := dp_cells h
  clear h
  go_enter Try.func23, Try.ntmps23
  go_wp2
  go_ret
  exact ⟨rfl, rfl⟩
set_option maxRecDepth 100000 in
theorem npending (w : World) : Calls Try.prog 23 #[.pointer none] w fun e w' => e = .returned (.int .i64 0) ∧ w' = w := by
  go_enter Try.func23, Try.ntmps23
  go_wp2
  go_ret
  exact ⟨rfl, rfl⟩
set_option maxRecDepth 100000 in
theorem sectors_any {w : World} {b : Nat} {F : List Nat} {d : Dm} (h : Dk w b F d) :
    Calls Try.prog 26 #[.pointer (some ⟨b, 0, none⟩)] w fun e w' => e = .returned (.int .i64 (d.n : Int)) ∧ w' = w := by
  obtain ⟨g, pa, pc, h, -⟩ := h
  obtain ⟨c0, -, -, -, -, -⟩ := dp_cells h
  clear h
  go_enter Try.func26, Try.ntmps26
  go_wp2
  go_ret
  exact ⟨rfl, rfl⟩
set_option maxRecDepth 100000 in
theorem nsectors (w : World) : Calls Try.prog 26 #[.pointer none] w fun e w' => e = .returned (.int .i64 0) ∧ w' = w := by
  go_enter Try.func26, Try.ntmps26
  go_wp2
  go_ret
  exact ⟨rfl, rfl⟩
set_option maxRecDepth 100000 in
theorem counts_any {w : World} {b : Nat} {F : List Nat} {d : Dm} (h : Dk w b F d) :
    Calls Try.prog 24 #[.pointer (some ⟨b, 0, none⟩)] w fun e w' => e = .returned (.tuple #[.int .i64 d.wr, .int .i64 d.sy]) ∧ ∃ m, w' = w.drewN m := by
  obtain ⟨g, pa, pc, h, -⟩ := h
  obtain ⟨-, -, -, -, c4, c5⟩ := dp_cells h
  clear h
  go_enter Try.func24, Try.ntmps24
  go_wp2
  go_quiet (fail)
  go_wp2
  go_ret2
  exact ⟨rfl, _, rfl⟩
set_option maxRecDepth 100000 in
theorem ncounts (w : World) : Calls Try.prog 24 #[.pointer none] w fun e w' => e = .returned (.tuple #[.int .i64 0, .int .i64 0]) ∧ w' = w := by
  go_enter Try.func24, Try.ntmps24
  go_wp2
  go_ret2
  exact ⟨rfl, rfl⟩

theorem Dp.setHead {w : World} {b g pc : Nat} {pa : Option Addr} {d : Dm} (h : Dp w b g pa pc d) (o : Nat) (u : Value) {f : Option Nat} {wr sy : Int} (hc : (dcells g d.n (.slice pa d.pend.length pc) d.fuse d.wr d.sy).setIfInBounds o u = dcells g d.n (.slice pa d.pend.length pc) f wr sy)
    (hf : ∀ x, f = some x → x ≤ 9223372036854775807) : Dp (w.setCell ⟨b, o, none⟩ u) b g pa pc { d with fuse := f, wr := wr, sy := sy } := by
  have hk : Kept [b] w (w.setCell ⟨b, o, none⟩ u) := (Kept.refl _ _).setCell (p := ⟨b, o, none⟩) (Or.inl (by simp)) _
  refine ⟨⟨h.ok.one, h.ok.most, h.ok.len, h.ok.byte, h.ok.pend, hf⟩, ?_, h.safe.kept hk (by simp; exact fun e => h.bg e.symm), own_kept h.pend hk (fun p hp => by simp; exact (h.pb p hp).1), h.bg, h.pb⟩
  have := h.head.set o u
  rw [hc] at this
  exact this

set_option maxRecDepth 100000 in
theorem fuse_any {w : World} {b : Nat} {F : List Nat} {d : Dm} (h : Dk w b F d) (n : Int) (hn : n ≤ 9223372036854775807) :
    Calls Try.prog 18 #[.pointer (some ⟨b, 0, none⟩), .int .i64 n] w fun e w' => e = .returned (.tuple #[]) ∧ Dk w' b F (d.setFuse n) ∧ Nx F w F w' := by
  obtain ⟨g, pa, pc, h, hb, hg, hp, hlt⟩ := h
  obtain ⟨-, -, c2, c3, -, -⟩ := dp_cells h
  have f2 := h.head.frozen 2
  have f3 := h.head.frozen 3
  have key : ∀ (bv : Bool) (iv : Int), (Value.bool bv = .bool (fuseOf n).isSome) → (Value.int .i64 iv = .int .i64 (((fuseOf n).getD 0 : Nat) : Int)) → Dk ((w.setCell ⟨b, 2, none⟩ (.bool bv)).setCell ⟨b, 3, none⟩ (.int .i64 iv)) b F (d.setFuse n) ∧ Nx F w F ((w.setCell ⟨b, 2, none⟩ (.bool bv)).setCell ⟨b, 3, none⟩ (.int .i64 iv)) := by
    intro bv iv e1 e2
    have hk1 : Kept [b] w (w.setCell ⟨b, 2, none⟩ (.bool bv)) := (Kept.refl _ _).setCell (p := ⟨b, 2, none⟩) (Or.inl (by simp)) _
    have hk2 : Kept [b] w ((w.setCell ⟨b, 2, none⟩ (.bool bv)).setCell ⟨b, 3, none⟩ (.int .i64 iv)) := hk1.setCell (p := ⟨b, 3, none⟩) (Or.inl (by simp)) _
    refine ⟨⟨g, pa, pc, ⟨Dm.setFuse_ok h.ok hn, ?_, h.safe.kept hk2 (by simp; exact fun e => h.bg e.symm), own_kept h.pend hk2 (fun p hp => by simp; exact (h.pb p hp).1), h.bg, h.pb⟩, hb, hg, hp, fun x hx => Nat.lt_of_lt_of_le (hlt x hx) hk2.size⟩, hk2.mono (fun x hx => by simp at hx; subst hx; exact Or.inl hb), fun x hx => Or.inl hx⟩
    have := (h.head.set 2 (.bool bv)).set 3 (.int .i64 iv)
    rw [e1, e2] at this
    rw [e1, e2]
    exact this
  have KEY := hide key
  clear key h hb hg hp hlt
  by_cases hn0 : n < 0
  · have e1 : fuseOf n = none := by simp [fuseOf, hn0]
    rw [e1] at KEY
    have t1 : ((0 : Int) ≤ n) = False := by simp; omega
    have t2 : max n 0 = 0 := by omega
    have KEY2 := hide (unhide KEY false 0 rfl rfl)
    have HN := hide hn0
    clear KEY e1 hn0
    go_enter Try.func18, Try.ntmps18
    go_wp2
    refine bodyPost_end (results_none rfl _ _ _) rfl ?_
    exact ⟨rfl, unhide KEY2⟩
  · have e1 : fuseOf n = some n.toNat := by simp [fuseOf, hn0]
    rw [e1] at KEY
    have t1 : ((0 : Int) ≤ n) = True := by simp; omega
    have t2 : max n 0 = n := by omega
    have KEY2 := hide (unhide KEY true n rfl (by simp; omega))
    clear KEY e1 hn0
    go_enter Try.func18, Try.ntmps18
    go_wp2
    refine bodyPost_end (results_none rfl _ _ _) rfl ?_
    exact ⟨rfl, unhide KEY2⟩
set_option maxRecDepth 100000 in
theorem nfuse (w : World) (n : Int) : Calls Try.prog 18 #[.pointer none, .int .i64 n] w fun e w' => e = .returned (.tuple #[]) ∧ w' = w := by
  go_enter Try.func18, Try.ntmps18
  go_wp2
  refine bodyPost_end (results_none rfl _ _ _) rfl ?_
  exact ⟨rfl, rfl⟩

set_option maxRecDepth 100000 in
theorem burn_any {w : World} {b g pc : Nat} {pa : Option Addr} {d : Dm} (h : Dp w b g pa pc d) (hz : d.fuse ≠ some 0) :
    Calls Try.prog 41 #[.pointer (some ⟨b, 0, none⟩)] w fun e w' => e = .returned (.tuple #[]) ∧ Dp w' b g pa pc { d with fuse := burn d.fuse } ∧ Kept [b] w w' := by
  obtain ⟨-, -, c2, c3, -, -⟩ := dp_cells h
  have f3 := h.head.frozen 3
  have H := hide h
  clear h
  rcases d with ⟨n, s, ps, fu, wr, sy⟩
  cases fu with
  | none =>
    simp at c2 c3
    go_enter Try.func41, Try.ntmps41
    go_wp2
    refine bodyPost_end (results_none rfl _ _ _) rfl ?_
    exact ⟨rfl, unhide H, Kept.refl _ _⟩
  | some f =>
    simp at c2 c3 hz
    have hf : 1 ≤ f := by omega
    have t1 : IntKind.i64.wrap ((f : Int) - 1) = ((f - 1 : Nat) : Int) := by
      have := (unhide H).ok.fuse f rfl
      rw [show (f : Int) - 1 = ((f - 1 : Nat) : Int) by omega, IntKind.wrap_i64]; omega
    have hb : f - 1 ≤ 9223372036854775807 := by have := (unhide H).ok.fuse f rfl; omega
    have HB := hide hb
    clear hb hf hz
    go_enter Try.func41, Try.ntmps41
    go_wp2
    refine bodyPost_end (results_none rfl _ _ _) rfl ?_
    refine ⟨rfl, ?_, (Kept.refl _ _).setCell (p := ⟨b, 3, none⟩) (Or.inl (by simp)) _⟩
    exact (unhide H).setHead 3 (.int .i64 ((f - 1 : Nat) : Int)) (f := some (f - 1)) (wr := wr) (sy := sy) rfl (fun x hx => by cases hx; exact unhide HB)
end Go.Proofs.Ytfaoblnghkiibaa
