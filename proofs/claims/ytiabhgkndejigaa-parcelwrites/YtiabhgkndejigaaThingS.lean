/- A Thing comes back out of a reader: real numbers, raw bytes, texts. -/
import Derived.Test.YtiabhgkndejigaaThingR
namespace Go.Proofs.Ytiabhgkndejigaa
open Go.RowKit

theorem canon_cases (n : Nat) : (nanB n = false ∧ canon n = n) ∨ (nanB n = true ∧ canon n = oneNaN) := by
  unfold canon
  cases h : nanB n
  · left; exact ⟨rfl, by simp⟩
  · right; exact ⟨rfl, by simp⟩
theorem canon_lt (n : Nat) (hn : n < 18446744073709551616) : canon n < 18446744073709551616 := by
  rcases canon_cases n with ⟨_, h⟩ | ⟨_, h⟩ <;> rw [h]
  · exact hn
  · decide
theorem canon_nan (n : Nat) : nanB (canon n) = false ∨ (nanB (canon n) = true ∧ canon n = oneNaN) := by
  rcases canon_cases n with ⟨h1, h⟩ | ⟨_, h⟩ <;> rw [h]
  · exact Or.inl h1
  · exact Or.inr ⟨nan_one, rfl⟩

set_option maxRecDepth 100000 in
set_option maxHeartbeats 400000 in
theorem back_4 {w : World} {b : Nat} {lv bv : Value} {rest : List Nat} (t : Th) (ok : t.ok) (h : Rd w b lv bv (t.bytes ++ rest)) (hb : ∀ x ∈ t.bytes ++ rest, x < 256) (hj : t.k = 4) :
    Calls Try.prog 37 #[t.val, .pointer (some ⟨b, 0, none⟩)] w fun e w' => e = .returned (.bool true) ∧ Took w b lv bv rest w' := by
  have HK := fun w => kind_any t w
  rw [show rnd t.kind 9 = 4 from hj] at HK
  have hbytes : t.bytes = be8 (canon t.n) := by simp [Th.bytes, hj]
  rw [hbytes] at h hb
  clear hbytes hj
  have hcc := fun (w' : World) (F : List Nat) => copy_cells t (w := w) (w' := w') (F := F)
  obtain ⟨k, n, i, pa, pc, p⟩ := t
  obtain ⟨hk1, hk2, hn, hi1, hi2, hp6⟩ := ok
  simp only [Th.val, Th.copy] at *
  have hbl := h.blk.lt
  have HC : Hid (∀ W, Kept [] (w.alloc (.cells #[.int .i64 k, .int .u64 (n : Int), .int .i64 i, .slice pa p.length pc] 73)) W → Calls Try.prog 31 #[.pointer (some ⟨b, 0, none⟩)] W fun e w' => e = .returned (.float .f64 (canon n)) ∧ Hid (Took w b lv bv rest w') ∧ w'.cell? ⟨w.heap.size, 0, none⟩ = some (.int .i64 k) ∧ w'.cell? ⟨w.heap.size, 1, none⟩ = some (.int .u64 (n : Int)) ∧ w'.cell? ⟨w.heap.size, 2, none⟩ = some (.int .i64 i) ∧ w'.cell? ⟨w.heap.size, 3, none⟩ = some (.slice pa p.length pc)) := by
    refine hide fun W hW => ?_
    have k0 : Kept [] w W := ((Kept.refl [] w).alloc _).trans hW (by simp)
    refine (rreal_ok (h.kept k0 (by simp) (by simp)) (be8_lt (canon n) (canon_lt n hn)) (canon n) (be8_of8 _ (canon_lt n hn)) (canon_nan n)).mono ?_
    rintro e w' ⟨rfl, hr, hk⟩
    have hk' : Kept [b] (w.alloc (.cells #[.int .i64 k, .int .u64 (n : Int), .int .i64 i, .slice pa p.length pc] 73)) w' := (hW.mono (by simp)).trans hk (fun x hx => Or.inl hx)
    exact ⟨rfl, hide ⟨hr, (k0.mono (by simp)).trans hk (fun x hx => Or.inl hx)⟩, hcc w' [b] hk' (by simp; omega)⟩
  clear h hb hp6 hcc
  have h29 := fb29
  have h32 := fb32
  have hcan := canon_cases n
  rcases hcan with ⟨hnan, hc⟩ | ⟨hnan, hc⟩
  · rw [hc] at HC
    clear hc
    unfold nanB at hnan
    go_enter Try.func37, Try.ntmps37
    go_wp2_with (first | (go_at_call 90; refine (HK _).mono ?_; rintro e w' ⟨rfl, rfl⟩) | (go_at_call 31; refine (unhide HC _ ?_).mono ?_; exact (Kept.refl [] _).alloc _; rintro e w1 ⟨rfl, HX, q0, q1, q2, q3⟩))
    go_ret
    exact ⟨rfl, unhide HX⟩
  · rw [hc] at HC
    clear hc
    unfold nanB at hnan
    unfold oneNaN at HC
    by_cases hone : n = 9221120237041090560
    · subst hone
      go_enter Try.func37, Try.ntmps37
      go_wp2_with (first | (go_at_call 90; refine (HK _).mono ?_; rintro e w' ⟨rfl, rfl⟩) | (go_at_call 31; refine (unhide HC _ ?_).mono ?_; exact (Kept.refl [] _).alloc _; rintro e w1 ⟨rfl, HX, q0, q1, q2, q3⟩))
      go_ret
      exact ⟨rfl, unhide HX⟩
    · have hne : ((n : Int) == 9221120237041090560) = false := by rw [beq_eq_false_iff_ne]; omega
      clear hone
      go_enter Try.func37, Try.ntmps37
      go_wp2_with (first | (go_at_call 90; refine (HK _).mono ?_; rintro e w' ⟨rfl, rfl⟩) | (go_at_call 31; refine (unhide HC _ ?_).mono ?_; exact (Kept.refl [] _).alloc _; rintro e w1 ⟨rfl, HX, q0, q1, q2, q3⟩))
      go_ret
      exact ⟨rfl, unhide HX⟩

theorem Took.drewN {w w' : World} {b : Nat} {lv bv : Value} {rest : List Nat} (h : Took w b lv bv rest w') (m : Nat) : Took w b lv bv rest (w'.drewN m) := by
  obtain ⟨⟨lv', h1, h2⟩, h3⟩ := h
  exact ⟨⟨lv', h1.kept ((Kept.refl [] _).drewN m) (by simp) (by simp), h2⟩, h3.drewN m⟩

set_option maxRecDepth 100000 in
set_option maxHeartbeats 400000 in
theorem back_5 {w : World} {b : Nat} {lv bv : Value} {rest : List Nat} (t : Th) (ok : t.ok) (h : Rd w b lv bv (t.bytes ++ rest)) (hb : ∀ x ∈ t.bytes ++ rest, x < 256) (hS : Far w t.pv t.p [b]) (hpl : t.p.length ≤ 1000000000000) (hj : t.k = 5) :
    Calls Try.prog 37 #[t.val, .pointer (some ⟨b, 0, none⟩)] w fun e w' => e = .returned (.bool true) ∧ Took w b lv bv rest w' := by
  have HK := fun w => kind_any t w
  rw [show rnd t.kind 9 = 5 from hj] at HK
  have hbytes : t.bytes = t.p := by simp [Th.bytes, hj]
  rw [hbytes] at h hb
  clear hbytes hj
  have hcc := fun (w' : World) (F : List Nat) => copy_cells t (w := w) (w' := w') (F := F)
  obtain ⟨k, n, i, pa, pc, p⟩ := t
  obtain ⟨hk1, hk2, hn, hi1, hi2, hp6⟩ := ok
  simp only [Th.val, Th.copy, Th.pv] at *
  have hbl := h.blk.lt
  have HC : Hid (∀ W, Kept [] (w.alloc (.cells #[.int .i64 k, .int .u64 (n : Int), .int .i64 i, .slice pa p.length pc] 73)) W → Calls Try.prog 64 #[.pointer (some ⟨b, 0, none⟩), .int .i64 (p.length : Nat)] W fun e w' => (∃ a cap, e = .returned (.slice a p.length cap) ∧ Hid (Sees w' (.slice a p.length cap) p ∧ Wide w' (.slice pa p.length pc) p)) ∧ Hid (Took w b lv bv rest w') ∧ w'.cell? ⟨w.heap.size, 0, none⟩ = some (.int .i64 k) ∧ w'.cell? ⟨w.heap.size, 1, none⟩ = some (.int .u64 (n : Int)) ∧ w'.cell? ⟨w.heap.size, 2, none⟩ = some (.int .i64 i) ∧ w'.cell? ⟨w.heap.size, 3, none⟩ = some (.slice pa p.length pc)) := by
    refine hide fun W hW => ?_
    have k0 : Kept [] w W := ((Kept.refl [] w).alloc _).trans hW (by simp)
    refine (rraw_ok (h.kept k0 (by simp) (by simp)) p.length (by simp)).mono ?_
    rintro e w' ⟨a, cap, rfl, ho, hr, hk⟩
    rw [List.take_left] at ho
    rw [List.drop_left] at hr
    have hs1 := Sees.of_own ho
    have hs2 : Wide w' (.slice pa p.length pc) p := hS.wide ((k0.mono (G := [b]) (by simp)).trans hk (fun x hx => Or.inl hx))
    have hk' : Kept [b] (w.alloc (.cells #[.int .i64 k, .int .u64 (n : Int), .int .i64 i, .slice pa p.length pc] 73)) w' := (hW.mono (by simp)).trans hk (fun x hx => Or.inl hx)
    exact ⟨⟨a, cap, rfl, hide ⟨hs1, hs2⟩⟩, hide ⟨hr, (k0.mono (by simp)).trans hk (fun x hx => Or.inl hx)⟩, hcc w' [b] hk' (by simp; omega)⟩
  clear h hb hp6 hcc
  clear hS
  go_enter Try.func37, Try.ntmps37
  go_wp2_with (first | (go_at_call 90; refine (HK _).mono ?_; rintro e w' ⟨rfl, rfl⟩) | (go_at_call 64; refine (unhide HC _ ?_).mono ?_; exact (Kept.refl [] _).alloc _; rintro e w1 ⟨⟨a, cap, rfl, HS⟩, HX, q0, q1, q2, q3⟩) | (go_at_call 22; refine (same_yesE (unhide HS).1 (unhide HS).2 (by omega)).mono ?_; rintro e w2 ⟨rfl, m, rfl⟩))
  go_ret
  exact ⟨rfl, (unhide HX).drewN m⟩

set_option maxRecDepth 100000 in
set_option maxHeartbeats 400000 in
theorem back_6 {w : World} {b : Nat} {lv bv : Value} {rest : List Nat} (t : Th) (ok : t.ok) (h : Rd w b lv bv (t.bytes ++ rest)) (hb : ∀ x ∈ t.bytes ++ rest, x < 256) (hS : Far w t.pv t.p [b]) (hpl : t.p.length ≤ 1000000000000) (hj : t.k = 6) :
    Calls Try.prog 37 #[t.val, .pointer (some ⟨b, 0, none⟩)] w fun e w' => e = .returned (.bool true) ∧ Took w b lv bv rest w' := by
  have HK := fun w => kind_any t w
  rw [show rnd t.kind 9 = 6 from hj] at HK
  have hbytes : t.bytes = form t.p.length ++ t.p := by simp [Th.bytes, hj]
  rw [hbytes] at h hb
  clear hbytes hj
  have hcc := fun (w' : World) (F : List Nat) => copy_cells t (w := w) (w' := w') (F := F)
  obtain ⟨k, n, i, pa, pc, p⟩ := t
  obtain ⟨hk1, hk2, hn, hi1, hi2, hp6⟩ := ok
  simp only [Th.val, Th.copy, Th.pv] at *
  have hbl := h.blk.lt
  have HC : Hid (∀ W, Kept [] (w.alloc (.cells #[.int .i64 k, .int .u64 (n : Int), .int .i64 i, .slice pa p.length pc] 73)) W → Calls Try.prog 66 #[.pointer (some ⟨b, 0, none⟩), .int .i64 (p.length : Nat)] W fun e w' => (∃ a cap, e = .returned (.slice a p.length cap) ∧ Hid (Sees w' (.slice a p.length cap) p ∧ Wide w' (.slice pa p.length pc) p)) ∧ Hid (Took w b lv bv rest w') ∧ w'.cell? ⟨w.heap.size, 0, none⟩ = some (.int .i64 k) ∧ w'.cell? ⟨w.heap.size, 1, none⟩ = some (.int .u64 (n : Int)) ∧ w'.cell? ⟨w.heap.size, 2, none⟩ = some (.int .i64 i) ∧ w'.cell? ⟨w.heap.size, 3, none⟩ = some (.slice pa p.length pc)) := by
    refine hide fun W hW => ?_
    have k0 : Kept [] w W := ((Kept.refl [] w).alloc _).trans hW (by simp)
    rw [List.append_assoc] at h hb
    refine (rtext_ok (h.kept k0 (by simp) (by simp)) hb p.length (p.length : Nat) (by omega) (read_form0 p.length (p ++ rest) (by omega)) (by simp) (by simp)).mono ?_
    rintro e w' ⟨a, cap, rfl, ho, hr, hk⟩
    rw [List.take_left] at ho
    rw [List.drop_left] at hr
    have hs1 := Sees.of_own ho
    have hs2 : Wide w' (.slice pa p.length pc) p := hS.wide ((k0.mono (G := [b]) (by simp)).trans hk (fun x hx => Or.inl hx))
    have hk' : Kept [b] (w.alloc (.cells #[.int .i64 k, .int .u64 (n : Int), .int .i64 i, .slice pa p.length pc] 73)) w' := (hW.mono (by simp)).trans hk (fun x hx => Or.inl hx)
    exact ⟨⟨a, cap, rfl, hide ⟨hs1, hs2⟩⟩, hide ⟨hr, (k0.mono (by simp)).trans hk (fun x hx => Or.inl hx)⟩, hcc w' [b] hk' (by simp; omega)⟩
  clear h hb hp6 hcc
  clear hS
  go_enter Try.func37, Try.ntmps37
  go_wp2_with (first | (go_at_call 90; refine (HK _).mono ?_; rintro e w' ⟨rfl, rfl⟩) | (go_at_call 66; refine (unhide HC _ ?_).mono ?_; exact (Kept.refl [] _).alloc _; rintro e w1 ⟨⟨a, cap, rfl, HS⟩, HX, q0, q1, q2, q3⟩) | (go_at_call 22; refine (same_yesE (unhide HS).1 (unhide HS).2 (by omega)).mono ?_; rintro e w2 ⟨rfl, m, rfl⟩))
  go_ret
  exact ⟨rfl, (unhide HX).drewN m⟩
end Go.Proofs.Ytiabhgkndejigaa
