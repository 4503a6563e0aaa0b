/- The document's disk: Read. -/
import Derived.Test.YtfaoblnghkiibaaQRefE
namespace Go.Proofs.Ytfaoblnghkiibaa
open Go.RowKit

set_option maxRecDepth 100000 in
theorem rnread (w : World) (x : Int) : Calls Try.prog 32 #[.pointer none, .int .i64 x] w fun e w' => e = .returned (.tuple #[.slice none 0 0, .int .i64 1]) ∧ w' = w := by
  go_enter Try.func32, Try.ntmps32
  go_wp2
  go_ret2
  exact ⟨rfl, rfl⟩

theorem left_ne {f : Option Nat} (h : f ≠ some 0) : (leftOf f == 0) = false := by
  cases f with
  | none => simp [leftOf]
  | some f => simp [leftOf]; intro e; apply h; rw [e]

set_option maxRecDepth 100000 in
set_option maxHeartbeats 1000000 in
theorem rread_no {w : World} {m : Nat} {G : List Nat} {d : Dm} (h : Rk w m G d) {x : Int} (hx : rE d x ≠ 0) :
    Calls Try.prog 32 #[.pointer (some ⟨m, 0, none⟩), .int .i64 x] w fun e w' => e = .returned (.tuple #[.slice none 0 0, .int .i64 (rE d x : Nat)]) ∧ w' = w := by
  have HS := hide (rsectors_any h)
  obtain ⟨sb, sc, pa, pc, vs, h, -⟩ := h
  obtain ⟨-, -, c2, -, -⟩ := rp_cells h
  by_cases hf : d.fuse = some 0
  · rw [hf] at c2
    have HE : Hid (rE d x = 80) := by unfold Hid rE; rw [if_pos hf]
    rw [unhide HE]
    simp only [leftOf, Int.natCast_zero] at c2
    clear h hf hx HS HE
    go_enter Try.func32, Try.ntmps32
    go_wp2
    go_ret2
    exact ⟨rfl, rfl⟩
  · have hl := left_ne hf
    generalize leftOf d.fuse = LF at *
    have hr : x < 0 ∨ (d.n : Int) ≤ x := by
      unfold rE at hx
      rw [if_neg hf] at hx
      by_cases q : x < 0 ∨ (d.n : Int) ≤ x
      · exact q
      · rw [if_neg q] at hx; exact absurd rfl hx
    have HE : Hid (rE d x = 81) := by unfold Hid rE; rw [if_neg hf, if_pos hr]
    rw [unhide HE]
    clear h hf hx HE
    generalize d.n = n at *
    by_cases h0 : x < 0
    · have t1 : (x < 0) = True := by simp; omega
      clear hr h0
      go_enter Try.func32, Try.ntmps32
      go_wp2_with (first | (go_at_call 38; refine (unhide HS).mono ?_; rintro e w' ⟨rfl, hq⟩; subst hq; clear HS))
      go_ret2
      exact ⟨rfl, rfl⟩
    · have t1 : (x < 0) = False := by simp; omega
      have t2 : ((n : Int) ≤ x) = True := by simp; omega
      clear hr h0
      go_enter Try.func32, Try.ntmps32
      go_wp2_with (first | (go_at_call 38; refine (unhide HS).mono ?_; rintro e w' ⟨rfl, hq⟩; subst hq; clear HS))
      go_ret2
      exact ⟨rfl, rfl⟩

set_option maxRecDepth 100000 in
set_option maxHeartbeats 2000000 in
theorem rread_yes {w : World} {m : Nat} {G : List Nat} {d : Dm} (h : Rk w m G d) {k : Nat} (hx : rE d (k : Int) = 0) (hpl : d.pend.length ≤ 9223372036854775807) :
    Calls Try.prog 32 #[.pointer (some ⟨m, 0, none⟩), .int .i64 (k : Int)] w fun e w' => ∃ a cap, e = .returned (.tuple #[.slice a 64 cap, .int .i64 0]) ∧ w'.ownsRow w.heap.size 5 1 (.slice a 64 cap) 64 (u8s (newest d k)) ∧ Kept [] w w' := by
  have HS := hide (rsectors_any h)
  obtain ⟨sb, sc, pa, pc, vs, h, -⟩ := h
  obtain ⟨k', hk', hkn, hf⟩ := rE_zero hx
  obtain rfl : k = k' := by omega
  obtain ⟨c0, c1, c2, -, -⟩ := rp_cells h
  have hl := left_ne hf
  have hmost := h.ok.most
  have hsc : 64 * d.n ≤ sc := by
    obtain ⟨g9, c9, hv9, -, -, h9, -⟩ := row_of_own h.safe (by have := h.ok.one; omega)
    injection hv9 with e7 e8 e9
    omega
  have HSL := hide (sect_len h.ok.len hkn)
  have HC := hide (copied_any (sees_sub h.safe h.ok.byte hkn) (by rw [unhide HSL]; omega))
  rw [unhide HSL] at HC
  have HP : Hid (∀ i, i < d.pend.length → _) := fun i hi => h.pend_at (i := i) hi
  have HNE : Hid (newest d k = (lastOf d.pend k d.pend.length).getD (sect d.safe k)) := rfl
  generalize newest d k = nd at *
  generalize sect d.safe k = sd at *
  generalize leftOf d.fuse = LF at *
  generalize d.n = n at *
  generalize hL : d.pend.length = L at *
  have t1 : ((k : Int) < 0) = False := by simp
  have t2 : ((n : Int) ≤ (k : Int)) = False := by simp; omega
  have t3 : (64 * (k : Int)).toNat = 64 * k := by omega
  have t4 : 64 * (k : Int) + 64 ≤ (sc : Int) := by omega
  have t5 : (64 * (k : Int) + 64).toNat = 64 * k + 64 := by omega
  have t6 : 64 * k + 64 - 64 * k = 64 := by omega
  have t7 : (sc = 64 * k) = False := by simp; omega
  clear h hx hf hk' hL
  go_enter Try.func32, Try.ntmps32
  go_wp2_with (first | (go_at_call 38; refine (unhide HS).mono ?_; rintro e w' ⟨rfl, hq⟩; have hq' := hq.symm; subst hq'; clear hq HS))
  go_loopw [6] (fun i wr => ∃ j : Nat, j ≤ L ∧ i = .int .i64 ((j : Int) - 1) ∧ wr = w ∧ nd = (lastOf d.pend k j).getD sd) (fun i _ => (intOf i + 1).toNat)
  case atStart => exact ⟨L, by omega, rfl, rfl, unhide HNE⟩
  case round =>
    obtain ⟨j, hj, rfl, hq, hnd⟩ := hrel
    have hq' := hq.symm
    subst hq'
    cases j with
    | zero =>
      have hnd' : nd = sd := hnd
      subst hnd'
      clear hnd
      go_wp2_with (first
        | (go_at_call 30; refine (unhide HC).mono ?_; rintro e w2 ⟨a, cap, rfl, ho, hk⟩; have HO := hide ho; have HK := hide hk; clear HC ho hk))
      go_ret2
      exact ⟨a, cap, rfl, unhide HO, unhide HK⟩
    | succ j =>
      obtain ⟨x, p, dv, hx, hxo, rfl, q0, q1, hse, hds, g, cap, rfl⟩ := unhide HP j (by omega)
      have e1 : ((j + 1 : Nat) : Int) - 1 = (j : Int) := by omega
      rw [e1]
      have u2 : (j : Int) < (L : Int) := by omega
      have u3 : j < L := by omega
      have hxl := hxo.len
      clear e1 hds
      by_cases hxk : x.k = k
      · rw [lastOf_hit hx hxk] at hnd
        have hnd' : nd = x.d := hnd
        rw [hxk] at q0
        have HC2 := hide (copied_any hse (by rw [hxl]; omega))
        rw [hxl, ← hnd'] at HC2
        clear hnd hnd' hxk hx hxo hse hxl
        go_wp2_with (first
          | (go_at_call 30; refine (unhide HC2).mono ?_; rintro e w2 ⟨a, cap2, rfl, ho, hk⟩; have HO := hide ho; have HK := hide hk; clear HC2 ho hk))
        go_ret2
        exact ⟨a, cap2, rfl, unhide HO, unhide HK⟩
      · rw [lastOf_miss hx hxk] at hnd
        have HND := hide hnd
        have t9 : ((x.k : Int) == (k : Int)) = false := by simp; omega
        clear hnd hxk hx hxo hse hxl
        generalize x.k = xk at *
        go_wp2_with fail
        exact ⟨⟨j, by omega, by simp, by trivial, unhide HND⟩, by simp [intOf]⟩
end Go.Proofs.Ytfaoblnghkiibaa
