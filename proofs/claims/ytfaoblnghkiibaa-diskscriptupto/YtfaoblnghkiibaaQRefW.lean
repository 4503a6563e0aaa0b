/- The document's disk: Write. -/
import Derived.Test.YtfaoblnghkiibaaQRefX
namespace Go.Proofs.Ytfaoblnghkiibaa
open Go.RowKit

set_option maxRecDepth 100000 in
theorem rnwrite (w : World) (x : Int) (v : Value) : Calls Try.prog 31 #[.pointer none, .int .i64 x, v] w fun e w' => e = .returned (.int .i64 1) ∧ w' = w := by
  go_enter Try.func31, Try.ntmps31
  go_wp2
  go_ret
  exact ⟨rfl, rfl⟩

set_option maxRecDepth 100000 in
set_option maxHeartbeats 1000000 in
theorem rwrite_no1 {w : World} {m : Nat} {G : List Nat} {d : Dm} (h : Rk w m G d) {x : Int} (hx : rE d x ≠ 0) (v : Value) :
    Calls Try.prog 31 #[.pointer (some ⟨m, 0, none⟩), .int .i64 x, v] w fun e w' => e = .returned (.int .i64 (rE d x : Nat)) ∧ w' = w := by
  have HS := hide (rsectors_any h)
  obtain ⟨sb, sc, pa, pc, vs, h, -⟩ := h
  obtain ⟨-, -, c2, -, -⟩ := rp_cells h
  by_cases hf : d.fuse = some 0
  · rw [hf] at c2
    have HE : Hid (rE d x = 80) := by unfold Hid rE; rw [if_pos hf]
    rw [unhide HE]
    simp only [leftOf, Int.natCast_zero] at c2
    clear h hf hx HS HE
    go_enter Try.func31, Try.ntmps31
    go_wp2
    go_ret
    exact ⟨rfl, rfl⟩
  · have hl := left_ne hf
    generalize leftOf d.fuse = LF at *
    have hr : x < 0 ∨ (d.n : Int) ≤ x := by
      unfold rE at hx
      rw [if_neg hf] at hx
      by_cases q : x < 0 ∨ (d.n : Int) ≤ x
      · exact q
      · rw [if_neg q] at hx; exact absurd rfl hx
    have HE : Hid (rE d x = 81) := by unfold Hid rE; rw [if_neg hf, if_pos hr]
    rw [unhide HE]
    clear h hf hx HE
    generalize d.n = n at *
    by_cases h0 : x < 0
    · have t1 : (x < 0) = True := by simp; omega
      clear hr h0
      go_enter Try.func31, Try.ntmps31
      go_wp2_with (first | (go_at_call 38; refine (unhide HS).mono ?_; rintro e w' ⟨rfl, hq⟩; subst hq; clear HS))
      go_ret
      exact ⟨rfl, rfl⟩
    · have t1 : (x < 0) = False := by simp; omega
      have t2 : ((n : Int) ≤ x) = True := by simp; omega
      clear hr h0
      go_enter Try.func31, Try.ntmps31
      go_wp2_with (first | (go_at_call 38; refine (unhide HS).mono ?_; rintro e w' ⟨rfl, hq⟩; subst hq; clear HS))
      go_ret
      exact ⟨rfl, rfl⟩

set_option maxRecDepth 100000 in
set_option maxHeartbeats 1000000 in
theorem rwrite_no2 {w : World} {m : Nat} {G : List Nat} {d : Dm} (h : Rk w m G d) {k : Nat} (hx : rE d (k : Int) = 0) {v : Value} {l : List Nat} (hv : Sees w v l) (hl : l.length ≠ 64) :
    Calls Try.prog 31 #[.pointer (some ⟨m, 0, none⟩), .int .i64 (k : Int), v] w fun e w' => e = .returned (.int .i64 82) ∧ w' = w := by
  have HS := hide (rsectors_any h)
  obtain ⟨sb, sc, pa, pc, vs, h, -⟩ := h
  obtain ⟨k', hk', hkn, hf⟩ := rE_zero hx
  obtain rfl : k = k' := by omega
  obtain ⟨-, -, c2, -, -⟩ := rp_cells h
  have hf' := left_ne hf
  generalize leftOf d.fuse = LF at *
  obtain ⟨a, cap, rfl, -⟩ := hv
  have t1 : ((k : Int) < 0) = False := by simp
  have t2 : ((d.n : Int) ≤ (k : Int)) = False := by simp; omega
  have t3 : ((l.length : Int) == 64) = false := by simp; omega
  clear h hx hk' hkn hf hl
  generalize d.n = n at *
  generalize l.length = L at *
  go_enter Try.func31, Try.ntmps31
  go_wp2_with (first | (go_at_call 38; refine (unhide HS).mono ?_; rintro e w' ⟨rfl, hq⟩; subst hq; clear HS))
  go_ret
  exact ⟨rfl, rfl⟩
end Go.Proofs.Ytfaoblnghkiibaa
