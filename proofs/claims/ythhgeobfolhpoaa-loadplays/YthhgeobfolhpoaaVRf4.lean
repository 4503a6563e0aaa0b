/- The document's Hit, where it is refused. -/
import Derived.Test.YthhgeobfolhpoaaVRf3
namespace Go.Proofs.Ythhgeobfolhpoaa
open Go.RowKit
theorem Mt.goE_no3 {m : Mt} {now : Int} (h : m.goE now ≠ 0) : (now < 0 ∧ m.goE now = 2) ∨ (0 ≤ now ∧ 1099511627776 < now ∧ m.goE now = 2) ∨ (0 ≤ now ∧ now ≤ 1099511627776 ∧ now < (m.clock : Int) ∧ m.goE now = 90) := by
  unfold Mt.goE at h ⊢
  by_cases h1 : now < 0
  · exact Or.inl ⟨h1, by rw [if_pos (Or.inl h1)]⟩
  · by_cases h2 : 1099511627776 < now
    · exact Or.inr (Or.inl ⟨by omega, h2, by rw [if_pos (Or.inr h2)]⟩)
    · rw [if_neg (by omega)] at h ⊢
      by_cases h3 : now < (m.clock : Int)
      · exact Or.inr (Or.inr ⟨by omega, by omega, h3, by rw [if_pos h3]⟩)
      · rw [if_neg h3] at h; exact absurd rfl h
set_option maxRecDepth 100000 in
set_option maxHeartbeats 2000000 in
theorem rhit_no {w : World} {b pc : Nat} {pa : Option Addr} {r : Rt} (h : Rp w b pa pc r) {m : Mt} (hm : Rel m r) {s now : Int} {x : Nat} (hb64 : x < 18446744073709551616) (hn : m.hitE s now x ≠ 0) :
    Calls Try.prog 30 #[.pointer (some ⟨b, 0, none⟩), .int .i64 s, .int .i64 now, .float .f64 x] w fun e w' => e = .returned (.int .i64 (m.hitE s now x : Nat)) ∧ w' = w := by
  obtain ⟨c0, c1, c2, c3⟩ := h.cells
  rw [hm.n] at c0
  rw [hm.now] at c2
  have hl2 := hm.ok.l2
  clear h c1 c3
  rcases Mt.hitE_no hn with ⟨h1, e⟩ | ⟨h1, h2, e⟩ | ⟨h1, h2, h3, e⟩ | ⟨h1, h2, h3, e, h4⟩
  · rw [e]
    have t1 : (s < 0) = True := by simp; exact h1
    clear hn e hm
    go_enter Try.func30, Try.ntmps30
    go_wp2
    go_ret
    exact ⟨rfl, rfl⟩
  · rw [e]
    have t1 : (s < 0) = False := by simp; omega
    have t2 : ((m.loads.length : Int) ≤ s) = True := by simp; exact h2
    clear hn e hm
    go_enter Try.func30, Try.ntmps30
    go_wp2
    go_ret
    exact ⟨rfl, rfl⟩
  · rw [e]
    have t1 : (s < 0) = False := by simp; omega
    have t2 : ((m.loads.length : Int) ≤ s) = False := by simp; exact h2
    rcases ge_unwok h3 hb64 with u1 | ⟨u1, u2, u3⟩
    · clear hn e hm h3
      go_enter Try.func30, Try.ntmps30
      go_wp2
      go_ret
      exact ⟨rfl, rfl⟩
    · clear hn e hm h3
      go_enter Try.func30, Try.ntmps30
      go_wp2
      go_ret
      exact ⟨rfl, rfl⟩
  · rw [e]
    have t1 : (s < 0) = False := by simp; omega
    have t2 : ((m.loads.length : Int) ≤ s) = False := by simp; exact h2
    obtain ⟨u1, u2⟩ := ge_wok h3
    have u3 := gt_wok h3
    rcases Mt.goE_no3 h4 with ⟨g1, e2⟩ | ⟨g1, g2, e2⟩ | ⟨g1, g2, g3, e2⟩
    · rw [e2]
      have t3 : (now < 0) = True := by simp; exact g1
      clear hn e hm h3 h4 e2
      go_enter Try.func30, Try.ntmps30
      go_wp2
      go_ret
      exact ⟨rfl, rfl⟩
    · rw [e2]
      have t3 : (now < 0) = False := by simp; omega
      have t4 : ((1099511627776 : Int) < now) = True := by simp; exact g2
      clear hn e hm h3 h4 e2
      go_enter Try.func30, Try.ntmps30
      go_wp2
      go_ret
      exact ⟨rfl, rfl⟩
    · rw [e2]
      have t3 : (now < 0) = False := by simp; omega
      have t4 : ((1099511627776 : Int) < now) = False := by simp; omega
      have t5 : (now < (m.clock : Int)) = True := by simp; exact g3
      clear hn e hm h3 h4 e2
      go_enter Try.func30, Try.ntmps30
      go_wp2
      go_ret
      exact ⟨rfl, rfl⟩
end Go.Proofs.Ythhgeobfolhpoaa
