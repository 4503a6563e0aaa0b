/- The same numbers? -/
import Derived.Test.YtbpeeifgfjpghabTRowL
namespace Go.Proofs.Ytbpeeifgfjpghab
open Go.RowKit
set_option linter.unusedVariables false

theorem own_cell {w : World} {base g n cap : Nat} {l : List Int} (h : w.ownsRow base 3 1 (.slice (some ⟨g, 0, none⟩) n cap) l.length (ints l)) {j : Nat} (hj : j < l.length) : w.cell? ⟨g, j, none⟩ = some (.int .i64 (l.getD j 0)) := by
  have := h.cells (g := g) rfl j (.int .i64 (l.getD j 0)) (ints_at l hj)
  have hadd : (⟨g, 0, none⟩ : Addr).add j = ⟨g, j, none⟩ := by unfold Addr.add; split <;> simp_all
  rw [hadd] at this
  exact this
set_option maxRecDepth 100000 in
set_option maxHeartbeats 1000000 in
theorem alike_any {w : World} {b1 b2 : Nat} {v1 v2 : Value} {l : List Int} (h1 : w.ownsRow b1 3 1 v1 l.length (ints l)) (h2 : w.ownsRow b2 3 1 v2 l.length (ints l)) (hl : l.length ≤ 4611686018427387904) :
    Calls Try.prog 12 #[v1, v2] w fun e w' => e = .returned (.bool true) ∧ Kept [] w w' := by
  obtain ⟨a1, c1, rfl⟩ := own_len h1
  obtain ⟨a2, c2, rfl⟩ := own_len h2
  have H1 := hide h1
  have H2 := hide h2
  obtain ⟨L, hL⟩ : ∃ L, l.length = L := ⟨_, rfl⟩
  have HL := hide hL
  rw [hL] at hl ⊢
  clear h1 h2 hL
  go_enter Try.func12, Try.ntmps12
  go_wp2_with fail
  go_loopw [5] (fun i wr => ∃ k : Nat, i = .int .i64 (k : Int) ∧ k ≤ L ∧ Kept [] w wr) (fun i _ => L - (intOf i).toNat)
  case atStart => exact ⟨0, rfl, by omega, Kept.refl _ _⟩
  case round =>
    obtain ⟨k, rfl, hk, hkp⟩ := hrel
    have HK := hide hkp
    by_cases hke : k = L
    · subst hke
      have t1 : ((k : Int) < (k : Int)) = False := by simp
      clear hkp
      go_wp2
      go_ret
      exact ⟨rfl, unhide HK⟩
    · have hkl : k < L := by omega
      have t1 : ((k : Int) < (L : Int)) = True := by simp only [eq_iff_iff, iff_true]; omega
      have h1 := unhide H1
      have h2 := unhide H2
      rcases h1.2 with ⟨_, e⟩ | ⟨g1, cap1, cur1, e1, _⟩
      · rw [unhide HL] at e; omega
      rcases h2.2 with ⟨_, e⟩ | ⟨g2, cap2, cur2, e2, _⟩
      · rw [unhide HL] at e; omega
      simp only [Value.slice.injEq] at e1 e2
      obtain ⟨rfl, -, rfl⟩ := e1
      obtain ⟨rfl, -, rfl⟩ := e2
      have d1 := hkp.cell' (own_cell h1 (j := k) (by rw [unhide HL]; exact hkl))
      have d2 := hkp.cell' (own_cell h2 (j := k) (by rw [unhide HL]; exact hkl))
      generalize l.getD k 0 = y at d1 d2
      have k0 : (0 : Int) ≤ (k : Int) := by omega
      clear h1 h2 hkp
      go_wp2_with fail
      go_region_held3 (fun w' => w'.cell? ⟨g1, k, none⟩ = some (.int .i64 y) ∧ w'.cell? ⟨g2, k, none⟩ = some (.int .i64 y)) (go_keep) (fail)
      all_goals go_wp2
      all_goals
        refine ⟨⟨k + 1, by simp, by omega, (unhide HK).drew⟩, ?_⟩
        simp [intOf]; omega
end Go.Proofs.Ytbpeeifgfjpghab
