/- One weight of a row is another: what becomes of the order. -/
import Derived.Test.YtiafnfjgmfnnoaaJWout
namespace Go.Proofs.Ytiafnfjgmfnnoaa
open Go.RowKit Go.Sort Go.Shelf

/-- the row with another weight at q, or one more behind it -/
def rowWith (ws : List Int) (q : Nat) (x : Int) : List Int := if q = ws.length then ws ++ [x] else ws.set q x
theorem rowWith_length (ws : List Int) (q : Nat) (x : Int) : (rowWith ws q x).length = if q = ws.length then ws.length + 1 else ws.length := by
  unfold rowWith; split <;> simp
theorem rowWith_at {ws : List Int} {q : Nat} (hq : q ≤ ws.length) (x : Int) : (rowWith ws q x).getD q 0 = x := by
  unfold rowWith
  split
  · rename_i h; rw [h, List.getD, List.getElem?_append_right (Nat.le_refl _), Nat.sub_self]; rfl
  · rw [List.getD, List.getElem?_set_self (by omega)]; rfl
theorem rowWith_other {ws : List Int} {q k : Nat} (x : Int) (hk : k < ws.length) (hn : k ≠ q) : (rowWith ws q x).getD k 0 = ws.getD k 0 := by
  unfold rowWith
  split
  · rw [List.getD, List.getD, List.getElem?_append_left hk]
  · rw [List.getD, List.getD, List.getElem?_set_ne (fun e => hn e.symm)]

theorem rankOf_rl {h : Nat} {ws : List Int} (hl : ws.length ≤ 65536) : rankOf h ws = (sorted (rl (scs h ws) (wf ws) ws.length)).map (·.1) := by
  unfold rankOf; rw [if_pos hl, rat_rl]; rfl

theorem grows_wout {h : Nat} {ws : List Int} {q : Nat} (x : Int) (hl : ws.length ≤ 4096) : wout (rankOf h (rowWith ws q x)) q = wout (rankOf h ws) q := by
  have hl2 : (rowWith ws q x).length ≤ 65536 := by rw [rowWith_length]; split <;> omega
  rw [rankOf_rl hl2, rankOf_rl (ws := ws) (by omega), wout_rl, wout_rl]
  have key : rl (scs h (rowWith ws q x)) (off (wf (rowWith ws q x)) q) ws.length = rl (scs h ws) (off (wf ws) q) ws.length := by
    refine rl_congr2 (fun k hk => ?_)
    by_cases e : k = q
    · unfold off; rw [if_pos e, if_pos e]; simp
    · have e2 := rowWith_other x hk e
      unfold off scs wf
      rw [if_neg e, if_neg e, e2]
      simp
  rw [rowWith_length]
  split
  · rename_i he
    have h0 : off (wf (rowWith ws q x)) q ws.length = false := by unfold off; rw [if_pos he.symm]
    rw [rl_succ, h0, if_neg (by simp), List.append_nil, key]
  · rw [key]

theorem grows_place {h : Nat} {ws : List Int} {q : Nat} {x : Int} (hl : ws.length ≤ 4096) (hq : q ≤ ws.length) (h1 : 1 ≤ ws.getD q 0) (h2 : ws.getD q 0 ≤ 64) (h3 : ws.getD q 0 ≤ x) (h4 : x ≤ 64) :
    0 ≤ plc (rankOf h (rowWith ws q x)) q ∧ plc (rankOf h (rowWith ws q x)) q ≤ plc (rankOf h ws) q := by
  have hq2 : q < ws.length := by
    rcases Nat.lt_or_ge q ws.length with hlt | hge
    · exact hlt
    · rw [List.getD, List.getElem?_eq_none hge] at h1; simp at h1
  have hl2 : (rowWith ws q x).length ≤ 65536 := by rw [rowWith_length]; split <;> omega
  have hq3 : q < (rowWith ws q x).length := by rw [rowWith_length]; split <;> omega
  have hw := grows_wout (h := h) (q := q) x hl
  rw [rankOf_rl hl2, rankOf_rl (ws := ws) (by omega)] at hw ⊢
  refine place_le hq2 hq3 ?_ ?_ ?_ ?_ hw.symm
  · unfold wf; exact decide_eq_true ⟨h1, h2⟩
  · unfold wf; rw [rowWith_at hq]; exact decide_eq_true ⟨by omega, h4⟩
  · unfold scs
    rw [rowWith_at hq]
    exact score_mono h (by omega) h1 h3 h4
  · intro k hk hf
    have hkl : k < ws.length := by
      rcases Nat.lt_or_ge k ws.length with hlt | hge
      · exact hlt
      · unfold wf at hf; rw [List.getD, List.getElem?_eq_none hge] at hf; simp at hf
    unfold scs
    rw [rowWith_other x hkl hk]

/-- what stands in the order -/
theorem grows_count {h : Nat} {ws : List Int} (hl : ws.length ≤ 65536) {i : Nat} (hi : i < ws.length) : (rankOf h ws).length = (wout (rankOf h ws) i).length + (if wf ws i = true then 1 else 0) := by
  rw [rankOf_rl hl]; exact count_rl hi
theorem grows_order {h : Nat} {ws : List Int} (hl : ws.length ≤ 65536) {j : Nat} (hj : j < (rankOf h ws).length) :
    ∃ k : Nat, (rankOf h ws).getD j 0 = (k : Int) ∧ k < ws.length ∧
      (∀ i, i < j → ∃ q : Nat, (rankOf h ws).getD i 0 = (q : Int) ∧ q < ws.length ∧ ¬ score h q (ws.getD q 0) < score h k (ws.getD k 0) ∧ (score h q (ws.getD q 0) = score h k (ws.getD k 0) → q < k)) := by
  rw [rankOf_rl hl] at hj ⊢
  obtain ⟨k, h1, h2, -, h4⟩ := order_facts hj
  exact ⟨k, h1, h2, h4⟩
theorem rankOf_length (h : Nat) (ws : List Int) : (rankOf h ws).length ≤ ws.length := by
  unfold rankOf
  split
  · rw [List.length_map, sorted_length]; exact rat_length h ws _
  · simp
end Go.Proofs.Ytiafnfjgmfnnoaa
