/- What a crash makes of a sector, in plain bytes. -/
import Derived.Test.YtfaoblnghkiibaaQPure
namespace Go.Proofs.Ytfaoblnghkiibaa
open Go

/-- what a sector may be: as it was, or as a write laid it -/
def may (was : List Nat) (k : Nat) (ps : List Wt) : List (List Nat) := was :: (ps.filter fun x => x.k == k).map (·.d)

theorem sect_lay_other {s d : List Nat} {j k n m : Nat} (hs : s.length = 64 * m) (hk : k < m) (hd : d.length = 64) (hn : n ≤ 64) (hne : j ≠ k) : sect (lay s k n d) j = sect s j := by
  apply List.ext_getElem?
  intro i
  unfold sect lay
  simp only [List.getElem?_take, List.getElem?_drop]
  by_cases hi : i < 64
  · rw [if_pos hi, if_pos hi]
    have h1 : (s.take (64 * k)).length = 64 * k := by simp [hs]; omega
    have h2 : (d.take n).length = n := by simp [hd]; omega
    rcases Nat.lt_or_gt_of_ne hne with hlt | hgt
    · rw [List.append_assoc, List.getElem?_append_left (by rw [h1]; omega), List.getElem?_take, if_pos (by omega)]
    · rw [List.getElem?_append_right (by rw [List.length_append, h1, h2]; omega), List.length_append, h1, h2, List.getElem?_drop]
      congr 1; omega
  · rw [if_neg hi, if_neg hi]
theorem sect_lay_same {s d : List Nat} {k n m : Nat} (hs : s.length = 64 * m) (hk : k < m) (hd : d.length = 64) (hn : n ≤ 64) : sect (lay s k n d) k = d.take n ++ (sect s k).drop n := by
  apply List.ext_getElem?
  intro i
  have h1 : (s.take (64 * k)).length = 64 * k := by simp [hs]; omega
  have h2 : (d.take n).length = n := by simp [hd]; omega
  unfold sect lay
  simp only [List.getElem?_take, List.getElem?_drop]
  by_cases hi : i < 64
  · rw [if_pos hi]
    by_cases hin : i < n
    · rw [List.getElem?_append_left (by rw [List.length_append, h1, h2]; omega), List.getElem?_append_right (by rw [h1]; omega), h1, List.getElem?_append_left (by rw [h2]; exact hin)]
      congr 1; omega
    · rw [List.getElem?_append_right (by rw [List.length_append, h1, h2]; omega), List.length_append, h1, h2, List.getElem?_append_right (by rw [h2]; omega), h2, List.getElem?_drop, List.getElem?_drop, List.getElem?_take, if_pos (by omega), List.getElem?_drop]
      congr 1; omega
  · rw [if_neg hi, List.getElem?_append_right (by rw [h2]; omega), h2, List.getElem?_drop, List.getElem?_take, if_neg (by omega)]
theorem sect_lay_full {s d : List Nat} {k m : Nat} (hs : s.length = 64 * m) (hk : k < m) (hd : d.length = 64) : sect (lay s k 64 d) k = d := by
  rw [sect_lay_same hs hk hd (by omega), List.take_of_length_le (by omega), List.drop_of_length_le (by rw [sect_len hs hk]; omega), List.append_nil]

/-- begins as x does, and goes on as y -/
def Mix (M : List (List Nat)) (l : List Nat) : Prop := ∃ x ∈ M, ∃ y ∈ M, ∃ c, c ≤ 64 ∧ l = x.take c ++ y.drop c
theorem Mix.one {M : List (List Nat)} {l : List Nat} (h : l ∈ M) : Mix M l := ⟨l, h, l, h, 0, by omega, by simp⟩

theorem crash_mix {keep : List Bool} {torn : Int} {cut m k : Nat} {M : List (List Nat)} (hc : cut ≤ 64) (hk : k < m) : ∀ (ps : List Wt) (i : Nat) (s : List Nat), (∀ x ∈ ps, x.ok m) → s.length = 64 * m → (∀ x ∈ ps, x.k = k → x.d ∈ M) →
    ((i : Int) ≤ torn ∨ torn < 0 → sect s k ∈ M) → Mix M (sect s k) → Mix M (sect (crashF keep torn cut i ps s) k)
  | [], i, s, _, _, _, _, h => h
  | x :: ps, i, s, hp, hs, hM, h1, h2 => by
    have hx := hp x (by simp)
    have hl : (crash1 keep torn cut i x s).length = 64 * m := by
      unfold crash1
      split
      · exact lay_len hs hx.lt hx.len hc
      · split
        · exact lay_len hs hx.lt hx.len (by omega)
        · exact hs
    refine crash_mix hc hk ps (i + 1) _ (fun y hy => hp y (by simp [hy])) hl (fun y hy => hM y (by simp [hy])) ?_ ?_
    · intro h3
      unfold crash1
      rw [if_neg (by omega)]
      split
      · by_cases e : k = x.k
        · subst e; rw [sect_lay_full hs hx.lt hx.len]; exact hM x (by simp) rfl
        · rw [sect_lay_other hs hx.lt hx.len (by omega) e]; exact h1 (by omega)
      · exact h1 (by omega)
    · unfold crash1
      split
      · next ht =>
        by_cases e : k = x.k
        · subst e; rw [sect_lay_same hs hx.lt hx.len hc]
          exact ⟨x.d, hM x (by simp) rfl, sect s x.k, h1 (by omega), cut, hc, rfl⟩
        · rw [sect_lay_other hs hx.lt hx.len hc e]; exact h2
      · split
        · by_cases e : k = x.k
          · subst e; rw [sect_lay_full hs hx.lt hx.len]; exact Mix.one (hM x (by simp) rfl)
          · rw [sect_lay_other hs hx.lt hx.len (by omega) e]; exact h2
        · exact h2

theorem crash_may {d : Dm} (h : d.ok) (keep : List Bool) (torn cut : Int) {k : Nat} (hk : k < d.n) : Mix (may (sect d.safe k) k d.pend) (sect (d.crash keep torn cut).safe k) := by
  refine crash_mix (cutN_le cut) hk d.pend 0 d.safe h.pend h.len (fun x hx hxk => ?_) (fun _ => by simp [may]) (Mix.one (by simp [may]))
  simp only [may, List.mem_cons, List.mem_map, List.mem_filter]
  exact Or.inr ⟨x, ⟨hx, by simp [hxk]⟩, rfl⟩
theorem may_len {d : Dm} (h : d.ok) {k : Nat} (hk : k < d.n) : ∀ x ∈ may (sect d.safe k) k d.pend, x.length = 64 := by
  intro x hx
  simp only [may, List.mem_cons, List.mem_map, List.mem_filter] at hx
  rcases hx with rfl | ⟨y, ⟨hy, _⟩, rfl⟩
  · exact sect_len h.len hk
  · exact (h.pend y hy).len
/-- what mixes is found by places -/
theorem Mix.at {M : List (List Nat)} {l : List Nat} (h : Mix M l) (hM : ∀ x ∈ M, x.length = 64) : ∃ i k c, i < M.length ∧ k < M.length ∧ c ≤ 64 ∧ l.take c = (M.getD i []).take c ∧ l.drop c = (M.getD k []).drop c := by
  obtain ⟨x, hx, y, hy, c, hc, rfl⟩ := h
  obtain ⟨i, hi, rfl⟩ := List.getElem_of_mem hx
  obtain ⟨k, hk, rfl⟩ := List.getElem_of_mem hy
  have h1 : (M[i].take c).length = c := by rw [List.length_take, hM _ hx]; omega
  refine ⟨i, k, c, hi, hk, hc, ?_, ?_⟩
  · rw [List.take_append_of_le_length (by omega), List.take_of_length_le (by omega)]
    simp [hi]
  · rw [List.drop_append_of_le_length (by omega), List.drop_of_length_le (by omega), List.nil_append]
    simp [hk]
end Go.Proofs.Ytfaoblnghkiibaa
