/- Rows of rows of bytes that came in. -/
import Derived.Test.YtiabhgkndejigabPOpB
import Derived.Test.YtiabhgkndejigabPRo
namespace Go.Proofs.Ytiabhgkndejigab
open Go.ChangeShapes Go.WideShapes Go.ChangeAt Go.RowKit

theorem cells22 : Try.prog.cellsOf 22 = 1 := by kernel_rfl
theorem wide_cap {w : World} {va : Option Addr} {n vc : Nat} {p : List Nat} (h : Wide w (.slice va n vc) p) : n ≤ vc ∧ vc ≤ 9223372036854775807 := by
  rcases h with (⟨e, _⟩ | ⟨b, off, cap, e, h1, h2, _⟩) | ⟨a, e, _⟩
  · simp only [Value.slice.injEq] at e; omega
  · simp only [Value.slice.injEq] at e; unfold maxLen at h2; omega
  · simp only [Value.slice.injEq] at e; omega
theorem open_rows {H : Type} {enc : TypeId × Value → H} {W : World} {k : Nat} {a : Option Addr} {n cap : Nat} {x : DataW H × List MemPlace} (h : DataW.trod enc Try.prog W 0 (fun _ => true) true k 58 [.slice a n cap] = some x) :
    ∃ ps, RowL W (.slice a n cap) ps ∧ ps.length = n ∧ n ≤ Rows.uptoBulk x.1 := by
  rcases Go.Deep.open_slice1 Try.underlying58 cells22 h with ⟨hcs, _⟩ | ⟨y, len, cap', m, k', V, D, Pl, hcs, _, hl, hm, hmm, hxx, hall⟩
  · simp at hcs
    obtain ⟨rfl, rfl, rfl⟩ := hcs
    exact ⟨[], ⟨none, 0, rfl, fun j t hj => by simp at hj⟩, rfl, by omega⟩
  · simp at hcs
    obtain ⟨rfl, rfl, rfl⟩ := hcs
    have hmc : m = cap := by simpa using hmm
    subst hmc
    have hex : ∀ i, ∃ p : List Nat, i < n → ∃ va vc, V i = .slice va p.length vc ∧ Wide W (.slice va p.length vc) p ∧ ∀ b ∈ p, b < 256 := by
      intro i
      by_cases hi : i < n
      · obtain ⟨va, vn, vc, p, h1, h2, h3, h4, _⟩ := open_bytesU (hall i (by omega)).2
        subst h4
        exact ⟨p, fun _ => ⟨va, vc, by simpa using h1, h2, h3⟩⟩
      · exact ⟨[], fun h => absurd h hi⟩
    obtain ⟨f, hf⟩ := Classical.axiomOfChoice hex
    have hlen : ((List.range n).map f).length = n := by simp
    refine ⟨(List.range n).map f, ⟨some y, m, by rw [hlen], fun j p hj => ?_⟩, hlen, ?_⟩
    · have hjn : j < n := by have := (List.getElem?_eq_some_iff.1 hj).1; simpa using this
      simp [hjn] at hj
      subst hj
      obtain ⟨va, vc, h1, h2, h3⟩ := hf j hjn
      have h6 := (hall j (by omega)).1
      have hsp : y.spot = none ∧ y.block < W.heap.size := by
        have h7 := (hall 0 (by omega)).1
        have e0 : y.add 0 = y := by simp [Addr.add]
        rw [e0] at h7
        exact ⟨World.cell?_spot h7, World.block_lt_of_cell? W _ h7⟩
      obtain ⟨b, off, sp⟩ := y
      obtain ⟨hs1, hs2⟩ := hsp
      simp only at hs1 hs2
      subst hs1
      rw [add_none] at h6
      refine ⟨h3, b, off, va, vc, rfl, hs2, by rw [h6, h1], (wide_cap h2).1, (wide_cap h2).2, h2⟩
    · rw [hxx]
      have := bulk_len ((List.range n).map D)
      simp only [List.length_map, List.length_range] at this
      simp only [Rows.uptoBulk]
      omega
end Go.Proofs.Ytiabhgkndejigab
