/- Scripts that came in, not too long. -/
import Derived.Test.YtbpeeifgfjpghabTArg
import Derived.JoinedCond
namespace Go.Proofs.Ytbpeeifgfjpghab
open Go.ChangeShapes Go.WideShapes Go.ChangeAt Go.RowKit

theorem bulk_one {H : Type} (d : DataW H) : 1 ≤ Rows.uptoBulk d := by
  cases d with
  | lit l => cases l <;> simp [Rows.uptoBulk]
  | _ => simp [Rows.uptoBulk]
theorem bulk_len {H : Type} : ∀ l : List (DataW H), l.length ≤ Rows.uptoBulkAll l
  | [] => by simp [Rows.uptoBulkAll]
  | x :: r => by
    have h1 := bulk_one x
    have h2 := bulk_len r
    simp only [Rows.uptoBulkAll, List.length_cons]
    omega

/-- a script that came in -/
theorem open_opsU {H : Type} {enc : TypeId × Value → H} {W : World} {k : Nat} {cs : List Value} {y : DataW H × List MemPlace} (h : DataW.trod enc Try.prog W 0 (fun _ => true) true k 22 cs = some y) :
    ∃ a n cap os, cs = [.slice a n cap] ∧ Ops W (.slice a n cap) os ∧ os.length = n ∧ n ≤ Rows.uptoBulk y.1 := by
  rcases Go.Deep.open_slice Try.underlying22 h with ⟨rfl, _⟩ | ⟨x, n, cap, m, k', D, Pl, rfl, _, hl, hm, hmm, rfl, hall⟩
  · exact ⟨none, 0, 0, [], rfl, ⟨none, 0, rfl, by simp, by simp [maxLen], by simp, Or.inl rfl⟩, rfl, by omega⟩
  · have hmc : m = cap := by simpa using hmm
    subst hmc
    rw [cells_op] at hall
    have hex : ∀ i, ∃ o : OpI, i < n → W.cell? ((x.add (i * 4)).add 0) = some (.int .i64 o.kind) ∧ W.cell? ((x.add (i * 4)).add 1) = some (.int .i64 o.fr) ∧ W.cell? ((x.add (i * 4)).add 2) = some (.int .i64 o.key) ∧ W.cell? ((x.add (i * 4)).add 3) = some (.int .i64 o.val) ∧ o.ok := by
      intro i
      by_cases hi : i < n
      · obtain ⟨cs', h1, h2⟩ := hall i (by omega)
        obtain ⟨o, h3, h4⟩ := open_op h2
        obtain ⟨_, _, h6⟩ := World.cells?_some h1
        rw [h3] at h6
        exact ⟨o, fun _ => ⟨by simpa using h6 0 (by omega), by simpa using h6 1 (by omega), by simpa using h6 2 (by omega), by simpa using h6 3 (by omega), h4⟩⟩
      · exact ⟨⟨0, 0, 0, 0⟩, fun h => absurd h hi⟩
    obtain ⟨f, hf⟩ := Classical.axiomOfChoice hex
    have hlen : ((List.range n).map f).length = n := by simp
    refine ⟨some x, n, m, (List.range n).map f, rfl, ⟨some x, m, by rw [hlen], by rw [hlen]; exact hl, hm, ?_, ?_⟩, hlen, ?_⟩
    · intro p hp
      obtain ⟨i, hi, rfl⟩ := List.mem_map.1 hp
      exact (hf i (by simpa using hi)).2.2.2.2
    · by_cases h0 : n = 0
      · left; subst h0; rfl
      · right
        have h6 := (hf 0 (by omega)).1
        have e0 : (x.add (0 * 4)).add 0 = x := by simp [Addr.add]
        rw [e0] at h6
        have hsp := World.cell?_spot h6
        have hbl := World.block_lt_of_cell? W _ h6
        refine ⟨x.block, x.off, by obtain ⟨b, off, sp⟩ := x; simp only at hsp; subst hsp; rfl, hbl, fun j p hp => ?_⟩
        have hj : j < n := by have := (List.getElem?_eq_some_iff.1 hp).1; simpa using this
        obtain ⟨c1, c2, c3, c4, _⟩ := hf j hj
        rw [add_add _ _ _ hsp] at c1 c2 c3 c4
        simp [hj] at hp
        subst hp
        exact ⟨c1, c2, c3, c4⟩
    · have := bulk_len ((List.range n).map D)
      simp only [List.length_map, List.length_range] at this
      simp only [Rows.uptoBulk]
      omega
end Go.Proofs.Ytbpeeifgfjpghab
