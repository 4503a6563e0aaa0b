/- Rows of bytes, numbers that came in. -/
import Derived.Test.YtfaoblnghkiibaaQArg
import Derived.Test.YtfaoblnghkiibaaQCr
namespace Go.Proofs.Ytfaoblnghkiibaa
open Go.ChangeShapes Go.WideShapes Go.ChangeAt Go.RowKit

theorem open_rows {H : Type} {enc : TypeId × Value → H} {W : World} {k : Nat} {cs : List Value} {x : DataW H × List MemPlace} (h : DataW.trod enc Try.prog W 0 (fun _ => true) true k 56 cs = some x) :
    ∃ a n cap rows, cs = [.slice a n cap] ∧ Rows2 W (.slice a n cap) rows ∧ rows.length = n ∧ n ≤ Rows.uptoBulk x.1 := by
  rcases Go.Deep.open_slice1 Try.underlying56 cells22 h with ⟨rfl, _⟩ | ⟨a, len, cap, m, n, V, D, Pl, rfl, _, hl, hm, hmm, rfl, hall⟩
  · exact ⟨none, 0, 0, [], rfl, ⟨none, 0, rfl, by simp, fun k o ho => by simp at ho⟩, rfl, by omega⟩
  · have hmc : m = cap := by simpa using hmm
    subst hmc
    have hex : ∀ i, ∃ bs : List Nat, i < len → Sees W (V i) bs := by
      intro i
      by_cases hi : i < len
      · obtain ⟨a', n', c', bs, hc, hs, -, -⟩ := open_bytes (hall i (by omega)).2
        have e : V i = .slice a' n' c' := by simpa using hc
        exact ⟨bs, fun _ => by rw [e]; exact hs⟩
      · exact ⟨[], fun h => absurd h hi⟩
    obtain ⟨f, hf⟩ := Classical.axiomOfChoice hex
    have hlen : ((List.range len).map f).length = len := by simp
    refine ⟨some a, len, m, (List.range len).map f, rfl, ⟨some a, m, by rw [hlen], by rw [hlen]; unfold maxLen at hm; omega, fun j l hl => ?_⟩, hlen, ?_⟩
    · have hj : j < len := by have := (List.getElem?_eq_some_iff.1 hl).1; simpa using this
      simp [hj] at hl
      subst hl
      have h7 := (hall j (by omega)).1
      have hsp : a.spot = none := by
        have h6 := (hall 0 (by omega)).1
        have e0 : a.add 0 = a := by simp [Addr.add]
        rw [e0] at h6
        exact World.cell?_spot h6
      obtain ⟨b, off, sp⟩ := a
      simp only at hsp
      subst hsp
      rw [add_plain] at h7
      exact ⟨b, off, V j, rfl, World.block_lt_of_cell? W _ h7, h7, hf j hj⟩
    · have := bulk_len ((List.range len).map D)
      simp only [List.length_map, List.length_range] at this
      simp only [Rows.uptoBulk]
      omega

def intOf' : Value → Int
  | .int _ z => z
  | _ => 0
theorem open_nums {H : Type} {enc : TypeId × Value → H} {W : World} {k : Nat} {cs : List Value} {x : DataW H × List MemPlace} (h : DataW.trod enc Try.prog W 0 (fun _ => true) true k 57 cs = some x) :
    ∃ a n cap l, cs = [.slice a n cap] ∧ SeesI W (.slice a n cap) l ∧ l.length = n := by
  rcases Go.Deep.open_slice1 Try.underlying57 cells3 h with ⟨rfl, _⟩ | ⟨a, len, cap, m, n, V, D, Pl, rfl, _, hl, hm, hmm, rfl, hall⟩
  · exact ⟨none, 0, 0, [], rfl, SeesI.nil W, rfl⟩
  · have hmc : m = cap := by simpa using hmm
    subst hmc
    have hv : ∀ i, i < len → V i = .int .i64 (intOf' (V i)) := fun i hi => by
      obtain ⟨z, hz, _⟩ := DataW.trod_int Try.underlying3 (hall i (by omega)).2
      have e : V i = .int .i64 z := by simpa using hz
      rw [e]; rfl
    have hlen : ((List.range len).map fun i => intOf' (V i)).length = len := by simp
    refine ⟨some a, len, m, (List.range len).map fun i => intOf' (V i), rfl, ⟨some a, m, by rw [hlen], by rw [hlen]; exact hl, hm, ?_⟩, hlen⟩
    by_cases h0 : len = 0
    · left; subst h0; rfl
    · right
      have h6 := (hall 0 (by omega)).1
      have e0 : a.add 0 = a := by simp [Addr.add]
      rw [e0] at h6
      have hsp := World.cell?_spot h6
      have hbl := World.block_lt_of_cell? W _ h6
      obtain ⟨b, off, sp⟩ := a
      simp only at hsp
      subst hsp
      refine ⟨b, off, rfl, hbl, fun j hj => ?_⟩
      rw [hlen] at hj
      have h7 := (hall j (by omega)).1
      rw [add_plain] at h7
      rw [h7, hv j hj]
      simp [hj, intOf']
end Go.Proofs.Ytfaoblnghkiibaa
