/- A row of bytes of the call's own: a byte read, a byte written. -/
import Derived.Test.YtlcepoomjnpfpaaDoorOwn
import Derived.Test.YtlcepoomjnpfpaaDoorLin
namespace Go.Proofs.YtlcepoomjnpfpaaDoor
open Go.RowKit

theorem row_of_own {w : World} {base n : Nat} {v : Value} {bs : List Nat} (h : w.ownsRow base 5 1 v n (u8s bs)) (hn : 0 < n) :
    ∃ g cap, v = .slice (some ⟨g, 0, none⟩) n cap ∧ base ≤ g ∧ g < w.heap.size ∧ n ≤ cap ∧ cap ≤ maxLen := by
  rcases h.2 with ⟨_, h2⟩ | ⟨g, cap, cur, hv, hb, hg, hc, hm, _⟩
  · omega
  · exact ⟨g, cap, hv, hb, (Array.getElem?_eq_some_iff.1 hg).1, hc, hm⟩

theorem own_cell {w : World} {base n g cap : Nat} {bs : List Nat} (h : w.ownsRow base 5 1 (.slice (some ⟨g, 0, none⟩) n cap) n (u8s bs)) {k : Nat} (hk : k < bs.length) :
    w.cell? ⟨g, k, none⟩ = some (.int .u8 (bs.getD k 0 : Nat)) := by
  have := h.cells (g := g) rfl k (.int .u8 (bs.getD k 0 : Nat)) (u8s_at bs hk)
  have hadd : (⟨g, 0, none⟩ : Addr).add k = ⟨g, k, none⟩ := by unfold Addr.add; split <;> simp_all
  rw [hadd] at this
  simpa using this

theorem own_frozen {w : World} {base n g cap : Nat} {xs : List Value} (h : w.ownsRow base 5 1 (.slice (some ⟨g, 0, none⟩) n cap) n xs) (k : Nat) : w.frozen? ⟨g, k, none⟩ = false := by
  rcases h.2 with ⟨h1, _⟩ | ⟨g', cap', cur, hv, hb, hg, _⟩
  · cases h1
  · cases hv
    exact Blk.frozen hg k

theorem u8s_set (bs : List Nat) (k y : Nat) : u8s (bs.set k y) = (u8s bs).set k (.int .u8 (y : Int)) := by
  simp [u8s, List.map_set]

theorem own_set {w : World} {base n g cap : Nat} {bs : List Nat} (h : w.ownsRow base 5 1 (.slice (some ⟨g, 0, none⟩) n cap) n (u8s bs)) (k y : Nat) :
    (w.setCell ⟨g, k, none⟩ (.int .u8 (y : Int))).ownsRow base 5 1 (.slice (some ⟨g, 0, none⟩) n cap) n (u8s (bs.set k y)) := by
  refine ⟨by rw [u8s_length, List.length_set, ← u8s_length]; exact h.1, ?_⟩
  rcases h.2 with ⟨h1, _⟩ | ⟨g', cap', cur, hv, hb, hg, hc, hm, hs, ht⟩
  · cases h1
  · cases hv
    refine Or.inr ⟨g, cap, cur.setIfInBounds k (.int .u8 (y : Int)), rfl, hb, Blk.set hg k _, hc, hm, by simpa using hs, ?_⟩
    rw [u8s_set, ← ht]
    rw [Array.toList_setIfInBounds, List.take_set]

theorem own_len_eq {w : World} {base n : Nat} {v : Value} {bs : List Nat} (h : w.ownsRow base 5 1 v n (u8s bs)) : bs.length = n := by
  have := h.1
  rw [u8s_length] at this
  omega

/-- a byte of a text is turned -/
theorem crc_set {bs : List Nat} {k d : Nat} (hk : k < bs.length) : crc (bs.set k (bs.getD k 0 ^^^ d)) = stps (8 * (bs.length - 1 - k)) (stps 8 d) ^^^ crc bs := by
  have e1 : bs = bs.take k ++ bs.getD k 0 :: bs.drop (k + 1) := by
    rw [← drop_at hk, List.take_append_drop]
  have e2 : bs.set k (bs.getD k 0 ^^^ d) = bs.take k ++ (bs.getD k 0 ^^^ d) :: bs.drop (k + 1) := by
    rw [List.set_eq_take_append_cons_drop, if_pos hk]
  have e3 : (bs.drop (k + 1)).length = bs.length - 1 - k := by rw [List.length_drop]; omega
  rw [e2, crc_turn, e3]
  exact congrArg (fun l => stps (8 * (bs.length - 1 - k)) (stps 8 d) ^^^ crc l) e1.symm
theorem set_bytes {bs : List Nat} (h : ∀ b ∈ bs, b < 256) {k y : Nat} (hy : y < 256) : ∀ b ∈ bs.set k y, b < 256 := by
  intro b hb
  rcases List.mem_or_eq_of_mem_set hb with h1 | h1
  · exact h b h1
  · omega
end Go.Proofs.YtlcepoomjnpfpaaDoor
