/- The first row; a row once more. -/
import Derived.Test.YtnpabeodakncfaaGOne
import Derived.Test.YtnpabeodakncfaaGBegan
import Derived.Test.YtnpabeodakncfaaGInv3
namespace Go.Proofs.Ytnpabeodakncfaa
open Go.RowKit

theorem invL_begin {n h : Nat} (h1 : 1 ≤ n ∧ n ≤ 8) (h2 : h < n) : InvL (row0 h n) [] := by
  refine ⟨fun _ => 0, fun _ => 0, h, ?_⟩
  rw [row0_len]
  refine (inv_begin (n := (n : Int)) (h := (h : Int)) (by omega) (by omega) (f := fr (row0 h n)) (fun i i0 i1 => ?_)).sub (fun m hm => by cases hm)
  obtain ⟨j, rfl⟩ : ∃ j : Nat, i = (j : Int) := ⟨i.toNat, by omega⟩
  have hj : j < n := by omega
  rw [fr_nat]
  have : (row0 h n).getD j ⟨0, 0, 0⟩ = bgn (j : Int) (h : Int) := by simp [row0, List.getD, List.getElem?_map, List.getElem?_range hj]
  rw [this, bgn]
  by_cases q : (j : Int) = (h : Int)
  · rw [if_pos q, if_pos q, q]
  · rw [if_neg q, if_neg q]
theorem app_row {W : World} {rv : Value} {row : List Ld} (h : W.ownsRow 0 25 3 rv row.length (row.flatMap lc)) (h1 : 0 < row.length) (h8 : row.length ≤ 8) (ty : TypeId) :
    ∃ a' cap' w', (Builtin.append_ #[40, 40] ty #[.slice (some ⟨W.heap.size, 0, none⟩) 0 0, rv]).run Try.prog (W.alloc (.cells #[] 25)) = .ok (.slice a' row.length cap') w' ∧ w'.ownsRow 0 25 3 (.slice a' row.length cap') row.length (row.flatMap lc) ∧ Kept [] W w' ∧ ∀ z, (Value.slice a' row.length cap').ownBlock = some z → W.heap.size ≤ z := by
  obtain ⟨i0, hi, hz0, hz1, hz2⟩ := info_parts infoLed3
  have hk0 : Kept [] W (W.alloc (.cells #[] 25)) := (Kept.refl [] W).alloc _
  have hb : Blk (W.alloc (.cells #[] 25)) W.heap.size #[] 25 := Blk.new W _ _
  have hsz : (W.alloc (.cells #[] 25)).heap.size = W.heap.size + 1 := by simp
  have ho := own_kept h hk0 (by simp)
  obtain ⟨x, hx⟩ : ∃ x, row[0]? = some x := ⟨_, List.getElem?_eq_getElem h1⟩
  obtain ⟨g, cap, hrv, -, hgl, -⟩ := own_at (ce := lc) (fun _ => rfl) ho hx
  subst hrv
  have hc := ho.cells (g := g) rfl
  have hd : (W.alloc (.cells #[] 25)).ownsRow 0 25 3 (.slice (some ⟨W.heap.size, 0, none⟩) 0 0) 0 [] := ⟨rfl, Or.inr ⟨W.heap.size, 0, #[], rfl, Nat.zero_le _, hb, Nat.le_refl _, by simp [maxLen], rfl, rfl⟩⟩
  generalize (W.alloc (.cells #[] 25)) = V at *
  obtain ⟨v', w', hr, h2, h3, _, h5⟩ := run_append_own_at (P := Try.prog) V 0 40 ty 25 i0 _ 3 24 Try.underlying40 hi hz0 hz1 hz2 rfl (by decide) (.slice (some ⟨W.heap.size, 0, none⟩) 0 0) 0 [] hd ⟨g, 0, none⟩ row.length cap (row.flatMap lc) (flat_len (ce := lc) (fun _ => rfl) row) (fun j u hu => hc j u hu) (by
    intro u hu
    obtain ⟨l, _, hl⟩ := List.mem_flatMap.1 hu
    simp [lc] at hl
    rcases hl with rfl | rfl | rfl <;> rfl) (by unfold maxLen; omega) (by omega) (Nat.zero_le _)
  rw [Nat.zero_add, List.nil_append] at h2
  obtain ⟨a', c', rfl⟩ := own_len h2
  refine ⟨a', c', w', hr, h2, ?_, ?_⟩
  · exact (hk0.mono (G := []) (fun x hx => by cases hx)).grown h3 (fun k hk => Or.inr (by simp [Value.ownBlock] at hk; omega))
  · intro z hz
    rcases h5 with q | q
    · rw [q] at hz; simp [Value.ownBlock] at hz; omega
    · rw [q] at hz; cases hz; omega
end Go.Proofs.Ytnpabeodakncfaa
