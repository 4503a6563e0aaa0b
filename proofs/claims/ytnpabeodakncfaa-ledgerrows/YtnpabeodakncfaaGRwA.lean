/- Rows made out of rows: copied, with a mark behind, turned round. -/
import Derived.Test.YtnpabeodakncfaaGRow
import Derived.Laws.OwnMore
namespace Go.Proofs.Ytnpabeodakncfaa
open Go.RowKit

theorem infoLedR : (Try.prog.info? 25).map (fun i => (i.zero, i.size, i.bytes)) = some (some (.agg #[.int .i64 0, .int .i64 0, .int .i64 0]), 3, 24) := by kernel_rfl
theorem info_partsR {o : Option TypeInfo} {z : Option Value} {s b : Nat} (h : o.map (fun i => (i.zero, i.size, i.bytes)) = some (z, s, b)) : ∃ i, o = some i ∧ i.zero = z ∧ i.size = s ∧ i.bytes = b := by
  cases o with
  | none => cases h
  | some i => simp at h; exact ⟨i, rfl, h.1, h.2.1, h.2.2⟩
theorem one_cell {row : List Ld} : ∀ u ∈ row.flatMap lc, u.oneCell' = true := by
  intro u hu
  obtain ⟨l, _, hl⟩ := List.mem_flatMap.1 hu
  simp [lc] at hl
  rcases hl with rfl | rfl | rfl <;> rfl
/-- A row's cells, one behind the other. -/
theorem RowOf.cells {w : World} {a : Option Addr} {n c : Nat} {row : List Ld} (h : RowOf 3 lc w (.slice a n c) row) {b : Addr} (ha : a = some b) : ∀ j u, (row.flatMap lc)[j]? = some u → w.cell? (b.add j) = some u := by
  obtain ⟨a', cap, hv, -, h2⟩ := h
  cases hv
  intro j u hu
  have hj := (List.getElem?_eq_some_iff.1 hu).1
  rw [flat_len (ce := lc) (kz := 3) (fun _ => rfl)] at hj
  have hk : j / 3 < row.length := by omega
  obtain ⟨g, off, hb, -, hr⟩ := h2 (j / 3) row[j / 3] (List.getElem?_eq_getElem hk)
  rw [ha] at hb
  cases hb
  have h3 := flat_at' lc 3 (fun _ => rfl) row (j / 3) row[j / 3] (j % 3) (List.getElem?_eq_getElem hk) (by omega)
  rw [show j / 3 * 3 + j % 3 = j by omega, hu] at h3
  have h4 := hr (j % 3) u h3.symm
  have hadd : (⟨g, off, none⟩ : Addr).add j = ⟨g, off + j, none⟩ := by unfold Addr.add; split <;> simp_all
  rw [hadd, show off + j = off + j / 3 * 3 + j % 3 by omega]
  exact h4
theorem app_in {V : World} {g : Nat} {rv : Value} {row : List Ld} (hr : RowOf 3 lc V rv row) (hl : row.length ≤ 5864062014634) (hb : Blk V g #[] 25) (ty : TypeId) :
    ∃ a' cap' w', (Builtin.append_ #[40, 40] ty #[.slice (some ⟨g, 0, none⟩) 0 0, rv]).run Try.prog V = .ok (.slice a' row.length cap') w' ∧ w'.ownsRow 0 25 3 (.slice a' row.length cap') row.length (row.flatMap lc) ∧ Kept [g] V w' ∧ (∀ z, (Value.slice a' row.length cap').ownBlock = some z → z = g ∨ V.heap.size ≤ z) ∧ (Value.slice a' row.length cap').ownBlock ≠ none := by
  obtain ⟨i0, hi, hz0, hz1, hz2⟩ := info_partsR infoLedR
  have hd : V.ownsRow 0 25 3 (.slice (some ⟨g, 0, none⟩) 0 0) 0 [] := ⟨rfl, Or.inr ⟨g, 0, #[], rfl, Nat.zero_le _, hb, Nat.le_refl _, by simp [maxLen], rfl, rfl⟩⟩
  obtain ⟨a, cap, rfl, -, -⟩ := id hr
  cases a with
  | none =>
    have hn : row = [] := by
      cases row with
      | nil => rfl
      | cons x r =>
        obtain ⟨a', c', hv, -, h2⟩ := hr
        cases hv
        obtain ⟨b, off, h3, -⟩ := h2 0 x rfl
        cases h3
    subst hn
    refine ⟨some ⟨g, 0, none⟩, 0, V, ?_, hd, Kept.refl _ _, fun z hz => Or.inl (by simp [Value.ownBlock] at hz; exact hz.symm), by simp [Value.ownBlock]⟩
    simp [Builtin.append_, run_underlying Try.underlying40, sizeOf, typeInfo, hi, Builtin.lenOf, run_firstCells_none, storeCells]
  | some b =>
    obtain ⟨v', w', hr', h2, h3, -, h5⟩ := run_append_own_at (P := Try.prog) V 0 40 ty 25 i0 _ 3 24 Try.underlying40 hi hz0 hz1 hz2 rfl (by decide) (.slice (some ⟨g, 0, none⟩) 0 0) 0 [] hd b row.length cap (row.flatMap lc) (flat_len (ce := lc) (fun _ => rfl) row) (hr.cells rfl) one_cell (by unfold maxLen; omega) (by omega) (Nat.zero_le _)
    rw [Nat.zero_add, List.nil_append] at h2
    obtain ⟨a', c', rfl⟩ := own_len h2
    refine ⟨a', c', w', hr', h2, (Kept.refl [g] V).grown h3 (fun k hk => Or.inl (by simp [Value.ownBlock] at hk; simp [hk])), ?_, ?_⟩
    · intro z hz
      rcases h5 with q | q
      · rw [q] at hz; simp [Value.ownBlock] at hz; exact Or.inl hz.symm
      · rw [q] at hz; cases hz; exact Or.inr (Nat.le_refl _)
    · rcases h5 with q | q
      · rw [q]; simp [Value.ownBlock]
      · rw [q]; simp
theorem app_mark {V : World} {v : Value} {xs : List Ld} (h : V.ownsRow 0 25 3 v xs.length (xs.flatMap lc)) (l : Ld) (hl : xs.length ≤ 5864062014634) {h0 : Nat} (hb : Blk V h0 #[.int .i64 l.ph, .int .i64 l.ep, .int .i64 l.pe] 25) (ty : TypeId) :
    ∃ g cap' w', (Builtin.append_ #[40, 40] ty #[v, .slice (some ⟨h0, 0, none⟩) 1 1]).run Try.prog V = .ok (.slice (some ⟨g, 0, none⟩) (xs.length + 1) cap') w' ∧ w'.ownsRow 0 25 3 (.slice (some ⟨g, 0, none⟩) (xs.length + 1) cap') (xs ++ [l]).length ((xs ++ [l]).flatMap lc) ∧
      Kept v.ownBlock.toList V w' ∧ (some g = v.ownBlock ∨ g = V.heap.size) := by
  obtain ⟨i0, hi, hz0, hz1, hz2⟩ := info_partsR infoLedR
  obtain ⟨v', w', hr, h2, h3, _, h5⟩ := run_append_own_at (P := Try.prog) V 0 40 ty 25 i0 _ 3 24 Try.underlying40 hi hz0 hz1 hz2 rfl (by decide) v xs.length (xs.flatMap lc) h ⟨h0, 0, none⟩ 1 1 (lc l) rfl (fun j u hu => by
    have hadd : (⟨h0, 0, none⟩ : Addr).add j = ⟨h0, j, none⟩ := by unfold Addr.add; split <;> simp_all
    rw [hadd, hb.cell]
    show (lc l).toArray[j]? = some u
    rw [List.getElem?_toArray]
    exact hu) (by intro u hu; simp [lc] at hu; rcases hu with rfl | rfl | rfl <;> rfl) (by unfold maxLen; omega) (by omega) (Nat.zero_le _)
  have hfl : (xs ++ [l]).flatMap lc = xs.flatMap lc ++ lc l := by simp
  have hln : (xs ++ [l]).length = xs.length + 1 := by simp
  rcases h2.2 with ⟨_, h6⟩ | ⟨g, cap, cur, rfl, -⟩
  · exact absurd h6 (by omega)
  · refine ⟨g, cap, w', hr, by rw [hfl, hln]; exact h2, (Kept.refl _ V).grown h3 (fun k hk => Or.inl (by rw [hk]; simp)), ?_⟩
    rcases h5 with q | q
    · left; rw [← q]; rfl
    · right; simp [Value.ownBlock] at q; exact q
/-- The first n of a row of the call's own that is one longer. -/
theorem own_head {w : World} {g cap : Nat} {l : List Ld} {x : Ld} (h : w.ownsRow 0 25 3 (.slice (some ⟨g, 0, none⟩) (l.length + 1) cap) (l ++ [x]).length ((l ++ [x]).flatMap lc)) (hl : l.length ≤ 9223372036854775807) : RowOf 3 lc w (.slice (some ⟨g, 0, none⟩) l.length cap) l := by
  refine ⟨_, cap, rfl, hl, fun k o ho => ?_⟩
  have hk := (List.getElem?_eq_some_iff.1 ho).1
  obtain ⟨g', cap', hv, -, hg, hr⟩ := own_at (ce := lc) (kz := 3) (fun _ => rfl) h (k := k) (a := o) (by rw [List.getElem?_append_left hk]; exact ho)
  simp only [Value.slice.injEq, Option.some.injEq, Addr.mk.injEq, and_true] at hv
  obtain ⟨rfl, -, -⟩ := hv
  exact ⟨g, 0, rfl, hg, by rw [Nat.zero_add]; exact hr⟩
/-- A row turned round, k entries of it so far. -/
def trnd (row : List Ld) (x : Ld) (k : Nat) : List Ld := row.reverse.take k ++ (row ++ [x]).drop k
theorem trnd_zero (row : List Ld) (x : Ld) : trnd row x 0 = row ++ [x] := by simp [trnd]
theorem trnd_all (row : List Ld) (x : Ld) : trnd row x row.length = row.reverse ++ [x] := by
  unfold trnd
  rw [List.take_of_length_le (by simp), List.drop_left]
theorem trnd_len (row : List Ld) (x : Ld) {k : Nat} (hk : k ≤ row.length) : (trnd row x k).length = row.length + 1 := by
  simp [trnd]; omega
theorem trnd_set (row : List Ld) (x : Ld) {k : Nat} (hk : k < row.length) : (trnd row x k).set k (row.getD (row.length - 1 - k) ⟨0, 0, 0⟩) = trnd row x (k + 1) := by
  unfold trnd
  have h1 : (row.reverse.take k).length = k := by simp; omega
  rw [List.set_append_right _ _ (by omega), h1, Nat.sub_self]
  have h2 : (row ++ [x]).drop k = (row ++ [x])[k]'(by simp; omega) :: (row ++ [x]).drop (k + 1) := List.drop_eq_getElem_cons (by simp; omega)
  rw [h2, List.set_cons_zero]
  have h3 : row.reverse.take (k + 1) = row.reverse.take k ++ [row.getD (row.length - 1 - k) ⟨0, 0, 0⟩] := by
    rw [List.take_succ_eq_append_getElem (by simp; omega), List.getElem_reverse, List.getD, List.getElem?_eq_getElem (by omega)]
    rfl
  rw [h3, List.append_assoc]
  rfl
theorem mem_rg {row : List Ld} {i : Nat} (hi : i < row.length) : row.getD i ⟨0, 0, 0⟩ ∈ row := by
  rw [List.getD, List.getElem?_eq_getElem hi]
  exact List.getElem_mem _
end Go.Proofs.Ytnpabeodakncfaa
