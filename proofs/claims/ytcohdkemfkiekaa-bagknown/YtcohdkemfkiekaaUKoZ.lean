/- The calls that BagKnown makes, with a bag of its own. -/
import Derived.Test.YtcohdkemfkiekaaUKsmZ
namespace Go.Proofs.Ytcohdkemfkiekaa
open Go.RowKit Go.Maps Go.Sort
set_option linter.unusedSimpArgs false

def gE : Bg := gD.gone 3 3
def gF : Bg := gE.gone 0 4
theorem look_D3 : look gD.row 3 = some mB := rfl
theorem look_E3 : look gE.row 3 = none := rfl
theorem look_E0 : look gE.row 0 = some mA := rfl
theorem look_F0 : look gF.row 0 = none := rfl
theorem LtsR.cell0 {w0 w : World} {v : Value} {l : List Lx} {row : List (Int × Ms)} (h : LtsR w0 w v l) (hm : l.map (fun x : Lx => (x.n, x.m)) = row) (hne : row ≠ []) :
    ∃ g cap, v = .slice (some ⟨g, 0, none⟩) row.length cap ∧ row.length ≤ cap ∧ cap ≤ maxLen ∧ w0.heap.size ≤ g ∧ g < w.heap.size ∧ ∀ i (hi : i < row.length), w.cell? ⟨g, i * 4, none⟩ = some (.int .i64 (row[i]).1) ∧ w.cell? ⟨g, i * 4 + 1, none⟩ = some (.int .i64 (row[i]).2.frm) ∧ w.cell? ⟨g, i * 4 + 2, none⟩ = some (.int .i64 (row[i]).2.dst) ∧ ∃ sl, w.cell? ⟨g, i * 4 + 3, none⟩ = some sl ∧ DatP w w0.heap.size sl (row[i]).2.dat := by
  subst hm
  obtain ⟨a, cap, rfl, h1, h2, h3⟩ := h.row
  rcases h3 with rfl | ⟨g, rfl, h4, h5, h6⟩
  · exact absurd rfl hne
  · refine ⟨g, cap, by rw [List.length_map], by rw [List.length_map]; exact h1, h2, h4, h5, fun i hi => ?_⟩
    have hi' : i < l.length := by simpa using hi
    have hc : ∀ r, r < 4 → w.cell? ⟨g, i * 4 + r, none⟩ = (ltrC (l[i]))[r]? := fun r hr => by
      have ht : i * 4 + r < (flatK ltrC 4 l.toArray).size := by rw [size_flatK]; simp; omega
      have h7 := (h6 (i * 4 + r) ht).1
      rw [Nat.zero_add, get_flatK _ _ _ _ (by rw [size_flatK] at ht; exact ht)] at h7
      rw [h7]
      have e1 : (i * 4 + r) / 4 = i := by omega
      have e2 : (i * 4 + r) % 4 = r := by omega
      rw [e1, e2, getElem!_pos l.toArray i (by simpa using hi')]
      have h8 : r < (ltrC (l[i])).length := by simp [ltrC]; omega
      rw [List.getElem?_eq_getElem h8]
      simp [h8]
    rw [List.getElem_map]
    refine ⟨hc 0 (by omega), hc 1 (by omega), hc 2 (by omega), slL (l[i]), hc 3 (by omega), h.dat _ (List.getElem_mem hi')⟩
theorem wait_D {w0 w : World} {b : Nat} (h : Own w0 w b gD) : Calls Try.prog 18 #[.pointer (some ⟨b, 0, none⟩)] w fun e w' => ∃ g cap, e = .returned (.slice (some ⟨g, 0, none⟩) 4 cap) ∧ g < w'.heap.size ∧ w'.cell? ⟨g, 0, none⟩ = some (.int .i64 0) ∧ w'.cell? ⟨g, 12, none⟩ = some (.int .i64 3) ∧ Kept [] w w' := by
  obtain ⟨F, h1, h2, h3⟩ := h
  refine (wait_any h1).mono ?_
  rintro e w' ⟨v, l, rfl, hm, hl, hk⟩
  obtain ⟨g, cap, rfl, c1, c2, c3, c4, c5⟩ := hl.cell0 hm (by decide)
  exact ⟨g, cap, rfl, c4, (c5 0 (by decide)).1, (c5 3 (by decide)).1, hk⟩
theorem IntsR.sees {w0 w : World} {v : Value} {l : List Int} (h : IntsR w0 w v l) : SeesI w v l := by
  obtain ⟨a, cap, rfl, h1, h2, h3⟩ := h
  refine ⟨a, cap, rfl, h1, h2, h3.imp id ?_⟩
  rintro ⟨g, rfl, h4, h5, h6⟩
  refine ⟨g, 0, rfl, h5, fun j hj => ?_⟩
  have h7 := (h6 j (by simpa using hj)).1
  rw [h7, getElem!_pos l.toArray j (by simpa using hj)]
  simp [List.getD, List.getElem?_eq_getElem hj]
theorem for_D1 {w0 w : World} {b : Nat} (h : Own w0 w b gD) : Calls Try.prog 20 #[.pointer (some ⟨b, 0, none⟩), .int .i64 1] w fun e w' => ∃ v, e = .returned v ∧ SeesI w' v [0, 2] ∧ Kept [] w w' := by
  obtain ⟨F, h1, h2, h3⟩ := h
  refine (for_any h1 1).mono ?_
  rintro e w' ⟨v, rfl, hv, hk⟩
  exact ⟨v, rfl, hv.sees, hk⟩
theorem for_D7 {w0 w : World} {b : Nat} (h : Own w0 w b gD) : Calls Try.prog 20 #[.pointer (some ⟨b, 0, none⟩), .int .i64 7] w fun e w' => ∃ a cap, e = .returned (.slice a 0 cap) ∧ Kept [] w w' := by
  obtain ⟨F, h1, h2, h3⟩ := h
  refine (for_any h1 7).mono ?_
  rintro e w' ⟨v, rfl, hv, hk⟩
  obtain ⟨a, cap, rfl, -⟩ := hv
  exact ⟨a, cap, rfl, hk⟩
theorem deliver_D {w0 w : World} {b : Nat} (h : Own w0 w b gD) : Calls Try.prog 21 #[.pointer (some ⟨b, 0, none⟩), .int .i64 3] w fun e w' => ∃ a cap, e = .returned (.tuple #[.agg #[.int .i64 3, .int .i64 1, .int .i64 0, .slice a 1 cap], .int .i64 0]) ∧ ∃ F, Sees w' (.slice a 1 cap) [98] ∧ (∀ k, (Value.slice a 1 cap).ownBlock = some k → k ∉ F) ∧ Bk w' b F gE ∧ Kept [] w0 w' ∧ ∀ x ∈ F, w0.heap.size ≤ x := by
  obtain ⟨F, h1, h2, h3⟩ := h
  refine (deliver_yes h1 (by decide) (by decide) (by decide) look_D3).mono ?_
  rintro e w' ⟨v, rfl, ⟨sl, rfl, hd⟩, hb, hk⟩
  have hs := hd.sees (by decide)
  obtain ⟨y, hy1, hy2, -⟩ := hd.own
  obtain ⟨a, cap, rfl, -⟩ := id hs
  exact ⟨a, cap, rfl, F, hs, fun k hk1 hm => by have hk2 := hy1.symm.trans hk1; cases hk2; have := h1.lt y hm; omega, hb, h2.trans hk (fun x hx => Or.inr (h3 x hx)), h3⟩
theorem deliver_E {w : World} {b : Nat} {F : List Nat} (h1 : Bk w b F gE) : Calls Try.prog 21 #[.pointer (some ⟨b, 0, none⟩), .int .i64 3] w fun e w' => e = .returned (.tuple #[.agg #[.int .i64 0, .int .i64 0, .int .i64 0, .slice none 0 0], .int .i64 200]) ∧ Kept [] w w' :=
  deliver_err (FindE.none h1 (by decide) (by decide) look_E3) (by decide)
theorem drop_E {w : World} {b : Nat} {F : List Nat} (h1 : Bk w b F gE) : Calls Try.prog 22 #[.pointer (some ⟨b, 0, none⟩), .int .i64 0] w fun e w' => e = .returned (.int .i64 0) ∧ Bk w' b F gF ∧ Kept F w w' :=
  drop_yes h1 (by decide) (by decide) (by decide) look_E0
theorem len_F {w : World} {b : Nat} {F : List Nat} (h1 : Bk w b F gF) : Calls Try.prog 12 #[.pointer (some ⟨b, 0, none⟩)] w fun e w' => e = .returned (.int .i64 2) ∧ Kept [] w w' := by
  exact len_any h1
theorem twice_F {w : World} {b : Nat} {F : List Nat} (h1 : Bk w b F gF) : Calls Try.prog 17 #[.pointer (some ⟨b, 0, none⟩), .int .i64 0] w fun e w' => e = .returned (.tuple #[.int .i64 0, .int .i64 200]) ∧ Kept [] w w' := by
  exact twice_err (FindE.none h1 (by decide) (by decide) look_F0) (by decide)
theorem counts_F {w : World} {b : Nat} {F : List Nat} (h1 : Bk w b F gF) : Calls Try.prog 24 #[.pointer (some ⟨b, 0, none⟩)] w fun e w' => e = .returned (.agg #[.int .i64 3, .int .i64 1, .int .i64 1, .int .i64 1, .int .i64 0]) ∧ Kept [] w w' := by
  exact counts_any h1
theorem info_u8 : (Try.prog.info? 5).map (fun i => (i.zero, i.size, i.bytes)) = some (some (.int .u8 0), 1, 1) := by kernel_rfl
/-- 'make([]byte, n)', and what it holds never looked at. -/
theorem wpList_make_n (w : World) {ops : Array Oper} {rest : List Oper} {o : Oper} {a : Act} {Q : Exit → Act → World → Prop} (hg : o.guard = none) (l c : Operand) (hop : o.op = Op.makeSlice 29 l c) (n : Nat) (hn : n ≤ 1048576)
    (hl : a.eval l = .int .i64 (n : Int)) (hc : a.eval c = .int .i64 (n : Int))
    (hK : ∀ w', Kept [] w w' → wpList Try.prog ops Q rest (a.put o.dst (.slice (some ⟨w.heap.size, 0, none⟩) n n)) w') : wpList Try.prog ops Q (o :: rest) a w := by
  obtain ⟨i0, hi, hz0, hz1, hz2⟩ := info_parts info_u8
  refine wpList_plain hg fun K hK' => ?_
  have hr := run_make (P := Try.prog) w 29 5 i0 _ Try.underlying29 hi hz0 .i64 .i64 n n (by omega) (by omega) (by rw [hz2]; omega) (by omega)
  simp only [Int.toNat_natCast, hz1] at hr
  unfold Oper.wp
  simp [execOp, hop, hl, hc, hr, Result.andThen]
  exact hK' _ _ (hK _ ((Kept.refl [] w).alloc _))
theorem sees_lit2 (w : World) (x y : Int) (t : TypeId) : SeesI (w.alloc (.cells #[.int .i64 x, .int .i64 y] t)) (.slice (some ⟨w.heap.size, 0, none⟩) 2 2) [x, y] :=
  ⟨_, 2, rfl, Nat.le_refl _, by unfold maxLen; decide, Or.inr ⟨w.heap.size, 0, rfl, by simp, fun j hj => by
    have h := Blk.cell (Blk.new w #[.int .i64 x, .int .i64 y] t) (0 + j)
    rw [h]
    match j, hj with
    | 0, _ => rfl
    | 1, _ => rfl⟩⟩
end Go.Proofs.Ytcohdkemfkiekaa
