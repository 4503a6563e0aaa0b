/- Rows of Parts that came in. -/
import Derived.Test.YtigmofbammofbabKAwake
import Derived.Test.YtigmofbammofbabKArg
namespace Go.Proofs.Ytigmofbammofbab
open Go.ChangeShapes Go.WideShapes Go.ChangeAt Go.RowKit

/-- the cells of a Part lie at an address -/
def CellsP (w : World) (b off : Nat) (h : Hd) (tv pv : Value) : Prop :=
  w.cell? ⟨b, off, none⟩ = some (.int .i64 h.kind) ∧ w.cell? ⟨b, off + 1, none⟩ = some (.bool h.b) ∧ w.cell? ⟨b, off + 2, none⟩ = some (.int .i64 h.n) ∧ w.cell? ⟨b, off + 3, none⟩ = some (.int .u64 (h.re : Int)) ∧ w.cell? ⟨b, off + 4, none⟩ = some (.int .u64 (h.im : Int)) ∧ w.cell? ⟨b, off + 5, none⟩ = some tv ∧ w.cell? ⟨b, off + 6, none⟩ = some pv
/-- the Parts of a row lie at an address -/
def AtP (w : World) : Row → Nat → Nat → Prop
  | .nil, _, _ => True
  | .cons h p r, b, off => ((h.ok ∧ h.pr = h.re) ∧ ∃ tv pv, CellsP w b off h tv pv ∧ Sees w tv h.text ∧
      ∃ a cap, pv = .slice a p.len cap ∧ p.len ≤ cap ∧ cap ≤ maxLen ∧ (p = .nil ∨ ∃ b' off', a = some ⟨b', off', none⟩ ∧ b' < w.heap.size ∧ AtP w p b' off')) ∧ AtP w r b (off + 7)
/-- the slice v holds the row r of Parts -/
def RowP (w : World) (v : Value) (r : Row) : Prop :=
  ∃ a cap, v = .slice a r.len cap ∧ r.len ≤ cap ∧ cap ≤ maxLen ∧ (r = .nil ∨ ∃ b off, a = some ⟨b, off, none⟩ ∧ b < w.heap.size ∧ AtP w r b off)
theorem AtP_cons {w : World} {h : Hd} {p r : Row} {b off : Nat} : AtP w (.cons h p r) b off ↔ ((h.ok ∧ h.pr = h.re) ∧ ∃ tv pv, CellsP w b off h tv pv ∧ Sees w tv h.text ∧ RowP w pv p) ∧ AtP w r b (off + 7) := Iff.rfl
theorem CellsP.kept {w w' : World} {b off : Nat} {h : Hd} {tv pv : Value} (hc : CellsP w b off h tv pv) (hk : Kept [] w w') (hb : b < w.heap.size) : CellsP w' b off h tv pv := by
  obtain ⟨c0, c1, c2, c3, c4, c5, c6⟩ := hc
  exact ⟨(hk.cell (p := ⟨b, _, none⟩) hb (by simp)).trans c0, (hk.cell (p := ⟨b, _, none⟩) hb (by simp)).trans c1, (hk.cell (p := ⟨b, _, none⟩) hb (by simp)).trans c2, (hk.cell (p := ⟨b, _, none⟩) hb (by simp)).trans c3, (hk.cell (p := ⟨b, _, none⟩) hb (by simp)).trans c4, (hk.cell (p := ⟨b, _, none⟩) hb (by simp)).trans c5, (hk.cell (p := ⟨b, _, none⟩) hb (by simp)).trans c6⟩
theorem AtP.kept {w w' : World} (hk : Kept [] w w') {r : Row} {b off : Nat} (h : AtP w r b off) (hb : b < w.heap.size) : AtP w' r b off := by
  induction r generalizing b off with
  | nil => trivial
  | cons x p r ihp ihr =>
    obtain ⟨⟨h0, tv, pv, hc, ht, a, cap, hv, h1, h2, h3⟩, hr⟩ := h
    refine ⟨⟨h0, tv, pv, hc.kept hk hb, ht.kept hk (Or.inr (by simp)), a, cap, hv, h1, h2, ?_⟩, ihr hr hb⟩
    rcases h3 with h3 | ⟨b', off', rfl, h4, h6⟩
    · exact Or.inl h3
    · exact Or.inr ⟨b', off', rfl, Nat.lt_of_lt_of_le h4 hk.size, ihp h6 h4⟩
theorem RowP.kept {w w' : World} {v : Value} {r : Row} (h : RowP w v r) (hk : Kept [] w w') : RowP w' v r := by
  obtain ⟨a, cap, hv, h1, h2, h3⟩ := h
  refine ⟨a, cap, hv, h1, h2, ?_⟩
  rcases h3 with h3 | ⟨b, off, rfl, h4, h6⟩
  · exact Or.inl h3
  · exact Or.inr ⟨b, off, rfl, Nat.lt_of_lt_of_le h4 hk.size, h6.kept hk h4⟩

theorem add_none (b off j : Nat) : (⟨b, off, none⟩ : Addr).add j = ⟨b, off + j, none⟩ := by unfold Addr.add; split <;> simp_all
theorem cells_part : Try.prog.cellsOf 62 = 7 := by kernel_rfl
theorem cells_parts : Try.prog.cellsOf 22 = 1 := by kernel_rfl
theorem cells_bytes : Try.prog.cellsOf 25 = 1 := by kernel_rfl
theorem cells_int : Try.prog.cellsOf 3 = 1 := by kernel_rfl
theorem cells_i64 : Try.prog.cellsOf 2 = 1 := by kernel_rfl
theorem cells_bool : Try.prog.cellsOf 4 = 1 := by kernel_rfl
theorem cells_u64 : Try.prog.cellsOf 60 = 1 := by kernel_rfl

/-- a slice of bytes within another datum -/
theorem open_bytes {H : Type} {enc : TypeId × Value → H} {W : World} {k : Nat} {v : Value} {d : DataW H} {q : List MemPlace} (h : DataW.trod enc Try.prog W 0 (fun _ => true) true k 25 [v] = some (d, q)) : ∃ bs, Sees W v bs := by
  rcases open_ints Try.underlying25 Try.underlying5 (by kernel_rfl) h with ⟨hcs, _⟩ | ⟨x, l, c, zs, hcs, _, hl, hm, hz, hxx, hcell, hwz⟩
  · simp at hcs
    subst hcs
    exact ⟨[], Sees.nil W⟩
  · simp at hcs
    subst hcs
    have hz2 : zs.length = c := by simpa using hz
    obtain ⟨bs, hs, _⟩ := sees_of_isRow (a := some x) (len := l) (cap := c) (zs := zs) (.inr ⟨x, rfl, hl, hm, hz2, hcell, hwz⟩)
    exact ⟨bs, hs⟩

theorem list_seven (l : List Value) (h : l.length = 7) : ∃ a b c d e f g, l = [a, b, c, d, e, f, g] := by
  match l, h with
  | [a, b, c, d, e, f, g], _ => exact ⟨a, b, c, d, e, f, g, rfl⟩

/-- one Part's cells -/
theorem open_part {H : Type} {enc : TypeId × Value → H} {W : World} {n : Nat} {cs : List Value} {x : DataW H × List MemPlace} (ih : ∀ (v : Value) (d : DataW H) (q : List MemPlace), DataW.trod enc Try.prog W 0 (fun _ => true) true (n - 1) 22 [v] = some (d, q) → ∃ r, RowP W v r)
    (h : DataW.trod enc Try.prog W 0 (fun _ => true) true n 62 cs = some x) : ∃ (h : Hd) (tv pv : Value) (p : Row), cs = [.int .i64 h.kind, .bool h.b, .int .i64 h.n, .int .u64 (h.re : Int), .int .u64 (h.im : Int), tv, pv] ∧ (h.ok ∧ h.pr = h.re) ∧ Sees W tv h.text ∧ RowP W pv p := by
  obtain ⟨xs, m, hm, rfl, hl, hlen, hf⟩ := DataW.trod_struct Try.underlying62 h
  subst hm
  rw [cells_part] at hl
  obtain ⟨c0, c1, c2, c3, c4, c5, c6, rfl⟩ := list_seven cs hl
  match xs, hlen with
  | [y0, y1, y2, y3, y4, y5, y6], _ =>
    have h0 : DataW.trod enc Try.prog W 0 (fun _ => true) true m 3 (([c0, c1, c2, c3, c4, c5, c6].drop 0).take (Try.prog.cellsOf 3)) = some y0 := hf 0 _ rfl
    have h1 : DataW.trod enc Try.prog W 0 (fun _ => true) true m 4 (([c0, c1, c2, c3, c4, c5, c6].drop 1).take (Try.prog.cellsOf 4)) = some y1 := hf 1 _ rfl
    have h2 : DataW.trod enc Try.prog W 0 (fun _ => true) true m 2 (([c0, c1, c2, c3, c4, c5, c6].drop 2).take (Try.prog.cellsOf 2)) = some y2 := hf 2 _ rfl
    have h3 : DataW.trod enc Try.prog W 0 (fun _ => true) true m 60 (([c0, c1, c2, c3, c4, c5, c6].drop 3).take (Try.prog.cellsOf 60)) = some y3 := hf 3 _ rfl
    have h4 : DataW.trod enc Try.prog W 0 (fun _ => true) true m 60 (([c0, c1, c2, c3, c4, c5, c6].drop 4).take (Try.prog.cellsOf 60)) = some y4 := hf 4 _ rfl
    have h5 : DataW.trod enc Try.prog W 0 (fun _ => true) true m 25 (([c0, c1, c2, c3, c4, c5, c6].drop 5).take (Try.prog.cellsOf 25)) = some y5 := hf 5 _ rfl
    have h6 : DataW.trod enc Try.prog W 0 (fun _ => true) true m 22 (([c0, c1, c2, c3, c4, c5, c6].drop 6).take (Try.prog.cellsOf 22)) = some y6 := hf 6 _ rfl
    rw [cells_int] at h0
    rw [cells_bool] at h1
    rw [cells_i64] at h2
    rw [cells_u64] at h3 h4
    rw [cells_bytes] at h5
    rw [cells_parts] at h6
    obtain ⟨kind, e0, -, w0⟩ := DataW.trod_int Try.underlying3 h0
    obtain ⟨bb, e1, -⟩ := DataW.trod_bool Try.underlying4 h1
    obtain ⟨nn, e2, -, w2⟩ := DataW.trod_int Try.underlying2 h2
    obtain ⟨re, e3, -, w3⟩ := DataW.trod_int Try.underlying60 h3
    obtain ⟨im, e4, -, w4⟩ := DataW.trod_int Try.underlying60 h4
    have e0' : c0 = .int .i64 kind := by simpa using e0
    have e1' : c1 = .bool bb := by simpa using e1
    have e2' : c2 = .int .i64 nn := by simpa using e2
    have e3' : c3 = .int .u64 re := by simpa using e3
    have e4' : c4 = .int .u64 im := by simpa using e4
    obtain ⟨bs, hbs⟩ := open_bytes (v := c5) (d := y5.1) (q := y5.2) (by simpa using h5)
    obtain ⟨r, hr⟩ := ih c6 y6.1 y6.2 (by simpa using h6)
    have b0 := bounds_i64 w0
    have b2 := bounds_i64 w2
    obtain ⟨b3, b3'⟩ := bounds_u64 w3
    obtain ⟨b4, b4'⟩ := bounds_u64 w4
    obtain ⟨re, rfl⟩ := Int.eq_ofNat_of_zero_le b3
    obtain ⟨im, rfl⟩ := Int.eq_ofNat_of_zero_le b4
    have h256 : ∀ x ∈ bs, x < 256 := by obtain ⟨_, _, _, _, _, h, _⟩ := hbs; exact h
    exact ⟨⟨kind, bb, nn, re, re, im, bs⟩, c5, c6, r, by rw [e0', e1', e2', e3', e4'], ⟨⟨b0.1, b0.2, b2.1, b2.2, by simp only; omega, by simp only; omega, by simp only; omega, h256⟩, rfl⟩, hbs, hr⟩

theorem at_of_elems {w : World} {g : Nat} (es : List (Hd × Value × Value × Row)) (off : Nat) (h : ∀ j (e : Hd × Value × Value × Row), es[j]? = some e → (e.1.ok ∧ e.1.pr = e.1.re) ∧ CellsP w g (off + j * 7) e.1 e.2.1 e.2.2.1 ∧ Sees w e.2.1 e.1.text ∧ RowP w e.2.2.1 e.2.2.2) : ∃ r : Row, r.len = es.length ∧ AtP w r g off := by
  induction es generalizing off with
  | nil => exact ⟨.nil, rfl, trivial⟩
  | cons e es ih =>
    obtain ⟨r, h1, h2⟩ := ih (off + 7) (fun j e' he => by
      have := h (j + 1) e' (by simpa using he)
      rw [show off + (j + 1) * 7 = off + 7 + j * 7 by omega] at this
      exact this)
    obtain ⟨q1, q2, q3, q4⟩ := h 0 e rfl
    rw [Nat.zero_mul, Nat.add_zero] at q2
    exact ⟨.cons e.1 e.2.2.2 r, by simp [Row.len, h1], ⟨⟨q1, e.2.1, e.2.2.1, q2, q3, q4⟩, h2⟩⟩

/-- a slice of Parts -/
theorem open_parts {H : Type} {enc : TypeId × Value → H} {W : World} (k : Nat) : ∀ (v : Value) (d : DataW H) (q : List MemPlace), DataW.trod enc Try.prog W 0 (fun _ => true) true k 22 [v] = some (d, q) → ∃ r, RowP W v r := by
  induction k using Nat.strongRecOn with
  | _ k ih =>
  intro v d q h
  rcases DataW.trod_slice Try.underlying22 h with ⟨hcs, _⟩ | ⟨a, len, cap, elems, rest, n, hn, hcs, _, _, hl, hm, hlen, hel, _⟩
  · simp at hcs
    subst hcs
    exact ⟨.nil, none, 0, rfl, by simp [Row.len], by simp [maxLen], Or.inl rfl⟩
  · simp at hcs
    subst hcs hn
    rw [cells_part] at hel
    by_cases h0 : len = 0
    · subst h0
      exact ⟨.nil, some a, cap, rfl, by simp [Row.len], hm, Or.inl rfl⟩
    have hex : ∀ i, ∃ e : Hd × Value × Value × Row, i < len → W.cell? ((a.add (i * 7)).add 0) = some (.int .i64 e.1.kind) ∧ W.cell? ((a.add (i * 7)).add 1) = some (.bool e.1.b) ∧ W.cell? ((a.add (i * 7)).add 2) = some (.int .i64 e.1.n) ∧ W.cell? ((a.add (i * 7)).add 3) = some (.int .u64 (e.1.re : Int)) ∧ W.cell? ((a.add (i * 7)).add 4) = some (.int .u64 (e.1.im : Int)) ∧ W.cell? ((a.add (i * 7)).add 5) = some e.2.1 ∧ W.cell? ((a.add (i * 7)).add 6) = some e.2.2.1 ∧ (e.1.ok ∧ e.1.pr = e.1.re) ∧ Sees W e.2.1 e.1.text ∧ RowP W e.2.2.1 e.2.2.2 := by
      intro i
      by_cases hi : i < len
      · have h1 := hel i hi
        rw [List.getElem?_eq_getElem (by omega)] at h1
        obtain ⟨cs', h2, h3⟩ := Option.bind_eq_some_iff.1 h1
        obtain ⟨hd, tv, pv, p, h4, h5, h6, h7⟩ := open_part (fun v d q hh => ih (n - 1) (by omega) v d q hh) h3
        obtain ⟨_, _, h8⟩ := World.cells?_some h2
        rw [h4] at h8
        exact ⟨⟨hd, tv, pv, p⟩, fun _ => ⟨by simpa using h8 0 (by omega), by simpa using h8 1 (by omega), by simpa using h8 2 (by omega), by simpa using h8 3 (by omega), by simpa using h8 4 (by omega), by simpa using h8 5 (by omega), by simpa using h8 6 (by omega), h5, h6, h7⟩⟩
      · exact ⟨⟨hd0 0, .slice none 0 0, .slice none 0 0, .nil⟩, fun h => absurd h hi⟩
    obtain ⟨f, hf⟩ := Classical.axiomOfChoice hex
    have hx0 : a.spot = none ∧ a.block < W.heap.size := by
      have h4 := (hf 0 (by omega)).1
      have e0 : (a.add (0 * 7)).add 0 = a := by simp [Addr.add]
      rw [e0] at h4
      exact ⟨World.cell?_spot h4, World.block_lt_of_cell? W _ h4⟩
    obtain ⟨hsp, hbl⟩ := hx0
    obtain ⟨ab, aoff, asp⟩ := a
    simp only at hsp hbl
    subst hsp
    obtain ⟨r, hr1, hr2⟩ := at_of_elems (w := W) (g := ab) ((List.range len).map f) aoff (fun j e he => by
      have hj : j < len := by have := (List.getElem?_eq_some_iff.1 he).1; simpa using this
      have hfe : e = f j := by
        rw [List.getElem?_map, List.getElem?_range hj] at he
        simpa using he.symm
      obtain ⟨c0, c1, c2, c3, c4, c5, c6, q1, q2, q3⟩ := hf j hj
      rw [add_none, add_none] at c0 c1 c2 c3 c4 c5 c6
      rw [hfe]
      exact ⟨q1, ⟨c0, c1, c2, c3, c4, c5, c6⟩, q2, q3⟩)
    have hr3 : r.len = len := by rw [hr1]; simp
    exact ⟨r, some ⟨ab, aoff, none⟩, cap, by rw [hr3], by rw [hr3]; exact hl, hm, Or.inr ⟨ab, aoff, rfl, hbl, hr2⟩⟩
end Go.Proofs.Ytigmofbammofbab
