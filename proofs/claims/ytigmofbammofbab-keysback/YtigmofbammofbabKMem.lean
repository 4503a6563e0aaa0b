/- Rows of values in memory. -/
import Derived.Test.YtigmofbammofbabKByt
namespace Go.Proofs.Ytigmofbammofbab
open Go.RowKit

/-- the slice v reads as these bytes, and lies in one of the blocks S (or is empty) -/
def SeesIn (S : Nat → Prop) (w : World) (v : Value) (bs : List Nat) : Prop := Sees w v bs ∧ (bs = [] ∨ ∀ k, v.ownBlock = some k → S k)
/-- the cells of a value -/
def cellsV (h : Hd) (tv pv : Value) : List Value := [.int .i64 h.kind, .bool h.b, .int .i64 h.n, .float .f64 h.re, .complex .f64 h.pr h.im, tv, pv]
def aggV (h : Hd) (tv pv : Value) : Value := .agg #[.int .i64 h.kind, .bool h.b, .int .i64 h.n, .float .f64 h.re, .complex .f64 h.pr h.im, tv, pv]
/-- the cells lie at an address -/
def Cells7 (w : World) (b off : Nat) (h : Hd) (tv pv : Value) : Prop :=
  w.cell? ⟨b, off, none⟩ = some (.int .i64 h.kind) ∧ w.cell? ⟨b, off + 1, none⟩ = some (.bool h.b) ∧ w.cell? ⟨b, off + 2, none⟩ = some (.int .i64 h.n) ∧ w.cell? ⟨b, off + 3, none⟩ = some (.float .f64 h.re) ∧ w.cell? ⟨b, off + 4, none⟩ = some (.complex .f64 h.pr h.im) ∧ w.cell? ⟨b, off + 5, none⟩ = some tv ∧ w.cell? ⟨b, off + 6, none⟩ = some pv

/-- the values of a row lie at an address, one behind the other, what they hold in blocks S -/
def AtV (S : Nat → Prop) (w : World) : Row → Nat → Nat → Prop
  | .nil, _, _ => True
  | .cons h p r, b, off => (h.ok ∧ ∃ tv pv, Cells7 w b off h tv pv ∧ SeesIn S w tv h.text ∧
      ∃ a cap, pv = .slice a p.len cap ∧ p.len ≤ cap ∧ cap ≤ maxLen ∧ (p = .nil ∨ ∃ b' off', a = some ⟨b', off', none⟩ ∧ b' < w.heap.size ∧ S b' ∧ AtV S w p b' off')) ∧ AtV S w r b (off + 7)
/-- the slice v holds the row r -/
def RowV (S : Nat → Prop) (w : World) (v : Value) (r : Row) : Prop :=
  ∃ a cap, v = .slice a r.len cap ∧ r.len ≤ cap ∧ cap ≤ maxLen ∧ (r = .nil ∨ ∃ b off, a = some ⟨b, off, none⟩ ∧ b < w.heap.size ∧ S b ∧ AtV S w r b off)
theorem AtV_cons {S : Nat → Prop} {w : World} {h : Hd} {p r : Row} {b off : Nat} : AtV S w (.cons h p r) b off ↔ (h.ok ∧ ∃ tv pv, Cells7 w b off h tv pv ∧ SeesIn S w tv h.text ∧ RowV S w pv p) ∧ AtV S w r b (off + 7) := Iff.rfl

theorem SeesIn.kept {S : Nat → Prop} {F : List Nat} {w w' : World} {v : Value} {bs : List Nat} (h : SeesIn S w v bs) (hk : Kept F w w') (hS : ∀ x ∈ F, ¬ S x) : SeesIn S w' v bs := by
  refine ⟨h.1.kept hk ?_, h.2⟩
  rcases h.2 with h2 | h2
  · exact Or.inl h2
  · exact Or.inr fun k hk' hm => hS k hm (h2 k hk')
theorem SeesIn.mono {S T : Nat → Prop} {w : World} {v : Value} {bs : List Nat} (h : SeesIn S w v bs) (hS : ∀ x, x < w.heap.size → S x → T x) : SeesIn T w v bs := by
  refine ⟨h.1, ?_⟩
  rcases h.2 with h2 | h2
  · exact Or.inl h2
  · obtain ⟨a, cap, rfl, _, _, _, h4⟩ := h.1
    rcases h4 with h4 | ⟨b, off, rfl, h5, _⟩
    · exact Or.inl h4
    · refine Or.inr fun k hk => ?_
      simp [Value.ownBlock] at hk
      subst hk
      exact hS _ h5 (h2 b rfl)
theorem Cells7.kept {F : List Nat} {w w' : World} {b off : Nat} {h : Hd} {tv pv : Value} (hc : Cells7 w b off h tv pv) (hk : Kept F w w') (hb : b < w.heap.size) (hn : b ∉ F) : Cells7 w' b off h tv pv := by
  obtain ⟨c0, c1, c2, c3, c4, c5, c6⟩ := hc
  exact ⟨(hk.cell (p := ⟨b, _, none⟩) hb hn).trans c0, (hk.cell (p := ⟨b, _, none⟩) hb hn).trans c1, (hk.cell (p := ⟨b, _, none⟩) hb hn).trans c2, (hk.cell (p := ⟨b, _, none⟩) hb hn).trans c3, (hk.cell (p := ⟨b, _, none⟩) hb hn).trans c4, (hk.cell (p := ⟨b, _, none⟩) hb hn).trans c5, (hk.cell (p := ⟨b, _, none⟩) hb hn).trans c6⟩

theorem AtV.kept {S : Nat → Prop} {F : List Nat} {w w' : World} (hk : Kept F w w') (hS : ∀ x ∈ F, ¬ S x) {r : Row} {b off : Nat} (h : AtV S w r b off) (hb : b < w.heap.size) (hn : b ∉ F) : AtV S w' r b off := by
  induction r generalizing b off with
  | nil => trivial
  | cons x p r ihp ihr =>
    obtain ⟨⟨h0, tv, pv, hc, ht, a, cap, hv, h1, h2, h3⟩, hr⟩ := h
    refine ⟨⟨h0, tv, pv, hc.kept hk hb hn, ht.kept hk hS, a, cap, hv, h1, h2, ?_⟩, ihr hr hb hn⟩
    rcases h3 with h3 | ⟨b', off', rfl, h4, h5, h6⟩
    · exact Or.inl h3
    · exact Or.inr ⟨b', off', rfl, Nat.lt_of_lt_of_le h4 hk.size, h5, ihp h6 h4 (fun hm => hS b' hm h5)⟩
theorem AtV.mono {S T : Nat → Prop} {w : World} (hS : ∀ x, x < w.heap.size → S x → T x) {r : Row} {b off : Nat} (h : AtV S w r b off) : AtV T w r b off := by
  induction r generalizing b off with
  | nil => trivial
  | cons x p r ihp ihr =>
    obtain ⟨⟨h0, tv, pv, hc, ht, a, cap, hv, h1, h2, h3⟩, hr⟩ := h
    refine ⟨⟨h0, tv, pv, hc, ht.mono hS, a, cap, hv, h1, h2, ?_⟩, ihr hr⟩
    rcases h3 with h3 | ⟨b', off', rfl, h4, h5, h6⟩
    · exact Or.inl h3
    · exact Or.inr ⟨b', off', rfl, h4, hS _ h4 h5, ihp h6⟩
theorem RowV.kept {S : Nat → Prop} {F : List Nat} {w w' : World} {v : Value} {r : Row} (h : RowV S w v r) (hk : Kept F w w') (hS : ∀ x ∈ F, ¬ S x) : RowV S w' v r := by
  obtain ⟨a, cap, hv, h1, h2, h3⟩ := h
  refine ⟨a, cap, hv, h1, h2, ?_⟩
  rcases h3 with h3 | ⟨b, off, rfl, h4, h5, h6⟩
  · exact Or.inl h3
  · exact Or.inr ⟨b, off, rfl, Nat.lt_of_lt_of_le h4 hk.size, h5, h6.kept hk hS h4 (fun hm => hS b hm h5)⟩
theorem RowV.mono {S T : Nat → Prop} {w : World} {v : Value} {r : Row} (h : RowV S w v r) (hS : ∀ x, x < w.heap.size → S x → T x) : RowV T w v r := by
  obtain ⟨a, cap, hv, h1, h2, h3⟩ := h
  refine ⟨a, cap, hv, h1, h2, ?_⟩
  rcases h3 with h3 | ⟨b, off, rfl, h4, h5, h6⟩
  · exact Or.inl h3
  · exact Or.inr ⟨b, off, rfl, h4, hS _ h4 h5, h6.mono hS⟩
theorem RowV.nil (S : Nat → Prop) (w : World) : RowV S w (.slice none 0 0) .nil := ⟨none, 0, rfl, by simp [Row.len], by simp [maxLen], Or.inl rfl⟩
theorem AtV.app {S : Nat → Prop} {w : World} {r s : Row} {b off : Nat} : AtV S w (r.app s) b off ↔ AtV S w r b off ∧ AtV S w s b (off + 7 * r.len) := by
  induction r generalizing off with
  | nil => simp [Row.app, AtV, Row.len]
  | cons x p r _ ih =>
    simp only [Row.app, Row.len]
    rw [AtV_cons, AtV_cons, ih, show off + 7 * (r.len + 1) = off + 7 + 7 * r.len by omega]
    simp only [and_assoc]
/-- of each value of a row the parts -/
def PartsOk (C : Row → Prop) : Row → Prop
  | .nil => True
  | .cons _ p r => C p ∧ PartsOk C r
theorem Row.parts_ind {C : Row → Prop} (step : ∀ r, PartsOk C r → C r) (r : Row) : C r := by
  have h : C r ∧ PartsOk C r := by
    induction r with
    | nil => exact ⟨step _ trivial, trivial⟩
    | cons h p r ihp ihr =>
      have hp : PartsOk C (.cons h p r) := ⟨ihp.1, ihr.2⟩
      exact ⟨step _ hp, hp⟩
  exact h.1
/-- any block -/
def Any : Nat → Prop := fun _ => True

theorem kb : ∀ (w : World) (n : Nat), (callFunc 31 #[.float .f64 n]).run Try.prog w = .ok (.value (.int .u64 n)) w := by intro w n; kernel_rfl
theorem kf : ∀ (w : World) (n : Int), (callFunc 28 #[.int .u64 n]).run Try.prog w = .ok (.value (.float .f64 n.toNat)) w := by intro w n; kernel_rfl
end Go.Proofs.Ytigmofbammofbab
