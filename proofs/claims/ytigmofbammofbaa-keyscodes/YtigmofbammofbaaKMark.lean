/- Rows of values with a mark behind each list and two behind each text. -/
import Derived.Test.YtigmofbammofbaaKVal
namespace Go.Proofs.Ytigmofbammofbaa
open Go.RowKit

/-- the bytes bs at the start of a block, two marks behind them -/
def LentIn (S : Nat → Prop) (w : World) (v : Value) (bs : List Nat) : Prop :=
  ∃ b cap, v = .slice (some ⟨b, 0, none⟩) bs.length cap ∧ bs.length + 2 ≤ cap ∧ cap ≤ maxLen ∧ (∀ x ∈ bs, x < 256) ∧ b < w.heap.size ∧ S b ∧
    (∀ j, j < bs.length → w.cell? ⟨b, j, none⟩ = some (.int .u8 (bs.getD j 0 : Nat))) ∧ w.cell? ⟨b, bs.length, none⟩ = some (.int .u8 201) ∧ w.cell? ⟨b, bs.length + 1, none⟩ = some (.int .u8 77)
theorem LentIn.kept {S : Nat → Prop} {F : List Nat} {w w' : World} {v : Value} {bs : List Nat} (h : LentIn S w v bs) (hk : Kept F w w') (hS : ∀ x ∈ F, ¬ S x) : LentIn S w' v bs := by
  obtain ⟨b, cap, hv, h1, h2, h3, h4, h5, h6, h7, h8⟩ := h
  have hn : b ∉ F := fun hm => hS b hm h5
  exact ⟨b, cap, hv, h1, h2, h3, Nat.lt_of_lt_of_le h4 hk.size, h5, fun j hj => (hk.cell (p := ⟨b, j, none⟩) h4 hn).trans (h6 j hj), (hk.cell (p := ⟨b, _, none⟩) h4 hn).trans h7, (hk.cell (p := ⟨b, _, none⟩) h4 hn).trans h8⟩
theorem LentIn.mono {S T : Nat → Prop} {w : World} {v : Value} {bs : List Nat} (h : LentIn S w v bs) (hS : ∀ x, x < w.heap.size → S x → T x) : LentIn T w v bs := by
  obtain ⟨b, cap, hv, h1, h2, h3, h4, h5, h6⟩ := h
  exact ⟨b, cap, hv, h1, h2, h3, h4, hS b h4 h5, h6⟩
theorem LentIn.sees {S : Nat → Prop} {w : World} {v : Value} {bs : List Nat} (h : LentIn S w v bs) : SeesIn S w v bs := by
  obtain ⟨b, cap, rfl, h1, h2, h3, h4, h5, h6, _⟩ := h
  refine ⟨⟨_, cap, rfl, by omega, h2, h3, Or.inr ⟨b, 0, rfl, h4, fun j hj => by rw [Nat.zero_add]; exact h6 j hj⟩⟩, Or.inr fun k hk => ?_⟩
  simp [Value.ownBlock] at hk
  subst hk
  exact h5
theorem Lent.lentIn {w : World} {base g cap L : Nat} {bs : List Nat} (h : Lent w base g cap L bs) : LentIn (New base) w (.slice (some ⟨g, 0, none⟩) L cap) bs := by
  obtain ⟨h1, h2, h3, h4⟩ := h.caps
  have hl := h.1
  refine ⟨g, cap, by rw [hl], by omega, by unfold maxLen; omega, h.2.1, h4, h3, fun j hj => h.cell (by omega), ?_, ?_⟩
  · have := h.mark (k := 0) (by omega)
    rw [hl]
    simpa [two] using this
  · have := h.mark (k := 1) (by omega)
    rw [hl]
    simpa [two] using this

/-- the values of a row at an address, their texts and lists with marks behind them -/
def AtM (S : Nat → Prop) (w : World) : Row → Nat → Nat → Prop
  | .nil, _, _ => True
  | .cons h p r, b, off => (h.ok ∧ ∃ tv pv, Cells7 w b off h tv pv ∧ LentIn S w tv h.text ∧
      ∃ b' cap, pv = .slice (some ⟨b', 0, none⟩) p.len cap ∧ p.len + 1 ≤ cap ∧ cap ≤ maxLen ∧ b' < w.heap.size ∧ S b' ∧ w.cell? ⟨b', p.len * 7, none⟩ = some (.int .i64 (-99)) ∧ AtM S w p b' 0) ∧ AtM S w r b (off + 7)
/-- the slice v holds the row r, a mark behind it -/
def RowM (S : Nat → Prop) (w : World) (v : Value) (r : Row) : Prop :=
  ∃ b cap, v = .slice (some ⟨b, 0, none⟩) r.len cap ∧ r.len + 1 ≤ cap ∧ cap ≤ maxLen ∧ b < w.heap.size ∧ S b ∧ w.cell? ⟨b, r.len * 7, none⟩ = some (.int .i64 (-99)) ∧ AtM S w r b 0
theorem AtM_cons {S : Nat → Prop} {w : World} {h : Hd} {p r : Row} {b off : Nat} : AtM S w (.cons h p r) b off ↔ (h.ok ∧ ∃ tv pv, Cells7 w b off h tv pv ∧ LentIn S w tv h.text ∧ RowM S w pv p) ∧ AtM S w r b (off + 7) := Iff.rfl
theorem AtM.kept {S : Nat → Prop} {F : List Nat} {w w' : World} (hk : Kept F w w') (hS : ∀ x ∈ F, ¬ S x) {r : Row} {b off : Nat} (h : AtM S w r b off) (hb : b < w.heap.size) (hn : b ∉ F) : AtM S w' r b off := by
  induction r generalizing b off with
  | nil => trivial
  | cons x p r ihp ihr =>
    obtain ⟨⟨h0, tv, pv, hc, ht, b', cap, hv, h1, h2, h3, h4, h5, h6⟩, hr⟩ := h
    have hn' : b' ∉ F := fun hm => hS b' hm h4
    exact ⟨⟨h0, tv, pv, hc.kept hk hb hn, ht.kept hk hS, b', cap, hv, h1, h2, Nat.lt_of_lt_of_le h3 hk.size, h4, (hk.cell (p := ⟨b', _, none⟩) h3 hn').trans h5, ihp h6 h3 hn'⟩, ihr hr hb hn⟩
theorem AtM.mono {S T : Nat → Prop} {w : World} (hS : ∀ x, x < w.heap.size → S x → T x) {r : Row} {b off : Nat} (h : AtM S w r b off) : AtM T w r b off := by
  induction r generalizing b off with
  | nil => trivial
  | cons x p r ihp ihr =>
    obtain ⟨⟨h0, tv, pv, hc, ht, b', cap, hv, h1, h2, h3, h4, h5, h6⟩, hr⟩ := h
    exact ⟨⟨h0, tv, pv, hc, ht.mono hS, b', cap, hv, h1, h2, h3, hS _ h3 h4, h5, ihp h6⟩, ihr hr⟩
theorem AtM.plain {S : Nat → Prop} {w : World} {r : Row} {b off : Nat} (h : AtM S w r b off) : AtV S w r b off := by
  induction r generalizing b off with
  | nil => trivial
  | cons x p r ihp ihr =>
    obtain ⟨⟨h0, tv, pv, hc, ht, b', cap, hv, h1, h2, h3, h4, h5, h6⟩, hr⟩ := h
    exact ⟨⟨h0, tv, pv, hc, ht.sees, _, cap, hv, by omega, h2, Or.inr ⟨b', 0, rfl, h3, h4, ihp h6⟩⟩, ihr hr⟩
theorem RowM.kept {S : Nat → Prop} {F : List Nat} {w w' : World} {v : Value} {r : Row} (h : RowM S w v r) (hk : Kept F w w') (hS : ∀ x ∈ F, ¬ S x) : RowM S w' v r := by
  obtain ⟨b, cap, hv, h1, h2, h3, h4, h5, h6⟩ := h
  have hn : b ∉ F := fun hm => hS b hm h4
  exact ⟨b, cap, hv, h1, h2, Nat.lt_of_lt_of_le h3 hk.size, h4, (hk.cell (p := ⟨b, _, none⟩) h3 hn).trans h5, h6.kept hk hS h3 hn⟩
theorem RowM.mono {S T : Nat → Prop} {w : World} {v : Value} {r : Row} (h : RowM S w v r) (hS : ∀ x, x < w.heap.size → S x → T x) : RowM T w v r := by
  obtain ⟨b, cap, hv, h1, h2, h3, h4, h5, h6⟩ := h
  exact ⟨b, cap, hv, h1, h2, h3, hS _ h3 h4, h5, h6.mono hS⟩
theorem RowM.plain {S : Nat → Prop} {w : World} {v : Value} {r : Row} (h : RowM S w v r) : RowV S w v r := by
  obtain ⟨b, cap, hv, h1, h2, h3, h4, h5, h6⟩ := h
  exact ⟨_, cap, hv, by omega, h2, Or.inr ⟨b, 0, rfl, h3, h4, h6.plain⟩⟩
theorem AtM.app {S : Nat → Prop} {w : World} {r s : Row} {b off : Nat} : AtM S w (r.app s) b off ↔ AtM S w r b off ∧ AtM S w s b (off + 7 * r.len) := by
  induction r generalizing off with
  | nil => simp [Row.app, AtM, Row.len]
  | cons x p r _ ih =>
    simp only [Row.app, Row.len]
    rw [AtM_cons, AtM_cons, ih, show off + 7 * (r.len + 1) = off + 7 + 7 * r.len by omega]
    simp only [and_assoc]

/-- the mark behind a list -/
def markE : El := ⟨hd0 (-99), .slice none 0 0, .slice none 0 0, .nil⟩
/-- an element that is as it should be -/
def ElM (S : Nat → Prop) (w : World) (e : El) : Prop := e.h.ok ∧ LentIn S w e.tv e.h.text ∧ RowM S w e.pv e.p
theorem ElM.kept {S : Nat → Prop} {F : List Nat} {w w' : World} {e : El} (h : ElM S w e) (hk : Kept F w w') (hS : ∀ x ∈ F, ¬ S x) : ElM S w' e := ⟨h.1, h.2.1.kept hk hS, h.2.2.kept hk hS⟩
theorem ElM.mono {S T : Nat → Prop} {w : World} {e : El} (h : ElM S w e) (hS : ∀ x, x < w.heap.size → S x → T x) : ElM T w e := ⟨h.1, h.2.1.mono hS, h.2.2.mono hS⟩
theorem ElM.one {S : Nat → Prop} {w : World} {e : El} (h : ElM S w e) : ∀ u ∈ cellsV e.h e.tv e.pv, u.oneCell' = true := by
  obtain ⟨_, ⟨b, c, h1, _⟩, ⟨b', c', h2, _⟩⟩ := h
  intro u hu
  simp only [cellsV, List.mem_cons, List.not_mem_nil, or_false] at hu
  rcases hu with rfl | rfl | rfl | rfl | rfl | rfl | rfl
  · rfl
  · rfl
  · rfl
  · rfl
  · rfl
  · rw [h1]; rfl
  · rw [h2]; rfl

theorem cells7_of {w : World} {g off : Nat} {h : Hd} {tv pv : Value} {rest : List Value} (hc : ∀ j u, (cellsV h tv pv ++ rest)[j]? = some u → w.cell? ⟨g, off + j, none⟩ = some u) : Cells7 w g off h tv pv := by
  have hz : ∀ j (hj : j < 7), w.cell? ⟨g, off + j, none⟩ = some ((cellsV h tv pv)[j]'(by simp [cellsV]; omega)) := by
    intro j hj
    refine hc j _ ?_
    rw [List.getElem?_append_left (by simp [cellsV]; omega), List.getElem?_eq_getElem]
  exact ⟨hz 0 (by omega), hz 1 (by omega), hz 2 (by omega), hz 3 (by omega), hz 4 (by omega), hz 5 (by omega), hz 6 (by omega)⟩
theorem of_cells7 {w : World} {g off : Nat} {h : Hd} {tv pv : Value} (hc : Cells7 w g off h tv pv) {j : Nat} {u : Value} (hj : (cellsV h tv pv)[j]? = some u) : w.cell? ⟨g, off + j, none⟩ = some u := by
  obtain ⟨c0, c1, c2, c3, c4, c5, c6⟩ := hc
  have hj7 : j < 7 := (List.getElem?_eq_some_iff.1 hj).1
  obtain rfl | rfl | rfl | rfl | rfl | rfl | rfl : j = 0 ∨ j = 1 ∨ j = 2 ∨ j = 3 ∨ j = 4 ∨ j = 5 ∨ j = 6 := by omega
  all_goals (simp [cellsV] at hj; subst hj; assumption)
theorem flatE_len (l : List El) : (flatE l).length = l.length * 7 := by
  induction l with
  | nil => rfl
  | cons e l ih => simp only [flatE, List.flatMap_cons, List.length_append, List.length_cons] at *; simp [cellsV] at *; omega
theorem atM_of_cells {S : Nat → Prop} {w : World} {g off : Nat} {l : List El} {rest : List Value} (hc : ∀ j u, (flatE l ++ rest)[j]? = some u → w.cell? ⟨g, off + j, none⟩ = some u) (he : ∀ e ∈ l, ElM S w e) : AtM S w (rowE l) g off := by
  induction l generalizing off with
  | nil => trivial
  | cons e l ih =>
    have hf : flatE (e :: l) ++ rest = cellsV e.h e.tv e.pv ++ (flatE l ++ rest) := by simp [flatE]
    rw [hf] at hc
    obtain ⟨h1, h2, h3⟩ := he e (List.mem_cons_self ..)
    refine ⟨⟨h1, e.tv, e.pv, cells7_of hc, h2, h3⟩, ih ?_ (fun x hx => he x (List.mem_cons_of_mem _ hx))⟩
    intro j u hj
    have := hc (7 + j) u (by rw [List.getElem?_append_right (by simp [cellsV])]; simpa [cellsV] using hj)
    rw [← Nat.add_assoc] at this
    exact this
theorem cells_of_atM {S : Nat → Prop} {w : World} {r : Row} : ∀ {g off : Nat}, AtM S w r g off → ∃ l : List El, rowE l = r ∧ (∀ j u, (flatE l)[j]? = some u → w.cell? ⟨g, off + j, none⟩ = some u) ∧ ∀ e ∈ l, ElM S w e := by
  induction r with
  | nil => intro g off _; exact ⟨[], rfl, by simp [flatE], by simp⟩
  | cons h p r _ ihr =>
    intro g off ha
    rw [AtM_cons] at ha
    obtain ⟨⟨h1, tv, pv, hc, ht, hp⟩, hr⟩ := ha
    obtain ⟨l, e1, e2, e3⟩ := ihr hr
    refine ⟨⟨h, tv, pv, p⟩ :: l, by simp [rowE, e1], ?_, ?_⟩
    · intro j u hj
      have hf : flatE (⟨h, tv, pv, p⟩ :: l) = cellsV h tv pv ++ flatE l := rfl
      rw [hf] at hj
      by_cases hj7 : j < 7
      · rw [List.getElem?_append_left (by simp [cellsV]; omega)] at hj
        exact of_cells7 hc hj
      · rw [List.getElem?_append_right (by simp [cellsV]; omega)] at hj
        have hl : (cellsV h tv pv).length = 7 := rfl
        rw [hl] at hj
        have := e2 (j - 7) u hj
        rw [show off + 7 + (j - 7) = off + j by omega] at this
        exact this
    · intro e he
      rcases List.mem_cons.1 he with rfl | he
      · exact ⟨h1, ht, hp⟩
      · exact e3 e he

/-- a row of the call's own whose elements are as they should be, or marks -/
def OwnM (B : Nat) (w : World) (v : Value) (l : List El) : Prop :=
  w.ownsRow B 54 7 v l.length (flatE l) ∧ ∀ e ∈ l, ElM (fun x => B ≤ x ∧ v.ownBlock ≠ some x) w e ∨ e = markE
theorem OwnM.kept {B : Nat} {w w' : World} {v : Value} {l : List El} (h : OwnM B w v l) (hk : Kept [] w w') : OwnM B w' v l :=
  ⟨own_kept h.1 hk (by simp), fun e he => (h.2 e he).imp (fun h => h.kept hk (by simp)) id⟩
theorem OwnM.nil (B : Nat) (w : World) : OwnM B w (.slice none 0 0) [] := ⟨World.ownsRow_nil _ _ _ _, by simp⟩
theorem OwnM.grow {B : Nat} {w w' : World} {v v' : Value} {l : List El} {e : El} (h : OwnM B w v l) (ho : w'.ownsRow B 54 7 v' (l.length + 1) (flatE l ++ cellsV e.h e.tv e.pv)) (hg : w.grownBy w' v.ownBlock) (hl : v'.ownBlock = v.ownBlock ∨ v'.ownBlock = some w.heap.size) (he : ElM (fun x => B ≤ x ∧ v.ownBlock ≠ some x) w e ∨ e = markE) : OwnM B w' v' (l ++ [e]) := by
  refine ⟨by rw [List.length_append, flatE_app]; simpa [flatE] using ho, fun x hx => ?_⟩
  have hx' : ElM (fun x => B ≤ x ∧ v.ownBlock ≠ some x) w x ∨ x = markE := by
    rcases List.mem_append.1 hx with h1 | h1
    · exact h.2 x h1
    · have : x = e := by simpa using h1
      rw [this]; exact he
  rcases hx' with hx' | hx'
  · have hk : Kept v.ownBlock.toList w w' := (Kept.refl _ w).grown hg (fun k hk => Or.inl (by simp [hk]))
    have h1 : ElM (fun y => (B ≤ y ∧ v.ownBlock ≠ some y) ∧ v'.ownBlock ≠ some y) w x := hx'.mono (fun y hy hS => ⟨hS, by
      rcases hl with hl | hl
      · rw [hl]; exact hS.2
      · rw [hl]; intro e; cases e; omega⟩)
    exact Or.inl ((h1.kept hk (fun y hy hS => hS.1.2 (by simpa using hy))).mono (fun y _ hS => ⟨hS.1.1, hS.2⟩))
  · exact Or.inr hx'
/-- the whole row, made -/
theorem OwnM.row {B : Nat} {w : World} {va : Option Addr} {vn vc : Nat} {l : List El} (h : OwnM B w (.slice va vn vc) (l ++ [markE])) (hm : ∀ e ∈ l, e ≠ markE) {n : Nat} (hn : l.length = n) : RowM (New B) w (.slice va n vc) (rowE l) := by
  obtain ⟨ho, he⟩ := h
  have hl := rowE_len l
  rcases ho.2 with ⟨h1, h2⟩ | ⟨g, cap, cur, hv, hg0, hg, hc, hmx, hs, ht⟩
  · simp at h2
  · cases hv
    have hce : ∀ j u, (flatE (l ++ [markE]))[j]? = some u → w.cell? ⟨g, 0 + j, none⟩ = some u := by
      intro j u hj
      have := ho.cells (g := g) rfl j u hj
      rw [add_none, Nat.zero_add] at this
      rw [Nat.zero_add]
      exact this
    rw [flatE_app] at hce
    refine ⟨g, vc, by rw [hl, hn], by rw [hl]; simp at hc; omega, hmx, (Array.getElem?_eq_some_iff.1 hg).1, hg0, ?_, ?_⟩
    · have := hce (l.length * 7) (.int .i64 (-99)) (by
        rw [List.getElem?_append_right (by rw [flatE_len]; exact Nat.le_refl _), flatE_len, Nat.sub_self]; rfl)
      rw [Nat.zero_add] at this
      rw [hl]
      exact this
    · refine AtM.mono (S := fun x => B ≤ x ∧ (Value.slice (some ⟨g, 0, none⟩) (l ++ [markE]).length vc).ownBlock ≠ some x) (fun x _ hx => hx.1) (atM_of_cells hce (fun e h => ?_))
      rcases he e (List.mem_append_left _ h) with h' | h'
      · exact h'
      · exact absurd h' (hm e h)
theorem ElM.not_mark {S : Nat → Prop} {w : World} {e : El} (h : ElM S w e) : e ≠ markE := by
  obtain ⟨_, ⟨b, c, h1, _⟩, _⟩ := h
  intro he
  rw [he] at h1
  cases h1

/-- 'append(row, v)' -/
theorem wpList_append_valM (w : World) {ops : Array Oper} {rest : List Oper} {o : Oper} {a : Act} {Q : Exit → Act → World → Prop} (hgd : o.guard = none) (s x : Operand)
    (ho : o.op = .call { callee := .builtin .append, args := #[s, x], argTypes := #[28, 28] })
    {B : Nat} {va : Option Addr} {vn vc : Nat} {l : List El} {e : El} {b : Nat} (hs : a.eval s = .slice va vn vc) (hown : Hid (OwnM B w (.slice va vn vc) l)) (hvn : Hid (l.length = vn)) (hxv : a.eval x = .slice (some ⟨b, 0, none⟩) 1 1)
    (hb : Hid (∀ j u, (cellsV e.h e.tv e.pv)[j]? = some u → w.cell? ((⟨b, 0, none⟩ : Addr).add j) = some u)) (hone : Hid (∀ u ∈ cellsV e.h e.tv e.pv, u.oneCell' = true))
    (he : Hid (ElM (fun x => B ≤ x ∧ (Value.slice va vn vc).ownBlock ≠ some x) w e ∨ e = markE)) (hl : Hid (vn ≤ 1099511627776)) (hB : Hid (B ≤ w.heap.size))
    (h : ∀ va' vc' w', Hid (OwnM B w' (.slice va' (vn + 1) vc') (l ++ [e])) → Hid (Kept (Value.slice va vn vc).ownBlock.toList w w') → wpList Try.prog ops Q rest (a.put o.dst (.slice va' (vn + 1) vc')) w') :
    wpList Try.prog ops Q (o :: rest) a w := by
  obtain ⟨i0, hi, hz0, hz1, hz2⟩ := info_parts info7p
  have hvn' : l.length = vn := hvn
  have hl' : vn ≤ 1099511627776 := hl
  have ho1 : w.ownsRow B 54 7 (.slice va vn vc) vn (flatE l) := by have := (unhide hown).1; rw [hvn'] at this; exact this
  refine wpList_append_own_at w hgd s x 28 ho B 54 i0 _ 7 96 Try.underlying28 hi hz0 hz1 hz2 rfl (by decide) (.slice va vn vc) vn (flatE l) hs ho1 ⟨b, 0, none⟩ 1 1 (cellsV e.h e.tv e.pv) hxv rfl hb hone (by unfold maxLen; omega) (by omega) hB ?_
  intro v' w' h1 h2 h3 h4
  obtain ⟨a', c', rfl⟩ := own_len h1
  refine h a' c' w' (hide (OwnM.grow (unhide hown) (by rw [hvn']; exact h1) h2 h4 (unhide he))) (hide ?_)
  exact (Kept.refl _ w).grown h2 (fun k hk => Or.inl (by simp [hk]))
end Go.Proofs.Ytigmofbammofbaa
