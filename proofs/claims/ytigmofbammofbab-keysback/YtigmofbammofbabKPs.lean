/- Rows of Parts of the call's own. -/
import Derived.Test.YtigmofbammofbabKJoin
namespace Go.Proofs.Ytigmofbammofbab
open Go.RowKit

def AtPS (S : Nat → Prop) (w : World) : Row → Nat → Nat → Prop
  | .nil, _, _ => True
  | .cons h p r, b, off => ((h.ok ∧ h.pr = h.re) ∧ ∃ tv pv, CellsP w b off h tv pv ∧ SeesIn S w tv h.text ∧
      ∃ a cap, pv = .slice a p.len cap ∧ p.len ≤ cap ∧ cap ≤ maxLen ∧ (p = .nil ∨ ∃ b' off', a = some ⟨b', off', none⟩ ∧ b' < w.heap.size ∧ S b' ∧ AtPS S w p b' off')) ∧ AtPS S w r b (off + 7)
def RowPS (S : Nat → Prop) (w : World) (v : Value) (r : Row) : Prop :=
  ∃ a cap, v = .slice a r.len cap ∧ r.len ≤ cap ∧ cap ≤ maxLen ∧ (r = .nil ∨ ∃ b off, a = some ⟨b, off, none⟩ ∧ b < w.heap.size ∧ S b ∧ AtPS S w r b off)
theorem AtPS_cons {S : Nat → Prop} {w : World} {h : Hd} {p r : Row} {b off : Nat} : AtPS S w (.cons h p r) b off ↔ ((h.ok ∧ h.pr = h.re) ∧ ∃ tv pv, CellsP w b off h tv pv ∧ SeesIn S w tv h.text ∧ RowPS S w pv p) ∧ AtPS S w r b (off + 7) := Iff.rfl
theorem CellsP.keptF {F : List Nat} {w w' : World} {b off : Nat} {h : Hd} {tv pv : Value} (hc : CellsP w b off h tv pv) (hk : Kept F w w') (hb : b < w.heap.size) (hn : b ∉ F) : CellsP w' b off h tv pv := by
  obtain ⟨c0, c1, c2, c3, c4, c5, c6⟩ := hc
  exact ⟨(hk.cell (p := ⟨b, _, none⟩) hb hn).trans c0, (hk.cell (p := ⟨b, _, none⟩) hb hn).trans c1, (hk.cell (p := ⟨b, _, none⟩) hb hn).trans c2, (hk.cell (p := ⟨b, _, none⟩) hb hn).trans c3, (hk.cell (p := ⟨b, _, none⟩) hb hn).trans c4, (hk.cell (p := ⟨b, _, none⟩) hb hn).trans c5, (hk.cell (p := ⟨b, _, none⟩) hb hn).trans c6⟩
theorem AtPS.kept {S : Nat → Prop} {F : List Nat} {w w' : World} (hk : Kept F w w') (hS : ∀ x ∈ F, ¬ S x) {r : Row} {b off : Nat} (h : AtPS S w r b off) (hb : b < w.heap.size) (hn : b ∉ F) : AtPS S w' r b off := by
  induction r generalizing b off with
  | nil => trivial
  | cons x p r ihp ihr =>
    obtain ⟨⟨h0, tv, pv, hc, ht, a, cap, hv, h1, h2, h3⟩, hr⟩ := h
    refine ⟨⟨h0, tv, pv, hc.keptF hk hb hn, ht.kept hk hS, a, cap, hv, h1, h2, ?_⟩, ihr hr hb hn⟩
    rcases h3 with h3 | ⟨b', off', rfl, h4, h5, h6⟩
    · exact Or.inl h3
    · exact Or.inr ⟨b', off', rfl, Nat.lt_of_lt_of_le h4 hk.size, h5, ihp h6 h4 (fun hm => hS b' hm h5)⟩
theorem AtPS.mono {S T : Nat → Prop} {w : World} (hS : ∀ x, x < w.heap.size → S x → T x) {r : Row} {b off : Nat} (h : AtPS S w r b off) : AtPS T w r b off := by
  induction r generalizing b off with
  | nil => trivial
  | cons x p r ihp ihr =>
    obtain ⟨⟨h0, tv, pv, hc, ht, a, cap, hv, h1, h2, h3⟩, hr⟩ := h
    refine ⟨⟨h0, tv, pv, hc, ht.mono hS, a, cap, hv, h1, h2, ?_⟩, ihr hr⟩
    rcases h3 with h3 | ⟨b', off', rfl, h4, h5, h6⟩
    · exact Or.inl h3
    · exact Or.inr ⟨b', off', rfl, h4, hS _ h4 h5, ihp h6⟩
theorem AtPS.plain {S : Nat → Prop} {w : World} {r : Row} {b off : Nat} (h : AtPS S w r b off) : AtP w r b off := by
  induction r generalizing b off with
  | nil => trivial
  | cons x p r ihp ihr =>
    obtain ⟨⟨h0, tv, pv, hc, ht, a, cap, hv, h1, h2, h3⟩, hr⟩ := h
    refine ⟨⟨h0, tv, pv, hc, ht.1, a, cap, hv, h1, h2, ?_⟩, ihr hr⟩
    rcases h3 with h3 | ⟨b', off', rfl, h4, h5, h6⟩
    · exact Or.inl h3
    · exact Or.inr ⟨b', off', rfl, h4, ihp h6⟩
theorem RowPS.kept {S : Nat → Prop} {F : List Nat} {w w' : World} {v : Value} {r : Row} (h : RowPS S w v r) (hk : Kept F w w') (hS : ∀ x ∈ F, ¬ S x) : RowPS S w' v r := by
  obtain ⟨a, cap, hv, h1, h2, h3⟩ := h
  refine ⟨a, cap, hv, h1, h2, ?_⟩
  rcases h3 with h3 | ⟨b, off, rfl, h4, h5, h6⟩
  · exact Or.inl h3
  · exact Or.inr ⟨b, off, rfl, Nat.lt_of_lt_of_le h4 hk.size, h5, h6.kept hk hS h4 (fun hm => hS b hm h5)⟩
theorem RowPS.mono {S T : Nat → Prop} {w : World} {v : Value} {r : Row} (h : RowPS S w v r) (hS : ∀ x, x < w.heap.size → S x → T x) : RowPS T w v r := by
  obtain ⟨a, cap, hv, h1, h2, h3⟩ := h
  refine ⟨a, cap, hv, h1, h2, ?_⟩
  rcases h3 with h3 | ⟨b, off, rfl, h4, h5, h6⟩
  · exact Or.inl h3
  · exact Or.inr ⟨b, off, rfl, h4, hS _ h4 h5, h6.mono hS⟩
theorem RowPS.plain {S : Nat → Prop} {w : World} {v : Value} {r : Row} (h : RowPS S w v r) : RowP w v r := by
  obtain ⟨a, cap, hv, h1, h2, h3⟩ := h
  refine ⟨a, cap, hv, h1, h2, ?_⟩
  rcases h3 with h3 | ⟨b, off, rfl, h4, h5, h6⟩
  · exact Or.inl h3
  · exact Or.inr ⟨b, off, rfl, h4, h6.plain⟩
theorem RowPS.nil (S : Nat → Prop) (w : World) : RowPS S w (.slice none 0 0) .nil := ⟨none, 0, rfl, by simp [Row.len], by simp [maxLen], Or.inl rfl⟩

def ElPS (S : Nat → Prop) (w : World) (e : El) : Prop := (e.h.ok ∧ e.h.pr = e.h.re) ∧ SeesIn S w e.tv e.h.text ∧ RowPS S w e.pv e.p
theorem ElPS.kept {S : Nat → Prop} {F : List Nat} {w w' : World} {e : El} (h : ElPS S w e) (hk : Kept F w w') (hS : ∀ x ∈ F, ¬ S x) : ElPS S w' e := ⟨h.1, h.2.1.kept hk hS, h.2.2.kept hk hS⟩
theorem ElPS.mono {S T : Nat → Prop} {w : World} {e : El} (h : ElPS S w e) (hS : ∀ x, x < w.heap.size → S x → T x) : ElPS T w e := ⟨h.1, h.2.1.mono hS, h.2.2.mono hS⟩
theorem atPS_of_cells {S : Nat → Prop} {w : World} {g off : Nat} {l : List El} (hc : ∀ j u, (flatP l)[j]? = some u → w.cell? ⟨g, off + j, none⟩ = some u) (he : ∀ e ∈ l, ElPS S w e) : AtPS S w (rowE l) g off := by
  induction l generalizing off with
  | nil => trivial
  | cons e l ih =>
    have hf : flatP (e :: l) = cellsPt e.h e.tv e.pv ++ flatP l := rfl
    obtain ⟨h1, h2, h3⟩ := he e (List.mem_cons_self ..)
    refine ⟨⟨h1, e.tv, e.pv, ?_, h2, h3⟩, ih ?_ (fun x hx => he x (List.mem_cons_of_mem _ hx))⟩
    · have hz : ∀ j (hj : j < 7), w.cell? ⟨g, off + j, none⟩ = some ((cellsPt e.h e.tv e.pv)[j]'(by simp [cellsPt]; omega)) := by
        intro j hj
        refine hc j _ ?_
        rw [hf, List.getElem?_append_left (by simp [cellsPt]; omega), List.getElem?_eq_getElem]
      exact ⟨hz 0 (by omega), hz 1 (by omega), hz 2 (by omega), hz 3 (by omega), hz 4 (by omega), hz 5 (by omega), hz 6 (by omega)⟩
    · intro j u hj
      have := hc (7 + j) u (by rw [hf, List.getElem?_append_right (by simp [cellsPt])]; simpa [cellsPt] using hj)
      rw [← Nat.add_assoc] at this
      exact this
/-- a row of Parts of the call's own -/
def OwnP (B : Nat) (w : World) (v : Value) (l : List El) : Prop :=
  w.ownsRow B 62 7 v l.length (flatP l) ∧ ∀ e ∈ l, ElPS (fun x => B ≤ x ∧ v.ownBlock ≠ some x) w e
theorem OwnP.nil (B : Nat) (w : World) : OwnP B w (.slice none 0 0) [] := ⟨World.ownsRow_nil _ _ _ _, by simp⟩
theorem OwnP.row {B : Nat} {w : World} {v : Value} {l : List El} (h : OwnP B w v l) : RowPS (New B) w v (rowE l) := by
  obtain ⟨ho, he⟩ := h
  have hl := rowE_len l
  rcases ho.2 with ⟨h1, h2⟩ | ⟨g, cap, cur, hv, hg0, hg, hc, hm, hs, ht⟩
  · have : l = [] := List.eq_nil_of_length_eq_zero h2
    subst this
    rw [h1]
    exact RowPS.nil _ _
  · refine ⟨some ⟨g, 0, none⟩, cap, by rw [hl]; exact hv, by rw [hl]; exact hc, hm, Or.inr ⟨g, 0, rfl, (Array.getElem?_eq_some_iff.1 hg).1, hg0, ?_⟩⟩
    refine AtPS.mono (S := fun x => B ≤ x ∧ v.ownBlock ≠ some x) (fun x _ hx => hx.1) (atPS_of_cells (off := 0) (fun j u hj => ?_) he)
    have := ho.cells (g := g) (by rw [hv]; rfl) j u hj
    rw [add_none, Nat.zero_add] at this
    rw [Nat.zero_add]
    exact this
theorem OwnP.kept {B : Nat} {F : List Nat} {w w' : World} {v : Value} {l : List El} (h : OwnP B w v l) (hk : Kept F w w') (hF : ∀ x ∈ F, x < B) : OwnP B w' v l :=
  ⟨own_kept h.1 hk (fun k hk' hm => by have := (h.1.lt k hk').1; have := hF k hm; omega), fun e he => (h.2 e he).kept hk (fun x hx hS => by have := hF x hx; have := hS.1; omega)⟩
theorem OwnP.grow {B : Nat} {w w' : World} {v v' : Value} {l : List El} {e : El} (h : OwnP B w v l) (ho : w'.ownsRow B 62 7 v' (l.length + 1) (flatP l ++ cellsPt e.h e.tv e.pv)) (hg : w.grownBy w' v.ownBlock) (hl : v'.ownBlock = v.ownBlock ∨ v'.ownBlock = some w.heap.size) (he : ElPS (fun x => B ≤ x ∧ v.ownBlock ≠ some x) w e) : OwnP B w' v' (l ++ [e]) := by
  refine ⟨by rw [List.length_append, flatP_app]; simpa [flatP] using ho, fun x hx => ?_⟩
  have hx' : ElPS (fun x => B ≤ x ∧ v.ownBlock ≠ some x) w x := by
    rcases List.mem_append.1 hx with h1 | h1
    · exact h.2 x h1
    · have : x = e := by simpa using h1
      rw [this]; exact he
  have hk : Kept v.ownBlock.toList w w' := (Kept.refl _ w).grown hg (fun k hk => Or.inl (by simp [hk]))
  have h1 : ElPS (fun y => (B ≤ y ∧ v.ownBlock ≠ some y) ∧ v'.ownBlock ≠ some y) w x := hx'.mono (fun y hy hS => ⟨hS, by
    rcases hl with hl | hl
    · rw [hl]; exact hS.2
    · rw [hl]; intro e; cases e; omega⟩)
  exact (h1.kept hk (fun y hy hS => hS.1.2 (by simpa using hy))).mono (fun y _ hS => ⟨hS.1.1, hS.2⟩)

/-- 'append(row, x)': the row is the call's own, x any Part: what is made, and, if x is as it should be, that it is a row -/
theorem wpList_append_part (w : World) {ops : Array Oper} {rest : List Oper} {o : Oper} {a : Act} {Q : Exit → Act → World → Prop} (hgd : o.guard = none) (s x : Operand)
    (ho : o.op = .call { callee := .builtin .append, args := #[s, x], argTypes := #[22, 22] })
    {B : Nat} {va : Option Addr} {vn vc : Nat} {l : List El} {e : El} {b : Nat} (hs : a.eval s = .slice va vn vc) (hown : Hid (OwnP B w (.slice va vn vc) l)) (hvn : Hid (l.length = vn)) (hxv : a.eval x = .slice (some ⟨b, 0, none⟩) 1 1)
    (hb : Hid (∀ j u, (cellsPt e.h e.tv e.pv)[j]? = some u → w.cell? ((⟨b, 0, none⟩ : Addr).add j) = some u)) (hone : Hid (∀ u ∈ cellsPt e.h e.tv e.pv, u.oneCell' = true))
    (hl : Hid (vn ≤ 1099511627776)) (hB : Hid (B ≤ w.heap.size))
    (h : ∀ va' vc' w', Hid (ElPS (fun x => B ≤ x ∧ (Value.slice va vn vc).ownBlock ≠ some x) w e → OwnP B w' (.slice va' (vn + 1) vc') (l ++ [e])) → Hid (Kept (Value.slice va vn vc).ownBlock.toList w w') → wpList Try.prog ops Q rest (a.put o.dst (.slice va' (vn + 1) vc')) w') :
    wpList Try.prog ops Q (o :: rest) a w := by
  obtain ⟨i0, hi, hz0, hz1, hz2⟩ := info_parts infoPt
  have hvn' : l.length = vn := hvn
  have hl' : vn ≤ 1099511627776 := hl
  have ho1 : w.ownsRow B 62 7 (.slice va vn vc) vn (flatP l) := by have := (unhide hown).1; rw [hvn'] at this; exact this
  refine wpList_append_own_at w hgd s x 22 ho B 62 i0 _ 7 88 Try.underlying22 hi hz0 hz1 hz2 rfl (by decide) (.slice va vn vc) vn (flatP l) hs ho1 ⟨b, 0, none⟩ 1 1 (cellsPt e.h e.tv e.pv) hxv rfl hb hone (by unfold maxLen; omega) (by omega) hB ?_
  intro v' w' h1 h2 h3 h4
  obtain ⟨a', c', rfl⟩ := own_len h1
  refine h a' c' w' (hide (fun he => OwnP.grow (unhide hown) (by rw [hvn']; exact h1) h2 h4 he)) (hide ?_)
  exact (Kept.refl _ w).grown h2 (fun k hk => Or.inl (by simp [hk]))

end Go.Proofs.Ytigmofbammofbab
