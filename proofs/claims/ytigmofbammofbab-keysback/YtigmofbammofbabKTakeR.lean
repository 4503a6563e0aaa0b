/- A row at the beginning of some bytes; Decode. -/
import Derived.Test.YtigmofbammofbabKTakeL
namespace Go.Proofs.Ytigmofbammofbab
open Go.RowKit

/-- an element of a row that is being made -/
structure El where
  h : Hd
  tv : Value
  pv : Value
  p : Row
def flatE (l : List El) : List Value := l.flatMap fun e => cellsV e.h e.tv e.pv
def rowE : List El → Row
  | [] => .nil
  | e :: l => .cons e.h e.p (rowE l)
theorem rowE_len (l : List El) : (rowE l).len = l.length := by
  induction l with
  | nil => rfl
  | cons e l ih => simp [rowE, Row.len, ih]
theorem rowE_app (l m : List El) : rowE (l ++ m) = (rowE l).app (rowE m) := by
  induction l with
  | nil => rfl
  | cons e l ih => simp [rowE, Row.app, ih]
theorem flatE_app (l m : List El) : flatE (l ++ m) = flatE l ++ flatE m := by simp [flatE]
def ElOk (S : Nat → Prop) (w : World) (e : El) : Prop := e.h.ok ∧ SeesIn S w e.tv e.h.text ∧ RowV S w e.pv e.p
theorem ElOk.kept {S : Nat → Prop} {F : List Nat} {w w' : World} {e : El} (h : ElOk S w e) (hk : Kept F w w') (hS : ∀ x ∈ F, ¬ S x) : ElOk S w' e := ⟨h.1, h.2.1.kept hk hS, h.2.2.kept hk hS⟩
theorem ElOk.mono {S T : Nat → Prop} {w : World} {e : El} (h : ElOk S w e) (hS : ∀ x, x < w.heap.size → S x → T x) : ElOk T w e := ⟨h.1, h.2.1.mono hS, h.2.2.mono hS⟩

theorem at_of_cells {S : Nat → Prop} {w : World} {g off : Nat} {l : List El} (hc : ∀ j u, (flatE l)[j]? = some u → w.cell? ⟨g, off + j, none⟩ = some u) (he : ∀ e ∈ l, ElOk S w e) : AtV S w (rowE l) g off := by
  induction l generalizing off with
  | nil => trivial
  | cons e l ih =>
    have hf : flatE (e :: l) = cellsV e.h e.tv e.pv ++ flatE l := rfl
    obtain ⟨h1, h2, h3⟩ := he e (List.mem_cons_self ..)
    refine ⟨⟨h1, e.tv, e.pv, ?_, h2, h3⟩, ih ?_ (fun x hx => he x (List.mem_cons_of_mem _ hx))⟩
    · have hz : ∀ j (hj : j < 7), w.cell? ⟨g, off + j, none⟩ = some ((cellsV e.h e.tv e.pv)[j]'(by simp [cellsV]; omega)) := by
        intro j hj
        refine hc j _ ?_
        rw [hf, List.getElem?_append_left (by simp [cellsV]; omega), List.getElem?_eq_getElem]
      exact ⟨hz 0 (by omega), hz 1 (by omega), hz 2 (by omega), hz 3 (by omega), hz 4 (by omega), hz 5 (by omega), hz 6 (by omega)⟩
    · intro j u hj
      have := hc (7 + j) u (by rw [hf, List.getElem?_append_right (by simp [cellsV])]; simpa [cellsV] using hj)
      rw [← Nat.add_assoc] at this
      exact this

/-- a row of values of the call's own: B its base -/
def OwnV (B : Nat) (w : World) (v : Value) (l : List El) : Prop :=
  w.ownsRow B 48 7 v l.length (flatE l) ∧ ∀ e ∈ l, ElOk (fun x => B ≤ x ∧ v.ownBlock ≠ some x) w e
theorem OwnV.row {B : Nat} {w : World} {v : Value} {l : List El} (h : OwnV B w v l) : RowV (New B) w v (rowE l) := by
  obtain ⟨ho, he⟩ := h
  have hl := rowE_len l
  rcases ho.2 with ⟨h1, h2⟩ | ⟨g, cap, cur, hv, hg0, hg, hc, hm, hs, ht⟩
  · have : l = [] := List.eq_nil_of_length_eq_zero h2
    subst this
    rw [h1]
    exact RowV.nil _ _
  · refine ⟨some ⟨g, 0, none⟩, cap, by rw [hl]; exact hv, by rw [hl]; exact hc, hm, Or.inr ⟨g, 0, rfl, (Array.getElem?_eq_some_iff.1 hg).1, hg0, ?_⟩⟩
    refine (at_of_cells (off := 0) (fun j u hj => ?_) he).mono (fun x _ hx => hx.1)
    have := ho.cells (g := g) (by rw [hv]; rfl) j u hj
    have hadd : (⟨g, 0, none⟩ : Addr).add j = ⟨g, j, none⟩ := by unfold Addr.add; split <;> simp_all
    rw [hadd] at this
    rw [Nat.zero_add]
    exact this
theorem OwnV.kept {B : Nat} {w w' : World} {v : Value} {l : List El} (h : OwnV B w v l) (hk : Kept [] w w') : OwnV B w' v l :=
  ⟨own_kept h.1 hk (by simp), fun e he => (h.2 e he).kept hk (by simp)⟩
theorem OwnV.nil (B : Nat) (w : World) : OwnV B w (.slice none 0 0) [] := ⟨World.ownsRow_nil _ _ _ _, by simp⟩
theorem OwnV.grow {B : Nat} {w w' : World} {v v' : Value} {l : List El} {e : El} (h : OwnV B w v l) (ho : w'.ownsRow B 48 7 v' (l.length + 1) (flatE l ++ cellsV e.h e.tv e.pv)) (hg : w.grownBy w' v.ownBlock) (hl : v'.ownBlock = v.ownBlock ∨ v'.ownBlock = some w.heap.size) (he : ElOk (fun x => B ≤ x ∧ v.ownBlock ≠ some x) w e) : OwnV B w' v' (l ++ [e]) := by
  refine ⟨by rw [List.length_append, flatE_app]; simpa [flatE] using ho, fun x hx => ?_⟩
  have hx' : ElOk (fun x => B ≤ x ∧ v.ownBlock ≠ some x) w x := by
    rcases List.mem_append.1 hx with h1 | h1
    · exact h.2 x h1
    · have : x = e := by simpa using h1
      rw [this]; exact he
  have hk : Kept v.ownBlock.toList w w' := (Kept.refl _ w).grown hg (fun k hk => Or.inl (by simp [hk]))
  have h1 : ElOk (fun y => (B ≤ y ∧ v.ownBlock ≠ some y) ∧ v'.ownBlock ≠ some y) w x := hx'.mono (fun y hy hS => ⟨hS, by
    rcases hl with hl | hl
    · rw [hl]; exact hS.2
    · rw [hl]; intro e; cases e; omega⟩)
  exact (h1.kept hk (fun y hy hS => hS.1.2 (by simpa using hy))).mono (fun y _ hS => ⟨hS.1.1, hS.2⟩)

theorem info7p : (Try.prog.info? 48).map (fun i => (i.zero, i.size, i.bytes)) = some (some (.agg #[.int .i64 0, .bool false, .int .i64 0, .float .f64 0, .complex .f64 0 0, .slice none 0 0, .slice none 0 0]), 7, 96) := by kernel_rfl
theorem cells_seven_new (w : World) (x0 x1 x2 x3 x4 x5 x6 : Value) (t : TypeId) : ∀ j u, [x0, x1, x2, x3, x4, x5, x6][j]? = some u → (w.alloc (.cells #[x0, x1, x2, x3, x4, x5, x6] t)).cell? ((⟨w.heap.size, 0, none⟩ : Addr).add j) = some u := by
  intro j u hj
  have hadd : (⟨w.heap.size, 0, none⟩ : Addr).add j = ⟨w.heap.size, j, none⟩ := by unfold Addr.add; split <;> simp_all
  rw [hadd, (Blk.new w #[x0, x1, x2, x3, x4, x5, x6] t).cell]
  simpa using hj

/-- 'append(row, v)' -/
theorem wpList_append_val (w : World) {ops : Array Oper} {rest : List Oper} {o : Oper} {a : Act} {Q : Exit → Act → World → Prop} (hgd : o.guard = none) (s x : Operand)
    (ho : o.op = .call { callee := .builtin .append, args := #[s, x], argTypes := #[29, 29] })
    {B : Nat} {va : Option Addr} {vn vc : Nat} {l : List El} {e : El} {b : Nat} (hs : a.eval s = .slice va vn vc) (hown : Hid (OwnV B w (.slice va vn vc) l)) (hvn : Hid (l.length = vn)) (hxv : a.eval x = .slice (some ⟨b, 0, none⟩) 1 1)
    (hb : Hid (∀ j u, (cellsV e.h e.tv e.pv)[j]? = some u → w.cell? ((⟨b, 0, none⟩ : Addr).add j) = some u)) (hone : Hid (∀ u ∈ cellsV e.h e.tv e.pv, u.oneCell' = true))
    (he : Hid (ElOk (fun x => B ≤ x ∧ (Value.slice va vn vc).ownBlock ≠ some x) w e)) (hl : Hid (vn ≤ 1099511627776)) (hB : Hid (B ≤ w.heap.size))
    (h : ∀ va' vc' w', Hid (OwnV B w' (.slice va' (vn + 1) vc') (l ++ [e])) → Hid (Kept (Value.slice va vn vc).ownBlock.toList w w') → wpList Try.prog ops Q rest (a.put o.dst (.slice va' (vn + 1) vc')) w') :
    wpList Try.prog ops Q (o :: rest) a w := by
  obtain ⟨i0, hi, hz0, hz1, hz2⟩ := info_parts info7p
  have hvn' : l.length = vn := hvn
  have hl' : vn ≤ 1099511627776 := hl
  have ho1 : w.ownsRow B 48 7 (.slice va vn vc) vn (flatE l) := by have := (unhide hown).1; rw [hvn'] at this; exact this
  refine wpList_append_own_at w hgd s x 29 ho B 48 i0 _ 7 96 Try.underlying29 hi hz0 hz1 hz2 rfl (by decide) (.slice va vn vc) vn (flatE l) hs ho1 ⟨b, 0, none⟩ 1 1 (cellsV e.h e.tv e.pv) hxv rfl hb hone (by unfold maxLen; omega) (by omega) hB ?_
  intro v' w' h1 h2 h3 h4
  obtain ⟨a', c', rfl⟩ := own_len h1
  refine h a' c' w' (hide (OwnV.grow (unhide hown) (by rw [hvn']; exact h1) h2 h4 (unhide he))) (hide ?_)
  exact (Kept.refl _ w).grown h2 (fun k hk => Or.inl (by simp [hk]))
end Go.Proofs.Ytigmofbammofbab
