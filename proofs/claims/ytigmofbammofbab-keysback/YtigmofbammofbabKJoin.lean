/- A row of Parts behind another, in memory of the call's own. -/
import Derived.Test.YtigmofbammofbabKPart
namespace Go.Proofs.Ytigmofbammofbab
open Go.RowKit

def cellsPt (h : Hd) (tv pv : Value) : List Value := [.int .i64 h.kind, .bool h.b, .int .i64 h.n, .int .u64 (h.re : Int), .int .u64 (h.im : Int), tv, pv]
def flatP (l : List El) : List Value := l.flatMap fun e => cellsPt e.h e.tv e.pv
theorem flatP_app (l m : List El) : flatP (l ++ m) = flatP l ++ flatP m := by simp [flatP]
theorem flatP_len (l : List El) : (flatP l).length = l.length * 7 := by
  induction l with
  | nil => rfl
  | cons e l ih => simp only [flatP, List.flatMap_cons, List.length_append, List.length_cons] at *; simp [cellsPt] at *; omega
def ElP (w : World) (e : El) : Prop := (e.h.ok ∧ e.h.pr = e.h.re) ∧ Sees w e.tv e.h.text ∧ RowP w e.pv e.p
theorem ElP.kept {w w' : World} {e : El} (h : ElP w e) (hk : Kept [] w w') : ElP w' e := ⟨h.1, h.2.1.kept hk (Or.inr (by simp)), h.2.2.kept hk⟩
theorem atP_of_cells {w : World} {g off : Nat} {l : List El} (hc : ∀ j u, (flatP l)[j]? = some u → w.cell? ⟨g, off + j, none⟩ = some u) (he : ∀ e ∈ l, ElP w e) : AtP w (rowE l) g off := by
  induction l generalizing off with
  | nil => trivial
  | cons e l ih =>
    have hf : flatP (e :: l) = cellsPt e.h e.tv e.pv ++ flatP l := rfl
    obtain ⟨h1, h2, h3⟩ := he e (List.mem_cons_self ..)
    refine ⟨⟨h1, e.tv, e.pv, ?_, h2, h3⟩, ih ?_ (fun x hx => he x (List.mem_cons_of_mem _ hx))⟩
    · have hz : ∀ j (hj : j < 7), w.cell? ⟨g, off + j, none⟩ = some ((cellsPt e.h e.tv e.pv)[j]'(by simp [cellsPt]; omega)) := by
        intro j hj
        refine hc j _ ?_
        rw [hf, List.getElem?_append_left (by simp [cellsPt]; omega), List.getElem?_eq_getElem]
      exact ⟨hz 0 (by omega), hz 1 (by omega), hz 2 (by omega), hz 3 (by omega), hz 4 (by omega), hz 5 (by omega), hz 6 (by omega)⟩
    · intro j u hj
      have := hc (7 + j) u (by rw [hf, List.getElem?_append_right (by simp [cellsPt])]; simpa [cellsPt] using hj)
      rw [← Nat.add_assoc] at this
      exact this
theorem cells_of_atP {w : World} {r : Row} : ∀ {g off : Nat}, AtP w r g off → ∃ l : List El, rowE l = r ∧ (∀ j u, (flatP l)[j]? = some u → w.cell? ⟨g, off + j, none⟩ = some u) ∧ ∀ e ∈ l, ElP w e := by
  induction r with
  | nil => intro g off _; exact ⟨[], rfl, by simp [flatP], by simp⟩
  | cons h p r _ ihr =>
    intro g off ha
    rw [AtP_cons] at ha
    obtain ⟨⟨h1, tv, pv, hc, ht, hp⟩, hr⟩ := ha
    obtain ⟨l, e1, e2, e3⟩ := ihr hr
    refine ⟨⟨h, tv, pv, p⟩ :: l, by simp [rowE, e1], ?_, ?_⟩
    · intro j u hj
      have hf : flatP (⟨h, tv, pv, p⟩ :: l) = cellsPt h tv pv ++ flatP l := rfl
      rw [hf] at hj
      obtain ⟨c0, c1, c2, c3, c4, c5, c6⟩ := hc
      by_cases hj7 : j < 7
      · rw [List.getElem?_append_left (by simp [cellsPt]; omega)] at hj
        obtain rfl | rfl | rfl | rfl | rfl | rfl | rfl : j = 0 ∨ j = 1 ∨ j = 2 ∨ j = 3 ∨ j = 4 ∨ j = 5 ∨ j = 6 := by omega
        all_goals (simp [cellsPt] at hj; subst hj; assumption)
      · rw [List.getElem?_append_right (by simp [cellsPt]; omega)] at hj
        have hl : (cellsPt h tv pv).length = 7 := rfl
        rw [hl] at hj
        have := e2 (j - 7) u hj
        rw [show off + 7 + (j - 7) = off + j by omega] at this
        exact this
    · intro e he
      rcases List.mem_cons.1 he with rfl | he
      · exact ⟨h1, ht, hp⟩
      · exact e3 e he
/-- a row of Parts of the call's own -/
theorem rowP_own {w0 w : World} {B : Nat} {v : Value} {l : List El} {n : Nat} (ho : w.ownsRow B 62 7 v n (flatP l)) (hn : l.length = n) (he : ∀ e ∈ l, ElP w0 e) (hk : Kept [] w0 w) : RowP w v (rowE l) := by
  subst hn
  have hl := rowE_len l
  rcases ho.2 with ⟨h1, h2⟩ | ⟨g, cap, cur, hv, hg0, hg, hc, hm, hs, ht⟩
  · have : l = [] := List.eq_nil_of_length_eq_zero h2
    subst this
    rw [h1]
    exact ⟨none, 0, rfl, by simp [rowE, Row.len], by simp [maxLen], Or.inl rfl⟩
  · refine ⟨some ⟨g, 0, none⟩, cap, by rw [hl]; exact hv, by rw [hl]; exact hc, hm, Or.inr ⟨g, 0, rfl, (Array.getElem?_eq_some_iff.1 hg).1, ?_⟩⟩
    refine atP_of_cells (off := 0) (fun j u hj => ?_) (fun e h => (he e h).kept hk)
    have := ho.cells (g := g) (by rw [hv]; rfl) j u hj
    rw [add_none, Nat.zero_add] at this
    rw [Nat.zero_add]
    exact this
theorem infoPt : (Try.prog.info? 62).map (fun i => (i.zero, i.size, i.bytes)) = some (some (.agg #[.int .i64 0, .bool false, .int .i64 0, .int .u64 0, .int .u64 0, .slice none 0 0, .slice none 0 0]), 7, 88) := by kernel_rfl
theorem onecell_sees {w : World} {v : Value} {bs : List Nat} (h : Sees w v bs) : v.oneCell' = true := by obtain ⟨a, c, rfl, _⟩ := h; rfl
theorem onecell_row {w : World} {v : Value} {r : Row} (h : RowP w v r) : v.oneCell' = true := by obtain ⟨a, c, rfl, _⟩ := h; rfl
theorem onecell_flat {w : World} {l : List El} (h : ∀ e ∈ l, ElP w e) : ∀ u ∈ flatP l, u.oneCell' = true := by
  intro u hu
  obtain ⟨e, he, hu⟩ := List.mem_flatMap.1 hu
  obtain ⟨_, h2, h3⟩ := h e he
  simp [cellsPt] at hu
  rcases hu with rfl | rfl | rfl | rfl | rfl | rfl | rfl
  · rfl
  · rfl
  · rfl
  · rfl
  · rfl
  · exact onecell_sees h2
  · exact onecell_row h3

/-- 'append(dst, src...)' of Parts: dst is the call's own, src lay there at its start -/
theorem wpList_append_parts {w0 : World} (w : World) {ops : Array Oper} {rest : List Oper} {o : Oper} {a : Act} {Q : Exit → Act → World → Prop} (hgd : o.guard = none) (s x : Operand)
    (ho : o.op = .call { callee := .builtin .append, args := #[s, x], argTypes := #[22, 22] })
    {va : Option Addr} {vn vc : Nat} {l : List El} (hs : a.eval s = .slice va vn vc) (hk : Hid (Kept [] w0 w)) (hown : Hid (w.ownsRow w0.heap.size 62 7 (.slice va vn vc) vn (flatP l))) (hvn : Hid (l.length = vn)) {xv : Value} {r : Row} (hxv : a.eval x = xv) (hx : Hid (RowP w0 xv r))
    (hl : Hid (vn + r.len ≤ 1099511627776)) (N : Nat) (hN : Hid (vn + r.len = N))
    (h : ∀ va' vc' w' l', Hid (rowE l' = r ∧ ∀ e ∈ l', ElP w0 e) → Hid (w'.ownsRow w0.heap.size 62 7 (.slice va' N vc') N (flatP (l ++ l'))) → Hid (Kept [] w0 w') → wpList Try.prog ops Q rest (a.put o.dst (.slice va' N vc')) w') :
    wpList Try.prog ops Q (o :: rest) a w := by
  obtain ⟨i0, hi, hz0, hz1, hz2⟩ := info_parts infoPt
  have hN' : vn + r.len = N := hN
  have hl' : vn + r.len ≤ 1099511627776 := hl
  have ho1 : w.ownsRow w0.heap.size 62 7 (.slice va vn vc) vn (flatP l) := hown
  have hk' : Kept [] w0 w := hk
  obtain ⟨xa, xc, rfl, q1, q2, q3⟩ := unhide hx
  rcases q3 with rfl | ⟨b, off, rfl, hb, hat⟩
  · have hNv : N = vn := by simp [Row.len] at hN'; omega
    subst hNv
    have hr : (Builtin.append_ #[22, 22] o.type #[.slice va N vc, .slice xa Row.nil.len xc]).run Try.prog w = .ok (.slice va N vc) w := by
      rcases ho1.2 with ⟨h1, h0⟩ | ⟨g, cap, cur, h1, hbg, hg, hnc, hcm, hcs, htake⟩
      · cases h1
        cases xa <;> simp [Row.len, Builtin.append_, run_underlying Try.underlying22, sizeOf, typeInfo, hi, Builtin.lenOf, Builtin.firstCells, loadCells, loadCellsFrom]
      · cases h1
        have : N ≤ vc := hnc
        cases xa <;> simp [Row.len, Builtin.append_, run_underlying Try.underlying22, sizeOf, typeInfo, hi, Builtin.lenOf, Builtin.firstCells, this, storeCells, loadCells, loadCellsFrom]
    refine wpList_plain hgd fun K hK => ?_
    unfold Oper.wp execOp
    simp only [ho, resolve, invoke, builtin, Sem.run_bind, Sem.run_pure, Result.andThen_ok, List.map_toArray, List.map_cons, List.map_nil, hs, hxv, hr]
    exact hK _ _ (h va vc w [] ⟨rfl, by simp⟩ (by rw [List.append_nil]; exact ho1) hk')
  · obtain ⟨l', e1, e2, e3⟩ := cells_of_atP hat
    have hlen : l'.length = r.len := by rw [← e1, rowE_len]
    refine wpList_append_own_at w hgd s x 22 ho w0.heap.size 62 i0 _ 7 88 Try.underlying22 hi hz0 hz1 hz2 rfl (by decide) (.slice va vn vc) vn (flatP l) hs ho1 ⟨b, off, none⟩ r.len xc (flatP l') hxv (by rw [flatP_len, hlen]) (fun j u hj => ?_) (onecell_flat e3) (by unfold maxLen; omega) (by omega) hk'.size ?_
    · rw [add_none]
      exact (hk'.cell (p := ⟨b, off + j, none⟩) hb (by simp)).trans (e2 j u hj)
    · intro v' w' h1 h2 h3 h4
      obtain ⟨a', c', rfl⟩ := own_len h1
      have h5 : w'.ownsRow w0.heap.size 62 7 (.slice a' N c') N (flatP (l ++ l')) := by
        rw [flatP_app, ← hN']
        exact h1
      rw [hN']
      exact h a' c' w' l' ⟨e1, e3⟩ h5 (hk'.grown h2 (fun k hkk => Or.inr (ho1.lt k hkk).1))
end Go.Proofs.Ytigmofbammofbab
