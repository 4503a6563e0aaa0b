/- Ops in a row of the call's own. -/
import Derived.Test.YtkejpbfbpomjfaaPkBL
import Derived.Maps.AppendAt
namespace Go.Proofs.Ytkejpbfbpomjfaa.tre
open Go.RowKit

theorem info_parts {o : Option TypeInfo} {z : Option Value} {s b : Nat} (h : o.map (fun i => (i.zero, i.size, i.bytes)) = some (z, s, b)) : ∃ i, o = some i ∧ i.zero = z ∧ i.size = s ∧ i.bytes = b := by
  cases o with
  | none => cases h
  | some i => simp at h; exact ⟨i, rfl, h.1, h.2.1, h.2.2⟩
theorem infoOp4 : (Try.prog.info? 34).map (fun i => (i.zero, i.size, i.bytes)) = some (some (.agg #[.int .i64 0, .slice none 0 0, .slice none 0 0, .int .i64 0]), 4, 64) := by kernel_rfl
/-- an op with its lists -/
structure Oe where
  o : Opm
  ks : Value
  vs : Value
def oec (e : Oe) : List Value := [.int .i64 e.o.kind, e.ks, e.vs, .int .i64 e.o.rev]
def flatO (l : List Oe) : List Value := l.flatMap oec
theorem flatO_app (l m : List Oe) : flatO (l ++ m) = flatO l ++ flatO m := by simp [flatO]
theorem flatO_len (l : List Oe) : (flatO l).length = l.length * 4 := by
  induction l with
  | nil => rfl
  | cons e l ih => simp only [flatO, List.flatMap_cons, List.length_append, List.length_cons] at *; simp [oec] at *; omega
def OeP (w : World) (e : Oe) : Prop := OpAt w e.o e.ks e.vs ∧ Low w e.ks ∧ Low w e.vs
theorem Low.grow {w w' : World} {v : Value} (h : Low w v) (hs : w.heap.size ≤ w'.heap.size) : Low w' v := by
  rcases h with h | h
  · exact Or.inl h
  · exact Or.inr fun x hx => Nat.lt_of_lt_of_le (h x hx) hs
theorem OeP.kept {w w' : World} {e : Oe} (h : OeP w e) (hk : Kept [] w w') : OeP w' e := ⟨h.1.kept hk, h.2.1.grow hk.size, h.2.2.grow hk.size⟩
theorem OpsIn.kept {w w' : World} {v : Value} {os : List Opm} (h : OpsIn w v os) (hk : Kept [] w w') : OpsIn w' v os := by
  obtain ⟨a, cap, rfl, h1, h2⟩ := h
  refine ⟨a, cap, rfl, h1, fun k o ho => ?_⟩
  obtain ⟨b, off, ks, vs, rfl, h3, h4, h5, h6, h7⟩ := h2 k o ho
  exact ⟨b, off, ks, vs, rfl, Nat.lt_of_lt_of_le h3 hk.size, fun i u hu => (hk.cell (p := ⟨b, _, none⟩) h3 (by simp)).trans (h4 i u hu), h5.kept hk, h6.grow hk.size, h7.grow hk.size⟩
theorem flat_get : ∀ {l : List Oe} {k j : Nat} {e : Oe}, l[k]? = some e → j < 4 → (flatO l)[k * 4 + j]? = (oec e)[j]?
  | x :: l, 0, j, e, h, hj => by
    simp at h
    subst h
    have hf : flatO (x :: l) = oec x ++ flatO l := rfl
    rw [hf, Nat.zero_mul, Nat.zero_add, List.getElem?_append_left (by simp [oec]; omega)]
  | x :: l, k + 1, j, e, h, hj => by
    have hf : flatO (x :: l) = oec x ++ flatO l := rfl
    have hl : (oec x).length = 4 := rfl
    rw [hf, List.getElem?_append_right (by rw [hl]; omega), hl, show (k + 1) * 4 + j - 4 = k * 4 + j by omega]
    exact flat_get (by simpa using h) hj
theorem flat_from {l : List Oe} {j : Nat} {u : Value} (h : (flatO l)[j]? = some u) : ∃ e, l[j / 4]? = some e ∧ (oec e)[j % 4]? = some u := by
  have hj : j < l.length * 4 := by have := (List.getElem?_eq_some_iff.1 h).1; rwa [flatO_len] at this
  have hd : j / 4 < l.length := by omega
  refine ⟨l[j / 4], List.getElem?_eq_getElem hd, ?_⟩
  rw [← flat_get (List.getElem?_eq_getElem hd) (Nat.mod_lt j (by omega)), show j / 4 * 4 + j % 4 = j by omega]
  exact h
/-- the cells of ops that came in -/
theorem ops_cells {w : World} {v : Value} {os : List Opm} (h : OpsIn w v os) : ∃ a cap, v = .slice a os.length cap ∧ ∃ l : List Oe, l.map (·.o) = os ∧ (∀ e ∈ l, OeP w e) ∧ (os = [] ∨ ∃ b off, a = some ⟨b, off, none⟩ ∧ b < w.heap.size ∧ ∀ j u, (flatO l)[j]? = some u → w.cell? ⟨b, off + j, none⟩ = some u) := by
  obtain ⟨a, cap, rfl, -, h2⟩ := h
  refine ⟨a, cap, rfl, ?_⟩
  by_cases h0 : os.length = 0
  · have := List.eq_nil_of_length_eq_zero h0
    subst this
    exact ⟨[], rfl, by simp, Or.inl rfl⟩
  · obtain ⟨b, off, -, -, rfl, hb, -⟩ := h2 0 os[0] (List.getElem?_eq_getElem (by omega))
    have hex : ∀ i, ∃ z : Value × Value, ∀ o, os[i]? = some o → w.rangeAt b (off + i * 4) [.int .i64 o.kind, z.1, z.2, .int .i64 o.rev] ∧ OpAt w o z.1 z.2 ∧ Low w z.1 ∧ Low w z.2 := by
      intro i
      cases hi : os[i]? with
      | none => exact ⟨(.bool false, .bool false), fun o ho => by cases ho⟩
      | some o =>
        obtain ⟨b', off', ks, vs, e, _, h4, h5, h6, h7⟩ := h2 i o hi
        cases e
        exact ⟨(ks, vs), fun o' ho => by cases ho; exact ⟨h4, h5, h6, h7⟩⟩
    obtain ⟨f, hf⟩ := Classical.axiomOfChoice hex
    have hget : ∀ k o, os[k]? = some o → (os.zipIdx.map fun p => (⟨p.1, (f p.2).1, (f p.2).2⟩ : Oe))[k]? = some (⟨o, (f k).1, (f k).2⟩ : Oe) := by
      intro k o ho
      rw [List.getElem?_map, List.getElem?_zipIdx, ho]
      simp
    refine ⟨os.zipIdx.map fun p => (⟨p.1, (f p.2).1, (f p.2).2⟩ : Oe), ?_, ?_, Or.inr ⟨b, off, rfl, hb, ?_⟩⟩
    · rw [List.map_map]
      exact (List.map_congr_left (fun _ _ => rfl)).trans (List.zipIdx_map_fst 0 os)
    · intro e he
      obtain ⟨k, hk⟩ := List.mem_iff_getElem?.1 he
      have hk2 : k < os.length := by have := (List.getElem?_eq_some_iff.1 hk).1; simpa using this
      have := hget k os[k] (List.getElem?_eq_getElem hk2)
      rw [hk] at this
      cases this
      exact (hf k os[k] (List.getElem?_eq_getElem hk2)).2
    · intro j u hu
      obtain ⟨e, he, hc⟩ := flat_from hu
      have hk2 : j / 4 < os.length := by have := (List.getElem?_eq_some_iff.1 he).1; simpa using this
      have := hget (j / 4) os[j / 4] (List.getElem?_eq_getElem hk2)
      rw [he] at this
      cases this
      have h9 := (hf (j / 4) os[j / 4] (List.getElem?_eq_getElem hk2)).1 (j % 4) u hc
      rw [show off + j / 4 * 4 + j % 4 = off + j by omega] at h9
      exact h9
theorem addN (b off j : Nat) : (⟨b, off, none⟩ : Addr).add j = ⟨b, off + j, none⟩ := by unfold Addr.add; split <;> simp_all
/-- a row of ops of the call's own -/
theorem ops_own {w0 w : World} {B : Nat} {v : Value} {l : List Oe} {n : Nat} (ho : w.ownsRow B 34 4 v n (flatO l)) (hn : l.length = n) (he : ∀ e ∈ l, OeP w0 e) (hk : Kept [] w0 w) : OpsIn w v (l.map (·.o)) := by
  subst hn
  rcases ho.2 with ⟨h1, h2⟩ | ⟨g, cap, cur, hv, hg0, hg, hc, hm, hs, ht⟩
  · have : l = [] := List.eq_nil_of_length_eq_zero h2
    subst this
    exact ⟨none, 0, h1, by simp, fun k o h => by simp at h⟩
  · refine ⟨some ⟨g, 0, none⟩, cap, by rw [List.length_map]; exact hv, by rw [List.length_map]; unfold maxLen at hm; omega, fun k o hko => ?_⟩
    rw [List.getElem?_map, Option.map_eq_some_iff] at hko
    obtain ⟨e, hl, rfl⟩ := hko
    have hp := (he e (List.mem_of_getElem? hl)).kept hk
    refine ⟨g, 0, e.ks, e.vs, rfl, (Array.getElem?_eq_some_iff.1 hg).1, fun j u hj => ?_, hp.1, hp.2.1, hp.2.2⟩
    have hj4 : j < 4 := (List.getElem?_eq_some_iff.1 hj).1
    have := ho.cells (g := g) (by rw [hv]; rfl) (k * 4 + j) u (by rw [flat_get hl hj4]; exact hj)
    rw [addN, ← Nat.add_assoc] at this
    exact this
theorem onecell_wide {w : World} {v : Value} {bs : List Nat} (h : Wide w v bs) : v.oneCell' = true := by obtain ⟨a, c, rfl⟩ := wide_len h; rfl
theorem onecell_flat {w : World} {l : List Oe} (h : ∀ e ∈ l, OeP w e) : ∀ u ∈ flatO l, u.oneCell' = true := by
  intro u hu
  obtain ⟨e, he, hu⟩ := List.mem_flatMap.1 hu
  have h1 := (h e he).1
  simp [oec] at hu
  rcases hu with rfl | rfl | rfl | rfl
  · rfl
  · exact onecell_wide h1.k
  · exact onecell_wide h1.v
  · rfl
theorem own_nilO {w1 : World} {B : Nat} (hB : B ≤ w1.heap.size) : (w1.alloc (.cells #[] 34)).ownsRow B 34 4 (.slice (some ⟨w1.heap.size, 0, none⟩) 0 0) 0 (flatO []) :=
  ⟨by simp [flatO], Or.inr ⟨w1.heap.size, 0, #[], rfl, hB, heap_alloc_new w1 _, by simp, by simp [maxLen], by simp, by simp [flatO]⟩⟩
/-- 'append(dst, src...)' of ops: dst is the call's own, src lay there at its start -/
theorem wpList_append_ops {w0 : World} (w : World) {ops : Array Oper} {rest : List Oper} {o : Oper} {a : Act} {Q : Exit → Act → World → Prop} (hgd : o.guard = none) (s x : Operand)
    (ho : o.op = .call { callee := .builtin .append, args := #[s, x], argTypes := #[22, 22] })
    {va : Option Addr} {vn vc : Nat} {l : List Oe} (hs : a.eval s = .slice va vn vc) (hk : Hid (Kept [] w0 w)) (hown : Hid (w.ownsRow w0.heap.size 34 4 (.slice va vn vc) vn (flatO l))) {xv : Value} {r : List Opm} (hxv : a.eval x = xv) (hx : Hid (OpsIn w0 xv r))
    (N : Nat) (hN : Hid (vn + r.length = N)) (hl : Hid (N ≤ 1099511627776))
    (h : ∀ va' vc' w' l', Hid (l'.map (·.o) = r ∧ ∀ e ∈ l', OeP w0 e) → Hid (w'.ownsRow w0.heap.size 34 4 (.slice va' N vc') N (flatO (l ++ l'))) → Hid (Kept [] w0 w') → wpList Try.prog ops Q rest (a.put o.dst (.slice va' N vc')) w') :
    wpList Try.prog ops Q (o :: rest) a w := by
  obtain ⟨i0, hi, hz0, hz1, hz2⟩ := info_parts infoOp4
  have hN' : vn + r.length = N := hN
  have hl' : N ≤ 1099511627776 := hl
  have ho1 : w.ownsRow w0.heap.size 34 4 (.slice va vn vc) vn (flatO l) := hown
  have hk' : Kept [] w0 w := hk
  obtain ⟨xa, xc, rfl, l', e1, e3, q3⟩ := ops_cells (unhide hx)
  rcases q3 with rfl | ⟨b, off, rfl, hb, e2⟩
  · have hNv : N = vn := by simp at hN'; omega
    subst hNv
    have hr : (Builtin.append_ #[22, 22] o.type #[.slice va N vc, .slice xa ([] : List Opm).length xc]).run Try.prog w = .ok (.slice va N vc) w := by
      rcases ho1.2 with ⟨h1, h0⟩ | ⟨g, cap, cur, h1, hbg, hg, hnc, hcm, hcs, htake⟩
      · cases h1
        cases xa <;> simp [Builtin.append_, run_underlying Try.underlying22, sizeOf, typeInfo, hi, Builtin.lenOf, Builtin.firstCells, loadCells, loadCellsFrom]
      · cases h1
        have : N ≤ vc := hnc
        cases xa <;> simp [Builtin.append_, run_underlying Try.underlying22, sizeOf, typeInfo, hi, Builtin.lenOf, Builtin.firstCells, this, storeCells, loadCells, loadCellsFrom]
    refine wpList_plain hgd fun K hK => ?_
    unfold Oper.wp execOp
    simp only [ho, resolve, invoke, builtin, Sem.run_bind, Sem.run_pure, Result.andThen_ok, List.map_toArray, List.map_cons, List.map_nil, hs, hxv, hr]
    exact hK _ _ (h va vc w [] ⟨rfl, by simp⟩ (by rw [List.append_nil]; exact ho1) hk')
  · have hlen : l'.length = r.length := by rw [← e1, List.length_map]
    refine wpList_append_own_at w hgd s x 22 ho w0.heap.size 34 i0 _ 4 64 Try.underlying22 hi hz0 hz1 hz2 rfl (by decide) (.slice va vn vc) vn (flatO l) hs ho1 ⟨b, off, none⟩ r.length xc (flatO l') hxv (by rw [flatO_len, hlen]) (fun j u hj => ?_) (onecell_flat e3) (by unfold maxLen; omega) (by omega) hk'.size ?_
    · rw [addN]
      exact (hk'.cell (p := ⟨b, off + j, none⟩) hb (by simp)).trans (e2 j u hj)
    · intro v' w' h1 h2 h3 h4
      obtain ⟨a', c', rfl⟩ := own_len h1
      have h5 : w'.ownsRow w0.heap.size 34 4 (.slice a' N c') N (flatO (l ++ l')) := by
        rw [flatO_app, ← hN']
        exact h1
      rw [hN']
      exact h a' c' w' l' ⟨e1, e3⟩ h5 (hk'.grown h2 (fun k hkk => Or.inr (ho1.lt k hkk).1))
end Go.Proofs.Ytkejpbfbpomjfaa.tre
