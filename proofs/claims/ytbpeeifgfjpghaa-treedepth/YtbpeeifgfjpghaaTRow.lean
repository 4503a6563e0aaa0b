/- A slice of trees of the call's own. -/
import Derived.Test.YtbpeeifgfjpghaaTFam
namespace Go.Proofs.Ytbpeeifgfjpghaa
open Go.RowKit
set_option linter.unusedVariables false

theorem info_pt : (Try.prog.info? 55).map (fun i => (i.zero, i.size, i.bytes)) = some (some (.pointer none), 1, 8) := by kernel_rfl

/-- trees one by one -/
def All2 (w : World) : List (Option Addr) → List TI → Prop
  | [], [] => True
  | q :: qs, t :: ts => Tt w q t ∧ All2 w qs ts
  | _, _ => False
theorem All2.length {w : World} : ∀ {qs : List (Option Addr)} {ts : List TI}, All2 w qs ts → qs.length = ts.length
  | [], [], _ => rfl
  | q :: qs, t :: ts, h => by simp [All2.length h.2]
  | [], _ :: _, h => h.elim
  | _ :: _, [], h => h.elim
theorem All2.imp {w w' : World} (f : ∀ q t, Tt w q t → Tt w' q t) : ∀ {qs : List (Option Addr)} {ts : List TI}, All2 w qs ts → All2 w' qs ts
  | [], [], _ => trivial
  | q :: qs, t :: ts, h => ⟨f q t h.1, All2.imp f h.2⟩
  | [], _ :: _, h => h.elim
  | _ :: _, [], h => h.elim
theorem All2.app {w : World} {qs' : List (Option Addr)} {ts' : List TI} (h' : All2 w qs' ts') : ∀ {qs : List (Option Addr)} {ts : List TI}, All2 w qs ts → All2 w (qs ++ qs') (ts ++ ts')
  | [], [], _ => h'
  | q :: qs, t :: ts, h => ⟨h.1, All2.app h' h.2⟩
  | [], _ :: _, h => h.elim
  | _ :: _, [], h => h.elim
theorem All2.get {w : World} : ∀ {qs : List (Option Addr)} {ts : List TI}, All2 w qs ts → ∀ (i : Nat) (hi : i < ts.length), ∃ q, qs[i]? = some q ∧ Tt w q ts[i]
  | [], [], _, i, hi => by simp at hi
  | q :: qs, t :: ts, h, 0, _ => ⟨q, rfl, h.1⟩
  | q :: qs, t :: ts, h, i + 1, hi => by simpa using All2.get h.2 i (by simpa using hi)
  | [], _ :: _, h, _, _ => h.elim
  | _ :: _, [], h, _, _ => h.elim

/-- blocks of trees are kept where only a row of trees is written -/
theorem Nd.grown {w w' : World} {row : Option Nat} {t : TI} {p : Option Addr} (h : Nd w p t) (hg : w.grownBy w' row) (hr : ∀ g, row = some g → ∃ cs fr, w.heap[g]? = some (.cells cs 55 fr)) : Nd w' p t := by
  induction t generalizing p with
  | nil => exact h
  | node l k x r ihl ihr =>
    obtain ⟨b, pl, pr, h1, h2, h3, h4⟩ := h
    refine ⟨b, pl, pr, h1, ?_, ihl h3, ihr h4⟩
    refine (hg.block b h2.lt ?_).trans h2
    intro e
    obtain ⟨cs, fr, hc⟩ := hr b e.symm
    unfold Blk at h2
    rw [h2] at hc
    simp at hc
theorem Tt.grown {w w' : World} {row : Option Nat} {t : TI} {q : Option Addr} (h : Tt w q t) (hg : w.grownBy w' row) (hr : ∀ g, row = some g → ∃ cs fr, w.heap[g]? = some (.cells cs 55 fr)) : Tt w' q t := by
  rcases h with h | ⟨b, p, h1, h2, h3⟩
  · exact Or.inl h
  · refine Or.inr ⟨b, p, h1, ?_, h3.grown hg hr⟩
    refine (hg.block b h2.lt ?_).trans h2
    intro e
    obtain ⟨cs, fr, hc⟩ := hr b e.symm
    unfold Blk at h2
    rw [h2] at hc
    simp at hc

/-- a slice of these trees, of the call's own -/
def TRow (base : Nat) (w : World) (v : Value) (ts : List TI) : Prop := ∃ qs, All2 w qs ts ∧ w.ownsRow base 55 1 v ts.length (qs.map Value.pointer)
theorem TRow.kept {base : Nat} {w w' : World} {v : Value} {ts : List TI} (h : TRow base w v ts) (hk : Kept [] w w') : TRow base w' v ts := by
  obtain ⟨qs, h1, h2⟩ := h
  exact ⟨qs, h1.imp (fun _ _ hx => hx.kept hk), own_kept h2 hk (by simp)⟩
theorem TRow.val {base : Nat} {w : World} {v : Value} {ts : List TI} (h : TRow base w v ts) : ∃ a cap, v = .slice a ts.length cap := by
  obtain ⟨qs, h1, h2⟩ := h
  exact own_len h2
/-- the tree at a place -/
theorem TRow.get {base : Nat} {w : World} {a : Option Addr} {n cap : Nat} {ts : List TI} (h : TRow base w (.slice a n cap) ts) (i : Nat) (hi : i < ts.length) :
    n = ts.length ∧ ∃ g q, a = some ⟨g, 0, none⟩ ∧ w.cell? ⟨g, i, none⟩ = some (.pointer q) ∧ Tt w q ts[i] := by
  obtain ⟨qs, h1, h2⟩ := h
  obtain ⟨q, hq, ht⟩ := h1.get i hi
  rcases h2.2 with ⟨e1, e2⟩ | ⟨g, cap', cur, e1, hg, hh, r⟩
  · omega
  · cases e1
    refine ⟨rfl, g, q, rfl, ?_, ht⟩
    have := h2.cells (g := g) rfl i (.pointer q) (by simp [hq])
    have hadd : (⟨g, 0, none⟩ : Addr).add i = ⟨g, i, none⟩ := by unfold Addr.add; split <;> simp_all
    rw [hadd] at this
    exact this

/-- 'append(l, t, ..)': trees of a new slice behind a row of the call's own -/
theorem wpList_append_trees {w0 : World} (w : World) {ops : Array Oper} {rest : List Oper} {o : Oper} {a : Act} {Q : Exit → Act → World → Prop} (hgd : o.guard = none) (s x : Operand)
    (ho : o.op = .call { callee := .builtin .append, args := #[s, x], argTypes := #[26, 26] })
    {v : Value} {ts : List TI} (hs : a.eval s = v) (hk : Hid (Kept [] w0 w)) (hown : Hid (TRow w0.heap.size w v ts))
    {b m c : Nat} (hxv : a.eval x = .slice (some ⟨b, 0, none⟩) m c) {qs' : List (Option Addr)} {ts' : List TI} (hb : Hid (Blk w b (qs'.map Value.pointer).toArray 55)) (hm : qs'.length = m) (hts : Hid (All2 w qs' ts'))
    (hl : Hid (ts.length + m ≤ 17592186044416))
    (h : ∀ va' n' vc' w', Hid (n' = ts.length + m) → Hid (TRow w0.heap.size w' (.slice va' n' vc') (ts ++ ts')) → Hid (Kept [] w0 w') → wpList Try.prog ops Q rest (a.put o.dst (.slice va' n' vc')) w') :
    wpList Try.prog ops Q (o :: rest) a w := by
  obtain ⟨i0, hi, hz0, hz1, hz2⟩ := info_parts info_pt
  obtain ⟨qs, h1, h2⟩ := unhide hown
  have hk' : Kept [] w0 w := hk
  have hl' : ts.length + m ≤ 17592186044416 := hl
  have hlen := h1.length
  have hlen' := (unhide hts).length
  refine wpList_append_own_at w hgd s x 26 ho w0.heap.size 55 i0 _ 1 8 Try.underlying26 hi hz0 hz1 hz2 rfl (by decide) v ts.length (qs.map Value.pointer) hs h2 ⟨b, 0, none⟩ m c (qs'.map Value.pointer) hxv (by simp [hm]) (fun j u hj => ?_) (by
      intro u hu
      obtain ⟨q, _, rfl⟩ := List.mem_map.1 hu
      rfl) (by unfold maxLen; omega) (by omega) hk'.size ?_
  · have hadd : (⟨b, 0, none⟩ : Addr).add j = ⟨b, j, none⟩ := by unfold Addr.add; split <;> simp_all
    rw [hadd, (unhide hb).cell j]
    simpa using hj
  · intro v' w' q1 q2 q3 q4
    obtain ⟨a', c', rfl⟩ := own_len q1
    have hrow : ∀ g, v.ownBlock = some g → ∃ cs fr, w.heap[g]? = some (.cells cs 55 fr) := by
      intro g hg
      rcases h2.2 with ⟨e1, e2⟩ | ⟨g', cap', cur, e1, _, hh, _⟩
      · rw [e1] at hg; cases hg
      · rw [e1] at hg
        cases hg
        exact ⟨_, _, hh⟩
    refine h a' (ts.length + m) c' w' rfl ⟨qs ++ qs', ?_, ?_⟩ (hk'.grown q2 (fun k hkk => Or.inr (h2.lt k hkk).1))
    · exact All2.app ((unhide hts).imp (fun _ _ hx => hx.grown q2 hrow)) (h1.imp (fun _ _ hx => hx.grown q2 hrow))
    · rw [List.length_append, ← hlen', hm, List.map_append]
      exact q1
end Go.Proofs.Ytbpeeifgfjpghaa
