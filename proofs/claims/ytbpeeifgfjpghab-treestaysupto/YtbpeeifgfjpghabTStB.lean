/- TreeStays: one row more. -/
import Derived.Test.YtbpeeifgfjpghabTStA
namespace Go.Proofs.Ytbpeeifgfjpghab
open Go.RowKit Go.Shelf
set_option linter.unusedVariables false

theorem wpList_append_rows {w0 : World} (w : World) {ops : Array Oper} {rest : List Oper} {o : Oper} {a : Act} {Q : Exit → Act → World → Prop} (hgd : o.guard = none) (s x : Operand)
    (ho : o.op = .call { callee := .builtin .append, args := #[s, x], argTypes := #[26, 26] })
    {v : Value} {ts : List TI} (hs : a.eval s = v) (hk : Hid (Kept [] w0 w)) (hown : Hid (WRow w0.heap.size w v ts))
    {b : Nat} {u : Value} {t : TI} (hxv : a.eval x = .slice (some ⟨b, 0, none⟩) 1 1) (hb : Hid (Blk w b #[u] 27)) (hu : Hid (w.ownsRow w0.heap.size 3 1 u (flat t.list).length (ints (flat t.list))))
    (hl : Hid (ts.length + 1 ≤ 5864062014805))
    (h : ∀ va' n' vc' w', Hid (n' = ts.length + 1) → Hid (WRow w0.heap.size w' (.slice va' n' vc') (ts ++ [t])) → Hid (Kept [] w0 w') → wpList Try.prog ops Q rest (a.put o.dst (.slice va' n' vc')) w') :
    wpList Try.prog ops Q (o :: rest) a w := by
  obtain ⟨i0, hi, hz0, hz1, hz2⟩ := info_parts info_si
  obtain ⟨vs, h0, h1, h2⟩ := unhide hown
  have hk' : Kept [] w0 w := hk
  have hl' : ts.length + 1 ≤ 5864062014805 := hl
  obtain ⟨ua, uc, hue⟩ := own_len (unhide hu)
  refine wpList_append_own_at w hgd s x 26 ho w0.heap.size 27 i0 _ 1 24 Try.underlying26 hi hz0 hz1 hz2 rfl (by decide) v ts.length vs hs h1 ⟨b, 0, none⟩ 1 1 [u] hxv (by simp) (fun j y hj => ?_) (by
      intro y hy; simp at hy; subst hy; rw [hue]; rfl) (by unfold maxLen; omega) (by omega) hk'.size ?_
  · have hadd : (⟨b, 0, none⟩ : Addr).add j = ⟨b, j, none⟩ := by unfold Addr.add; split <;> simp_all
    rw [hadd, (unhide hb).cell j]
    simpa using hj
  · intro v' w' q1 q2 q3 q4
    obtain ⟨a', c', rfl⟩ := own_len q1
    exact h a' (ts.length + 1) c' w' rfl (WRow.push h0 q1 q2 h1 h2 (unhide hu)) (hk'.grown q2 (fun k hkk => Or.inr (h1.lt k hkk).1))
end Go.Proofs.Ytbpeeifgfjpghab
