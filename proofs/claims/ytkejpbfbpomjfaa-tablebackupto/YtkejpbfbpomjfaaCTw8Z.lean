/- Appends of bytes to bytes of the call's own. -/
import Derived.Test.YtkejpbfbpomjfaaCAwkZ
namespace Go.Proofs.Ytkejpbfbpomjfaa.tre
open Go.RowKit
set_option linter.unusedVariables false

theorem wpList_twin8 {wx : World} {ops : Array Oper} {rest : List Oper} {o : Oper} {a : Act} {Q : Exit → Act → World → Prop} (hgd : o.guard = none) (s x : Operand)
    (ho : o.op = .call { callee := .builtin .append, args := #[s, x], argTypes := #[27, 27] })
    (hs : a.eval s = .slice (some ⟨wx.heap.size, 0, none⟩) 0 0) (xv : Value) (ys : List Nat) (hxv : a.eval x = xv) (hx : Sees wx xv ys) (L : Nat) (hL : ys.length = L) (hl : L ≤ 1000000000000)
    (h : ∀ a' c' w', w'.ownsRow wx.heap.size 5 1 (.slice a' L c') L (u8s ys) → Kept [] wx w' → wpList Try.prog ops Q rest (a.put o.dst (.slice a' L c')) w') :
    wpList Try.prog ops Q (o :: rest) a (wx.alloc (.cells #[] 5)) := by
  obtain ⟨i0, hi, hz0, hz1, hz2⟩ := info_parts Try.info5
  refine wpList_append_sees (wx.alloc (.cells #[] 5)) hgd s x 27 ho wx.heap.size 5 i0 (.int .u8 0) Try.underlying27 hi hz0 hz1 hz2 rfl _ [] hs (World.ownsRow_made wx #[] 0 (Nat.le_refl _) (Nat.zero_le _) rfl) xv ys hxv (hx.kept ((Kept.refl [] wx).alloc _) (by simp)) (by simp; omega) (by simp) ?_
  intro v' w' hown hg hat
  rw [List.nil_append, hL] at hown
  obtain ⟨a', c', hv⟩ := own_len hown
  subst hv
  exact h a' c' w' hown (((Kept.refl [] wx).alloc _).grown hg (fun k hk => by simp [Value.ownBlock] at hk; right; omega))
/-- a byte more -/
theorem wpList_more8 {B : Nat} {wx : World} {ops : Array Oper} {rest : List Oper} {o : Oper} {a : Act} {Q : Exit → Act → World → Prop} (hgd : o.guard = none) (s x : Operand)
    (ho : o.op = .call { callee := .builtin .append, args := #[s, x], argTypes := #[27, 27] })
    {va : Option Addr} {vc : Nat} (L : Nat) (xs : List Nat) (hs : a.eval s = .slice va L vc) (hL : xs.length = L) (hown : Hid (wx.ownsRow B 5 1 (.slice va L vc) L (u8s xs))) (y : Nat) (hxv : a.eval x = .slice (some ⟨wx.heap.size, 0, none⟩) 1 1) (hl : L ≤ 1000000000000) (hB : B ≤ wx.heap.size)
    (h : ∀ a' c' w', w'.ownsRow B 5 1 (.slice a' (L + 1) c') (L + 1) (u8s (xs ++ [y])) → (∀ W, Kept [] W wx → W.heap.size ≤ B → Kept [] W w') → wpList Try.prog ops Q rest (a.put o.dst (.slice a' (L + 1) c')) w') :
    wpList Try.prog ops Q (o :: rest) a (wx.alloc (.cells #[.int .u8 (y : Int)] 5)) := by
  obtain ⟨i0, hi, hz0, hz1, hz2⟩ := info_parts Try.info5
  have ho' : wx.ownsRow B 5 1 (.slice va L vc) L (u8s xs) := hown
  refine wpList_append_sees (wx.alloc (.cells #[.int .u8 (y : Int)] 5)) hgd s x 27 ho B 5 i0 (.int .u8 0) Try.underlying27 hi hz0 hz1 hz2 rfl _ xs hs (by rw [hL]; exact own_kept ho' ((Kept.refl [] wx).alloc _) (by simp)) _ [y] hxv (lit1 wx y) (by simp; omega) (by simp; omega) ?_
  intro v' w' hown' hg hat
  rw [List.length_append, hL] at hown'
  obtain ⟨a', c', hv⟩ := own_len hown'
  subst hv
  refine h a' c' w' hown' (fun W hW hWB => (hW.alloc _).grown hg (fun k hk => ?_))
  right
  have := (ho'.lt k hk).1
  omega
end Go.Proofs.Ytkejpbfbpomjfaa.tre
