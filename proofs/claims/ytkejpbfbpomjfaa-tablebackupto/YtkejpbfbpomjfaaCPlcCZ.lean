/- The law's sameAnswer, round; rows that grow by one. -/
import Derived.Test.YtkejpbfbpomjfaaCPlcPZ
namespace Go.Proofs.Ytkejpbfbpomjfaa.tre
open Go.RowKit

set_option maxRecDepth 100000 in
set_option maxHeartbeats 1000000 in
theorem sameAnswer_yes {w : World} {k1 v1 k2 v2 : Value} {a c : List Nat} (d : Bool) (r t : Int) (h1 : Wide w k1 a) (h2 : Wide w v1 c) (h3 : Wide w k2 a) (h4 : Wide w v2 c) (la : a.length ≤ 140737488355328) (lc : c.length ≤ 140737488355328) :
    Calls Try.prog 11 #[.agg #[.bool d, k1, v1, .int .i64 r, .int .i64 t], .agg #[.bool d, k2, v2, .int .i64 r, .int .i64 t]] w fun e w' => e = .returned (.bool true) ∧ Kept [] w w' := by
  have HS1 : Hid (∀ W, Kept [] w W → _) := hide (fun W (hk : Kept [] w W) => same_full (h1.kept hk) (h3.kept hk) la)
  have HS2 : Hid (∀ W, Kept [] w W → _) := hide (fun W (hk : Kept [] w W) => same_full (h2.kept hk) (h4.kept hk) lc)
  simp only [decide_true] at HS1 HS2
  obtain ⟨xa, xc, rfl⟩ := wide_len h1
  obtain ⟨ya, yc, rfl⟩ := wide_len h2
  obtain ⟨za, zc, rfl⟩ := wide_len h3
  obtain ⟨ua, uc, rfl⟩ := wide_len h4
  clear h1 h2 h3 h4
  have HB1 : Hid (Blk ((w.alloc (.cells #[.bool d, .slice xa a.length xc, .slice ya c.length yc, .int .i64 r, .int .i64 t] 29)).alloc (.cells #[.bool d, .slice za a.length zc, .slice ua c.length uc, .int .i64 r, .int .i64 t] 29)) w.heap.size #[.bool d, .slice xa a.length xc, .slice ya c.length yc, .int .i64 r, .int .i64 t] 29) := hide ((Blk.new w _ _).alloc _)
  have HB2 : Hid (Blk ((w.alloc (.cells #[.bool d, .slice xa a.length xc, .slice ya c.length yc, .int .i64 r, .int .i64 t] 29)).alloc (.cells #[.bool d, .slice za a.length zc, .slice ua c.length uc, .int .i64 r, .int .i64 t] 29)) (w.heap.size + 1) #[.bool d, .slice za a.length zc, .slice ua c.length uc, .int .i64 r, .int .i64 t] 29) := hide (new2 w _ _ _)
  generalize a.length = la' at *
  generalize c.length = lc' at *
  have hdd : (d == d) = true := by cases d <;> rfl
  go_enter Try.func11, Try.ntmps11
  go_wp2_with (first
    | (go_at_call 17; refine (unhide HS1 _ (((Kept.refl [] w).alloc _).alloc _)).mono ?_; rintro e w1 ⟨rfl, hk1⟩
       have HK1 := hide ((((Kept.refl [] w).alloc _).alloc _).step hk1)
       have HB3 := hide ((unhide HB1).kept hk1 (by simp))
       have HB4 := hide ((unhide HB2).kept hk1 (by simp))
       obtain ⟨⟨p0, p1, p2, p3, p4⟩, -⟩ := box5 (unhide HB3)
       obtain ⟨⟨q0, q1, q2, q3, q4⟩, -⟩ := box5 (unhide HB4)
       clear hk1 HS1)
    | (go_at_call 17; refine (unhide HS2 _ (unhide HK1)).mono ?_; rintro e w2 ⟨rfl, hk2⟩
       have HK2 := hide ((unhide HK1).step hk2)
       obtain ⟨⟨s0, s1, s2, s3, s4⟩, -⟩ := box5 ((unhide HB3).kept hk2 (by simp))
       obtain ⟨⟨t0, t1, t2, t3, t4⟩, -⟩ := box5 ((unhide HB4).kept hk2 (by simp))
       clear hk2 HS2))
  go_ret
  exact ⟨rfl, unhide HK2⟩
/-- 'append(rows, op)' -/
theorem wpList_push_op {w X : World} {ops : Array Oper} {rest : List Oper} {o : Oper} {a : Act} {Q : Exit → Act → World → Prop} (hgd : o.guard = none) (s x : Operand)
    (ho : o.op = .call { callee := .builtin .append, args := #[s, x], argTypes := #[22, 22] })
    {va : Option Addr} {n vc : Nat} {l : List Oe} (hs : a.eval s = .slice va n vc) (hown : Hid (X.ownsRow w.heap.size 34 4 (.slice va n vc) n (flatO l))) (e : Oe) (he : OeP w e) {g : Nat} (hxv : a.eval x = .slice (some ⟨g, 0, none⟩) 1 1) (hb : Hid (Blk X g (oec e).toArray 34)) (hn : n ≤ 1099511627776) (hsz : w.heap.size ≤ X.heap.size)
    (h : ∀ va' vc' Y, Hid (Y.ownsRow w.heap.size 34 4 (.slice va' (n + 1) vc') (n + 1) (flatO l ++ oec e) ∧ X.grownBy Y (Value.slice va n vc).ownBlock ∧ ((Value.slice va' (n + 1) vc').ownBlock = (Value.slice va n vc).ownBlock ∨ (Value.slice va' (n + 1) vc').ownBlock = some X.heap.size)) → wpList Try.prog ops Q rest (a.put o.dst (.slice va' (n + 1) vc')) Y) :
    wpList Try.prog ops Q (o :: rest) a X := by
  obtain ⟨i0, hi, hz0, hz1, hz2⟩ := info_parts infoOp4
  refine wpList_append_own_at X hgd s x 22 ho w.heap.size 34 i0 _ 4 64 Try.underlying22 hi hz0 hz1 hz2 rfl (by decide) _ n (flatO l) hs (unhide hown) ⟨g, 0, none⟩ 1 1 (oec e) hxv rfl (fun j u hj => ?_) (fun u hu => ?_) (by unfold maxLen; omega) (by omega) hsz ?_
  · rw [addN, Nat.zero_add, (unhide hb).cell]
    simpa using hj
  · exact onecell_flat (w := w) (l := [e]) (fun x hx => by simp at hx; subst hx; exact he) u (by simpa [flatO] using hu)
  · intro v' Y h1 h2 h3 h4
    obtain ⟨a', c', rfl⟩ := own_len h1
    exact h a' c' Y ⟨h1, h2, h4⟩
theorem wpList_push_ans {w X : World} {ops : Array Oper} {rest : List Oper} {o : Oper} {a : Act} {Q : Exit → Act → World → Prop} (hgd : o.guard = none) (s x : Operand)
    (ho : o.op = .call { callee := .builtin .append, args := #[s, x], argTypes := #[26, 26] })
    {va : Option Addr} {n vc : Nat} {l : List Ae} (hs : a.eval s = .slice va n vc) (hown : Hid (X.ownsRow w.heap.size 29 5 (.slice va n vc) n (flatA l))) (e : Ae) (h1k : e.ks.oneCell' = true) (h1v : e.vs.oneCell' = true) {g : Nat} (hxv : a.eval x = .slice (some ⟨g, 0, none⟩) 1 1) (hb : Hid (Blk X g (aec e).toArray 29)) (hn : n ≤ 1099511627776) (hsz : w.heap.size ≤ X.heap.size)
    (h : ∀ va' vc' Y, Hid (Y.ownsRow w.heap.size 29 5 (.slice va' (n + 1) vc') (n + 1) (flatA l ++ aec e) ∧ X.grownBy Y (Value.slice va n vc).ownBlock ∧ ((Value.slice va' (n + 1) vc').ownBlock = (Value.slice va n vc).ownBlock ∨ (Value.slice va' (n + 1) vc').ownBlock = some X.heap.size)) → wpList Try.prog ops Q rest (a.put o.dst (.slice va' (n + 1) vc')) Y) :
    wpList Try.prog ops Q (o :: rest) a X := by
  obtain ⟨i0, hi, hz0, hz1, hz2⟩ := info_parts infoAns5
  refine wpList_append_own_at X hgd s x 26 ho w.heap.size 29 i0 _ 5 72 Try.underlying26 hi hz0 hz1 hz2 rfl (by decide) _ n (flatA l) hs (unhide hown) ⟨g, 0, none⟩ 1 1 (aec e) hxv rfl (fun j u hj => ?_) (fun u hu => ?_) (by unfold maxLen; omega) (by omega) hsz ?_
  · rw [addN, Nat.zero_add, (unhide hb).cell]
    simpa using hj
  · simp [aec] at hu
    rcases hu with rfl | rfl | rfl | rfl | rfl
    · rfl
    · exact h1k
    · exact h1v
    · rfl
    · rfl
  · intro v' Y h1 h2 h3 h4
    obtain ⟨a', c', rfl⟩ := own_len h1
    exact h a' c' Y ⟨h1, h2, h4⟩
end Go.Proofs.Ytkejpbfbpomjfaa.tre
