/- A text of the base. -/
import Derived.Test.YtkejpbfbpomjfabPkY
/- All: a sequence made. -/
namespace Go.Proofs.Ytkejpbfbpomjfab.tre
open Go.RowKit
set_option linter.unusedVariables false

set_option maxRecDepth 100000 in
theorem walk_mk {w : World} (a : Option Addr) (n c : Nat) : Calls Try.prog 53 #[.slice a n c, .bool false] w fun e w' => e = .returned (.func (.func 75) #[] #[.pointer (some ⟨w.heap.size, 0, none⟩), .pointer (some ⟨w.heap.size + 1, 0, none⟩)]) ∧ w' = (w.alloc (.cells #[.slice a n c] 95)).alloc (.cells #[.bool false] 4) := by
  have hmf : ∀ (fn : Fn) (first cap : Array Value) (w : World), (Instr.makeFunc fn first cap).run Try.prog w = .ok (.func fn first cap) w := fun _ _ _ _ => rfl
  go_enter Try.func53, Try.ntmps53
  go_wp2
  go_ret
  exact ⟨rfl, rfl⟩
set_option maxRecDepth 100000 in
theorem entries_mk {w : World} (f : Nat) (lb : Array Value) : Calls Try.prog 52 #[.func (.func f) #[] lb] w fun e w' => e = .returned (.func (.func 74) #[] #[.pointer (some ⟨w.heap.size, 0, none⟩)]) ∧ w' = w.alloc (.cells #[.func (.func f) #[] lb] 93) := by
  have hmf : ∀ (fn : Fn) (first cap : Array Value) (w : World), (Instr.makeFunc fn first cap).run Try.prog w = .ok (.func fn first cap) w := fun _ _ _ _ => rfl
  go_enter Try.func52, Try.ntmps52
  go_wp2
  go_ret
  exact ⟨rfl, rfl⟩
/-- a sequence of all entries of this tree, made since base -/
def SeqAll (base : Nat) (w : World) (v : Value) (t : TI) : Prop := ∃ bn bt bd vt, v = .func (.func 74) #[] #[.pointer (some ⟨bn, 0, none⟩)] ∧
  Blk w bn #[.func (.func 75) #[] #[.pointer (some ⟨bt, 0, none⟩), .pointer (some ⟨bd, 0, none⟩)]] 93 ∧ Blk w bt #[vt] 95 ∧ Blk w bd #[.bool false] 4 ∧ NRow base w vt (spine t)
set_option maxRecDepth 100000 in
set_option maxHeartbeats 1000000 in
theorem All_any {w : World} {q : Option Addr} {t : TI} (h : Tt w q t) (hz : t.size ≤ 8796093022208) : Calls Try.prog 34 #[.pointer q] w fun e w' => ∃ v, e = .returned v ∧ SeqAll w.heap.size w' v t ∧ Kept [] w w' := by
  obtain ⟨p, hp, hr⟩ := root_any h
  have HR := hide (hr w (Kept.refl _ _))
  have hn0 : NRow w.heap.size w (.slice none 0 0) [] := ⟨[], trivial, ⟨by simp, Or.inl ⟨rfl, rfl⟩⟩⟩
  have hd := t.depth_le_size
  have HL := hide (lay_any hn0 hp (Nat.le_refl _) (by simp; omega))
  have HW := hide (fun (W : World) a n c => walk_mk (w := W) a n c)
  have HE := hide (fun (W : World) f lb => entries_mk (w := W) f lb)
  clear hr hp h hn0
  go_enter Try.func34, Try.ntmps34
  go_wp2_with (first
    | (go_at_call 55; refine (unhide HR).mono ?_; rintro e w3 ⟨rfl, hq⟩; have hq' := hq.symm; subst hq')
    | (go_at_call 54; refine (unhide HL).mono ?_; rintro e w3 ⟨v3, rfl, hn3, hg3⟩; obtain ⟨qs3, hq3a, hq3b⟩ := hn3; obtain ⟨a3, c3, rfl⟩ := own_len hq3b; have HN3 := hide (show NRow w.heap.size w3 _ _ from ⟨qs3, hq3a, hq3b⟩); have HG3 := hide hg3; clear hq3a hq3b hg3)
    | (go_at_call 53; refine (unhide HW _ _ _ _).mono ?_; rintro e w4 ⟨rfl, rfl⟩)
    | (go_at_call 52; refine (unhide HE _ _ _).mono ?_; rintro e w5 ⟨rfl, rfl⟩))
  go_ret
  have k0 : Kept [] w w3 := (unhide HG3).own (I := fun (_ : Unit) W => Kept [] w W) (fun _ X Y row hs hg hr => hs.grown hg (fun k hk => Or.inr (hr k hk).1)) (s := ()) (Kept.refl _ _)
  have hn3 := unhide HN3
  rw [List.nil_append] at hn3
  have k1 : Kept [] w3 ((w3.alloc (.cells #[.slice a3 (spine t).length c3] 95)).alloc (.cells #[.bool false] 4)) := ((Kept.refl [] w3).alloc _).alloc _
  have b1 := (Blk.new w3 #[.slice a3 (spine t).length c3] 95).alloc (.cells #[.bool false] 4)
  have b2 := Blk.new (w3.alloc (.cells #[.slice a3 (spine t).length c3] 95)) #[.bool false] 4
  have b3 := Blk.new ((w3.alloc (.cells #[.slice a3 (spine t).length c3] 95)).alloc (.cells #[.bool false] 4)) #[.func (.func 75) #[] #[.pointer (some ⟨w3.heap.size, 0, none⟩), .pointer (some ⟨w3.heap.size + 1, 0, none⟩)]] 93
  simp only [World.size_alloc] at b2 b3
  refine ⟨_, rfl, ⟨_, _, _, _, rfl, b3, b1.alloc _, b2.alloc _, ?_⟩, ((k0.trans k1 (by simp)).alloc _)⟩
  exact (KpT.of_kept (k1.alloc _)).nrow hn3
end Go.Proofs.Ytkejpbfbpomjfab.tre
