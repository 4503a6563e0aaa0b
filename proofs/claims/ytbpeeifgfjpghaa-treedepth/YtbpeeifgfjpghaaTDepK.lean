/- Loops over a tree: what a round may touch. -/
import Derived.Test.YtbpeeifgfjpghaaTSeqE
import Derived.Test.YtbpeeifgfjpghaaTAll
import Derived.Test.YtbpeeifgfjpghaaTMade2
namespace Go.Proofs.Ytbpeeifgfjpghaa
open Go.RowKit Go.Shelf
set_option linter.unusedVariables false
attribute [local go_sem] Oper.semAt_some

theorem info_i : (Try.prog.info? 3).map (fun i => (i.zero, i.size, i.bytes)) = some (some (.int .i64 0), 1, 8) := by kernel_rfl
/-- keys and values by turns -/
def flat (l : List (Int × Int)) : List Int := l.flatMap (fun e => [e.1, e.2])
theorem flat_len (l : List (Int × Int)) : (flat l).length = 2 * l.length := by
  induction l with
  | nil => rfl
  | cons a l ih => simp only [flat, List.flatMap_cons, List.length_append, List.length_cons, List.length_nil] at *; omega
theorem flat_snoc (l : List (Int × Int)) (e : Int × Int) : flat (l ++ [e]) = flat l ++ [e.1, e.2] := by simp [flat]

theorem keeps_cells {B : Nat} {W W' : World} {row : Option Nat} (hg : W.grownBy W' row) (hr : ∀ r, row = some r → ∃ cs t fr, W.heap[r]? = some (.cells cs t fr)) : KeepsFrom B W W' :=
  ⟨hg.size, fun k o _ hk ho => (hg.block k (Array.getElem?_eq_some_iff.1 hk).1 (fun e => by
    obtain ⟨cs, t, fr, hc⟩ := hr k e.symm
    rw [hk] at hc; cases hc; cases ho)).trans hk⟩
theorem kpt_cells {W W' : World} {row : Option Nat} {T : TypeId} (hT : Fix T = false) (hg : W.grownBy W' row) (hr : ∀ r, row = some r → ∃ cs fr, W.heap[r]? = some (.cells cs T fr)) : KpT W W' :=
  ⟨hg.size, fun k cs t fr hk ht => hg.block k (Array.getElem?_eq_some_iff.1 hk).1 (fun e => by
    obtain ⟨cs', fr', hc⟩ := hr k e.symm
    rw [hk] at hc
    simp only [Option.some.injEq, Obj.cells.injEq] at hc
    rw [hc.2.1, hT] at ht; cases ht)⟩
theorem row_own {β : Type} {B base e s : Nat} (he : e ≠ 97) (v : Value) (n : Nat) (xs : List Value) : OwnT B (fun (_ : β) W => W.ownsRow base e s v n xs) := fun _ X Y row hs hg hr => by
  refine ⟨hs.1, ?_⟩
  rcases hs.2 with h2 | ⟨g, cap, cur, hv, hgb, hh, r⟩
  · exact Or.inl h2
  · exact Or.inr ⟨g, cap, cur, hv, hgb, blk_own (β := Unit) (B := B) he () X Y row hh hg hr, r⟩
theorem kept_own {β : Type} {B : Nat} {w : World} (hB : w.heap.size ≤ B) : OwnT B (fun (_ : β) X => Kept [] w X) := fun _ X Y row hs hg hr => hs.grown hg (fun k hk => Or.inr (Nat.le_trans hB (hr k hk).1))
theorem row_block {w : World} {base e s n : Nat} {v : Value} {xs : List Value} (h : w.ownsRow base e s v n xs) : ∀ g, v.ownBlock = some g → ∃ cs fr, w.heap[g]? = some (.cells cs e fr) := by
  intro g hg
  rcases h.2 with ⟨e1, _⟩ | ⟨g', cap', cur, e1, _, hh, _⟩
  · rw [e1] at hg; cases hg
  · rw [e1] at hg; cases hg; exact ⟨_, _, hh⟩

theorem keptF_own {β : Type} {B : Nat} {F : List Nat} {w : World} (hB : w.heap.size ≤ B) : OwnT B (fun (_ : β) X => Kept F w X) := fun _ X Y row hs hg hr => hs.grown hg (fun k hk => Or.inr (Nat.le_trans hB (hr k hk).1))
theorem keeps_kept {B : Nat} {W W' : World} (h : Kept [] W W') : KeepsFrom B W W' := ⟨h.size, fun k o _ hk _ => (h.block k (Array.getElem?_eq_some_iff.1 hk).1 (by simp)).trans hk⟩
/-- a round keeps what is no cells, and what a sequence leans on -/
def Gd (B : Nat) (V V' : World) : Prop := KeepsFrom B V V' ∧ KpT V V'
theorem Gd.trans {B : Nat} {U V W : World} (h : Gd B U V) (k : Gd B V W) : Gd B U W := ⟨h.1.trans k.1, h.2.trans k.2⟩
theorem Gd.of_kept {B : Nat} {V V' : World} (h : Kept [] V V') : Gd B V V' := ⟨keeps_kept h, KpT.of_kept h⟩
theorem Gd.of_grown {B : Nat} {V V' : World} {row : Option Nat} {T : TypeId} (hT : Fix T = false) (hg : V.grownBy V' row) (hr : ∀ r, row = some r → ∃ cs fr, V.heap[r]? = some (.cells cs T fr)) : Gd B V V' :=
  ⟨keeps_cells hg (fun r e => by obtain ⟨cs, fr, h⟩ := hr r e; exact ⟨cs, _, fr, h⟩), kpt_cells hT hg hr⟩
theorem Gd.set {B b : Nat} {V : World} {cs : Array Value} {T : TypeId} (hT : Fix T = false) (hb : Blk V b cs T) (v : Value) : Gd B V (V.setCell ⟨b, 0, none⟩ v) :=
  Gd.of_grown hT (grownBy_setCell' V b v) (fun r e => by cases e; exact ⟨_, _, hb⟩)

theorem set_kept (V : World) (b : Nat) (v : Value) : Kept [b] V (V.setCell ⟨b, 0, none⟩ v) := (Kept.refl [b] V).setCell (p := ⟨b, 0, none⟩) (Or.inl (by simp)) v
end Go.Proofs.Ytbpeeifgfjpghaa
