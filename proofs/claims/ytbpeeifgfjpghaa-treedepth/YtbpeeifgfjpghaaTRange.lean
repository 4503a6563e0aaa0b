/- Loops over sequences that range over sequences themselves. -/
import Derived.RangeFuncNested
import Derived.RangeFuncBound
import Derived.RangeFuncCalls
import Derived.RangeFuncLeaves
import Derived.Shelf.Abstract
import Derived.Shelf.RegionOpen
import Derived.WalkKit
import Derived.OwnWalkIn
import Derived.TacticsInMore
import Derived.LoopNIn
import Derived.LoopIn
import Derived.Test.YtbpeeifgfjpghaaTTree2
namespace Go.Proofs.Ytbpeeifgfjpghaa
open Go.RowKit

/-- blocks of these types are never written once they are filled: nodes, trees, trails, what closures hold on to -/
def Fix (t : TypeId) : Bool := [105, 102, 97, 113, 4, 111, 25].contains t
/-- such blocks lie as they lay -/
structure KpT (V V' : World) : Prop where
  size : V.heap.size ≤ V'.heap.size
  same : ∀ (k : Nat) (cs : Array Value) (t : TypeId) (fr : Nat × Nat), V.heap[k]? = some (Obj.cells cs t fr) → Fix t = true → V'.heap[k]? = V.heap[k]?
theorem KpT.refl (V : World) : KpT V V := ⟨Nat.le_refl _, fun _ _ _ _ _ _ => rfl⟩
theorem KpT.trans {A B C : World} (h : KpT A B) (k : KpT B C) : KpT A C := ⟨Nat.le_trans h.size k.size, fun i cs t fr hi ht => by
  have h1 := h.same i cs t fr hi ht
  exact (k.same i cs t fr (h1.trans hi) ht).trans h1⟩
theorem KpT.of_kept {A B : World} (h : Kept [] A B) : KpT A B := ⟨h.size, fun k _ _ _ hk _ => h.block k (Array.getElem?_eq_some_iff.1 hk).1 (by simp)⟩
theorem KpT.put {V : World} {l : Nat} {o : Obj} (o' : Obj) (h : V.heap[l]? = some o) (ho : o.isCells = false) : KpT V (V.putObj l o') :=
  ⟨by simp, fun k cs t fr hk _ => World.putObj_heap_other (fun e => by subst e; rw [hk] at h; cases h; cases ho)⟩

/-- a word that abides new blocks, and turns of later blocks that hold no cells, or trails -/
def OwnT {β : Type} (B : Nat) (I : β → World → Prop) : Prop :=
  ∀ s W W' row, I s W → W.grownBy W' row → (∀ r, row = some r → B ≤ r ∧ ∃ o : Obj, W.heap[r]? = some o ∧ (o.isCells = false ∨ ∃ cs fr, o = .cells cs 97 fr)) → I s W'
theorem own_and {β : Type} {B : Nat} {I I' : β → World → Prop} (h : OwnT B I) (h' : OwnT B I') : OwnT B (fun s W => I s W ∧ I' s W) := fun s W W' row hs hg hr => ⟨h s W W' row hs.1 hg hr, h' s W W' row hs.2 hg hr⟩
theorem own_put {β : Type} {B : Nat} {I : β → World → Prop} (h : OwnT B I) {s : β} {W : World} {l : Nat} {o : Obj} (o' : Obj) (hs : I s W) (hB : B ≤ l) (hl : W.heap[l]? = some o) (ho : o.isCells = false) : I s (W.putObj l o') :=
  h s W _ (some l) hs (grownBy_putObj' W l o') (fun r e => by cases e; exact ⟨hB, o, hl, Or.inl ho⟩)
theorem own_alloc {β : Type} {B : Nat} {I : β → World → Prop} (h : OwnT B I) {s : β} {W : World} (o : Obj) (hs : I s W) : I s (W.alloc o) :=
  h s W _ none hs ⟨rfl, rfl, rfl, by simp, fun k hk _ => Below.heap_alloc _ _ _ hk⟩ (fun r e => by cases e)
theorem own_up {β : Type} {B C : Nat} {I : β → World → Prop} (h : OwnT B I) (hBC : B ≤ C) : OwnT C I := fun s X Y row hs hg hr => h s X Y row hs hg (fun r e => ⟨Nat.le_trans hBC (hr r e).1, (hr r e).2⟩)
/-- a block that lies lower abides -/
theorem own_low {β : Type} {B k : Nat} {o : Obj} (hk : k < B) : OwnT B (fun (_ : β) W => W.heap[k]? = some o) := fun s X Y row hs hg hr =>
  (hg.block k (Array.getElem?_eq_some_iff.1 hs).1 (fun e => by have := (hr k e.symm).1; omega)).trans hs

/-- what a sequence does with a loop's rounds, whatever the loop holds on to -/
def SeqO {α : Type} (g : Nat) (lb : Array Value) (encs : α → Array Value) (G : α → World → Prop) (S Sp : List α → Prop) (N : Nat) (w : World) : Prop :=
  ∀ (l : Nat) (J Jx : List α → World → Prop) (W : World), KpT w W → OwnT W.heap.size J → OwnT W.heap.size Jx →
    (∀ pre x V, W.heap.size ≤ V.heap.size → J pre V → G x V → pre.length < N → YieldAt Fence.wide 0 Try.prog l (encs x) V fun e V' =>
      KeepsFrom W.heap.size V V' ∧ ((e = .returned (.bool true) ∧ KpT V V' ∧ J (pre ++ [x]) V') ∨ (e = .returned (.bool false) ∧ Jx (pre ++ [x]) V'))) →
    J [] W →
    CallsIn Fence.wide 0 Try.prog g (#[.func (.yield l) #[] #[]] ++ lb) W fun e V => (∃ v, e = .returned v) ∧ ((∃ xs, S xs ∧ J xs V) ∨ ∃ pre, Sp pre ∧ Jx pre V)

theorem keeps_put {W : World} {B l : Nat} (o' : Obj) (hl : l < B) : KeepsFrom B W (W.putObj l o') :=
  KeepsFrom.of_grownBy (grownBy_putObj' W l o') (fun j e => by cases e; exact hl)
/-- how the body of a round may be left -/
def PostO {α : Type} (B : Nat) (I : List α → World → Prop) (Ix : Code → List α → World → Prop) (xs : List α) (W : World) : Exit → Act → World → Prop
  | .normal, _, W' => (KeepsFrom B W W' ∧ KpT W W') ∧ I xs W'
  | .ret, _, W' => KeepsFrom B W W' ∧ Ix .ret xs W'
  | .exit id, _, W' => KeepsFrom B W W' ∧ Ix (.exit id) xs W'
  | .goto t, _, W' => KeepsFrom B W W' ∧ Ix (.goto t) xs W'
  | .panic _, _, _ => False
  | .outgrown, _, _ => False

set_option maxHeartbeats 1000000 in
theorem range_own {α : Type} {g : Operand} {ps : Array Tmp} {assign body : Code} {Q : Exit → Act → World → Prop} {a : Act} {w : World}
    {gf : Nat} {lb : Array Value} (hg : a.eval g = .func (.func gf) #[] lb) (eg : ∀ args w, (callFunc gf args).run Try.prog w = .ok (.enter gf args) w)
    {encs : α → Array Value} {G : α → World → Prop} {S Sp : List α → Prop} {N : Nat} {w0 : World} (hseq : SeqO gf lb encs G S Sp N w0) (hG : OwnT w.heap.size G) (hb0 : KpT w0 w) (hps : ∀ x, (encs x).size = ps.size)
    (I : List α → World → Prop) (Ix : Code → List α → World → Prop) (hI : OwnT w.heap.size I) (hIx : ∀ c, OwnT w.heap.size (Ix c)) (h0 : I [] w) (a₁ : α → Act)
    (hassign : ∀ (l : Nat) (x : α) (W : World) (K : Act → World → Prop), K (a₁ x) W →
      assign.wpIn (Fence.wide.inRound l) 0 Try.prog (Exit.then K (fun _ _ _ => False)) { tmps := (ps.zip (encs x)).foldl (fun t (p, v) => t.setIfInBounds p v) a.tmps, defers := [] } W)
    (hbody : ∀ (l : Nat) (pre : List α) (x : α) (W : World), I pre W → G x W → pre.length < N → body.wpIn (Fence.wide.inRound l) 0 Try.prog (PostO w.heap.size I Ix (pre ++ [x]) W) (a₁ x) W)
    (hdone : ∀ (D : Nat) (xs : List α) (W : World), w.heap.size ≤ D → S xs → I xs W → W.heap[D]? = some (.deferred (some [])) → Q .normal { a with defers := { target := .collected D, args := #[] } :: a.defers } W)
    (hstop : ∀ (D : Nat) (c : Code) (pre : List α) (W : World), w.heap.size ≤ D → Sp pre → Ix c pre W → W.heap[D]? = some (.deferred (some [])) → c.wpIn Fence.wide 0 Try.prog Q { a with defers := { target := .collected D, args := #[] } :: a.defers } W) :
    (Code.rangeFunc g ps assign body).wpIn Fence.wide 0 Try.prog Q a w := by
  refine wpIn_rangeFunc fun fn hfn => ?_
  -- the loop's record, in its states
  let rc : LoopState → Option Code → Loop := fun st pe => { state := st, pending := pe, fn, tmps := a.tmps, params := ps, assign, body, defers := w.heap.size }
  have hrc : ∀ st pe, rc st pe = { state := st, pending := pe, fn, tmps := a.tmps, params := ps, assign, body, defers := w.heap.size } := fun _ _ => rfl
  obtain ⟨W1, hW1⟩ : ∃ W1, (w.alloc (.deferred (some []))).alloc (.loop (rc .ready none)) = W1 := ⟨_, rfl⟩
  have hz1 : W1.heap.size = w.heap.size + 2 := by rw [← hW1]; simp
  have hL1 : W1.heap[w.heap.size + 1]? = some (.loop (rc .ready none)) := by
    rw [← hW1]
    have h := World.alloc_heap_new (w.alloc (.deferred (some []))) (.loop (rc .ready none))
    rw [World.size_alloc] at h
    exact h
  have hD1 : W1.heap[w.heap.size]? = some (.deferred (some [])) := by
    rw [← hW1]; exact (Below.heap_alloc _ _ _ (by simp)).trans (World.alloc_heap_new w _)
  have hI1 : I [] W1 := by rw [← hW1]; exact own_alloc hI _ (own_alloc hI _ h0)
  have hb1 : KpT w0 W1 := by
    rw [← hW1]; exact hb0.trans (KpT.of_kept (((Kept.refl [] w).alloc _).alloc _))
  -- what is held between two rounds, and where a round has ended it
  let J : List α → World → Prop := fun pre V => (I pre V ∧ V.heap[w.heap.size + 1]? = some (.loop (rc .ready none))) ∧ V.heap[w.heap.size]? = some (.deferred (some []))
  let Jx : List α → World → Prop := fun pre V => ∃ c, (Ix c pre V ∧ V.heap[w.heap.size + 1]? = some (.loop (rc .done (some c)))) ∧ V.heap[w.heap.size]? = some (.deferred (some []))
  have hJ : OwnT W1.heap.size J := own_and (own_and (own_up hI (by omega)) (own_low (by omega))) (own_low (by omega))
  have hJx : OwnT W1.heap.size Jx := fun s X Y row hs hgr hr => by
    obtain ⟨c, hc⟩ := hs
    exact ⟨c, (own_and (own_and (own_up (hIx c) (by omega)) (own_low (β := List α) (o := .loop (rc .done (some c))) (by omega))) (own_low (by omega))) s X Y row hc hgr hr⟩
  refine ⟨w.heap.size + 1, [{ target := .collected w.heap.size, args := #[] }], W1, { target := .fn (.func gf) lb, args := #[.func (.yield (w.heap.size + 1)) #[] #[]] }, W1, gf,
    #[.func (.yield (w.heap.size + 1)) #[] #[]] ++ lb, W1, ?_, ?_, fun _ _ => trivial, ?_, (fun h => by cases h), ?_⟩
  · rw [← hW1]; exact run_enterLoop_outer _ _ _ _ _
  · simp only [resolve, hg]
    simp [go_sem]
  · simp [invoke, go_sem, eg]
  · refine (hseq (w.heap.size + 1) J Jx W1 hb1 hJ hJx ?round ⟨⟨hI1, hL1⟩, hD1⟩).mono ?behind
    case round =>
      rintro pre x V hV ⟨⟨hi, hl⟩, hd⟩ hgx hlen
      have hy := run_yield (P := Try.prog) (args := encs x) hl (hps x)
      refine ⟨fn, _, assign, body, hy, roundIn_of_wpIn hfn (hassign _ x V _ ?_)⟩
      have hlt : w.heap.size + 1 < V.heap.size := (Array.getElem?_eq_some_iff.1 hl).1
      refine ⟨_, run_beginRound hl rfl, ?_⟩
      obtain ⟨V1, hV1⟩ : ∃ V1, V.putObj (w.heap.size + 1) (.loop { rc .ready none with state := .busy }) = V1 := ⟨_, rfl⟩
      have hs1 : V1.heap.size = V.heap.size := by rw [← hV1]; simp
      have hl1 : V1.heap[w.heap.size + 1]? = some (.loop (rc .busy none)) := by rw [← hV1]; exact World.putObj_heap_same hlt
      have hd1 : V1.heap[w.heap.size]? = some (.deferred (some [])) := by rw [← hV1]; exact (World.putObj_heap_other (by omega)).trans hd
      have hi1 : I pre V1 := by rw [← hV1]; exact own_put hI _ hi (by omega) hl rfl
      have hg1 : G x V1 := by rw [← hV1]; exact own_put hG _ hgx (by omega) hl rfl
      have hk1 : KeepsFrom W1.heap.size V V1 := by rw [← hV1]; exact keeps_put _ (by omega)
      have hb1 : KpT V V1 := by rw [← hV1]; exact KpT.put _ hl rfl
      show body.wpIn _ _ _ _ (a₁ x) (V.putObj (w.heap.size + 1) (.loop { rc .ready none with state := .busy }))
      rw [hV1]
      refine wpIn_mono (hbody _ pre x V1 hi1 hg1 hlen) ?_
      -- the record behind the body
      have fin : ∀ (jump : Option Code) (V3 : World), KeepsFrom w.heap.size V1 V3 → ∃ V4, (Instr.endRound (w.heap.size + 1) jump).run Try.prog V3 = .ok (.bool jump.isNone) V4 ∧ V4 = V3.putObj (w.heap.size + 1) (.loop (rc (if jump.isNone then .ready else .done) jump)) ∧
          V3.heap[w.heap.size + 1]? = some (.loop (rc .busy none)) ∧ V4.heap[w.heap.size + 1]? = some (.loop (rc (if jump.isNone then .ready else .done) jump)) ∧ V4.heap[w.heap.size]? = some (.deferred (some [])) ∧ KeepsFrom W1.heap.size V V4 ∧ (KpT V1 V3 → KpT V V4) := by
        intro jump V3 hk3
        have hl3 := hk3.same _ _ (by omega) hl1 rfl
        have hd3 := hk3.same _ _ (Nat.le_refl _) hd1 rfl
        refine ⟨_, run_endRound jump hl3, rfl, hl3, World.putObj_heap_same (Array.getElem?_eq_some_iff.1 hl3).1, (World.putObj_heap_other (by omega)).trans hd3, ?_⟩
        have hk3' : KeepsFrom W1.heap.size V1 V3 := ⟨hk3.size, fun k o hk h ho => hk3.same k o (by omega) h ho⟩
        exact ⟨(hk1.trans hk3').trans (keeps_put _ (by omega)), fun hkp => (hb1.trans hkp).trans (KpT.put _ hl3 rfl)⟩
      rintro e a3 V3 hp
      cases e with
      | normal =>
        obtain ⟨⟨hk3, hkp⟩, hi3⟩ := hp
        obtain ⟨V4, hr, e4, hl3, hl4, hd4, hkf, hkq⟩ := fin none V3 hk3
        refine ⟨_, _, hr, hkf, .inl ⟨rfl, hkq hkp, ⟨?_, hl4⟩, hd4⟩⟩
        rw [e4]; exact own_put hI _ hi3 (by omega) hl3 rfl
      | ret =>
        obtain ⟨hk3, hi3⟩ := hp
        obtain ⟨V4, hr, e4, hl3, hl4, hd4, hkf, -⟩ := fin (some .ret) V3 hk3
        exact ⟨_, _, hr, hkf, .inr ⟨rfl, .ret, ⟨by rw [e4]; exact own_put (hIx _) _ hi3 (by omega) hl3 rfl, hl4⟩, hd4⟩⟩
      | exit id =>
        obtain ⟨hk3, hi3⟩ := hp
        obtain ⟨V4, hr, e4, hl3, hl4, hd4, hkf, -⟩ := fin (some (.exit id)) V3 hk3
        exact ⟨_, _, hr, hkf, .inr ⟨rfl, .exit id, ⟨by rw [e4]; exact own_put (hIx _) _ hi3 (by omega) hl3 rfl, hl4⟩, hd4⟩⟩
      | goto t =>
        obtain ⟨hk3, hi3⟩ := hp
        obtain ⟨V4, hr, e4, hl3, hl4, hd4, hkf, -⟩ := fin (some (.goto t)) V3 hk3
        exact ⟨_, _, hr, hkf, .inr ⟨rfl, .goto t, ⟨by rw [e4]; exact own_put (hIx _) _ hi3 (by omega) hl3 rfl, hl4⟩, hd4⟩⟩
      | panic ch => exact hp.elim
      | outgrown => exact hp.elim
    case behind =>
      rintro e V ⟨⟨v, rfl⟩, ⟨xs, hS, ⟨hi, hl⟩, hd⟩ | ⟨pre, hSp, c, ⟨hi, hl⟩, hd⟩⟩
      · refine ⟨none, _, run_endLoop (P := Try.prog) hl (by simp [hrc]), ?_⟩
        exact hdone _ xs _ (Nat.le_refl _) hS (own_put hI _ hi (by omega) hl rfl) ((World.putObj_heap_other (by omega)).trans hd)
      · refine ⟨some c, _, run_endLoop (P := Try.prog) hl (by simp [hrc]), ?_⟩
        exact hstop _ c pre _ (Nat.le_refl _) hSp (own_put (hIx c) _ hi (by omega) hl rfl) ((World.putObj_heap_other (by omega)).trans hd)
end Go.Proofs.Ytbpeeifgfjpghaa
