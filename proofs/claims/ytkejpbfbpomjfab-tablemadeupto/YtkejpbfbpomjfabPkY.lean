/- Texts laid one behind the other: CRange CLay CClone CSeqW. -/
import Derived.RangeFuncNested
import Derived.RangeFuncBound
import Derived.RangeFuncCalls
import Derived.RangeFuncLeaves
import Derived.Shelf.Abstract
import Derived.Shelf.RegionOpen
import Derived.WalkKit
import Derived.OwnWalkIn
import Derived.TacticsInMore
import Derived.LoopNIn
import Derived.LoopIn
import Derived.Test.YtkejpbfbpomjfabPkJ
/- Loops over sequences that range over sequences themselves. -/
namespace Go.Proofs.Ytkejpbfbpomjfab.tre
open Go.RowKit

/-- blocks of these types are never written once they are filled: nodes, trees, trails, what closures hold on to -/
def Fix (t : TypeId) : Bool := [118, 123, 97, 95, 4, 93, 116].contains t
/-- such blocks lie as they lay -/
structure KpT (V V' : World) : Prop where
  size : V.heap.size ≤ V'.heap.size
  same : ∀ (k : Nat) (cs : Array Value) (t : TypeId) (fr : Nat × Nat), V.heap[k]? = some (Obj.cells cs t fr) → Fix t = true → V'.heap[k]? = V.heap[k]?
theorem KpT.refl (V : World) : KpT V V := ⟨Nat.le_refl _, fun _ _ _ _ _ _ => rfl⟩
theorem KpT.trans {A B C : World} (h : KpT A B) (k : KpT B C) : KpT A C := ⟨Nat.le_trans h.size k.size, fun i cs t fr hi ht => by
  have h1 := h.same i cs t fr hi ht
  exact (k.same i cs t fr (h1.trans hi) ht).trans h1⟩
theorem KpT.of_kept {A B : World} (h : Kept [] A B) : KpT A B := ⟨h.size, fun k _ _ _ hk _ => h.block k (Array.getElem?_eq_some_iff.1 hk).1 (by simp)⟩
theorem KpT.put {V : World} {l : Nat} {o : Obj} (o' : Obj) (h : V.heap[l]? = some o) (ho : o.isCells = false) : KpT V (V.putObj l o') :=
  ⟨by simp, fun k cs t fr hk _ => World.putObj_heap_other (fun e => by subst e; rw [hk] at h; cases h; cases ho)⟩

/-- a word that abides new blocks, and turns of later blocks that hold no cells, or trails -/
def OwnT {β : Type} (B : Nat) (I : β → World → Prop) : Prop :=
  ∀ s W W' row, I s W → W.grownBy W' row → (∀ r, row = some r → B ≤ r ∧ ∃ o : Obj, W.heap[r]? = some o ∧ (o.isCells = false ∨ ∃ cs fr, o = .cells cs 97 fr)) → I s W'
theorem own_and {β : Type} {B : Nat} {I I' : β → World → Prop} (h : OwnT B I) (h' : OwnT B I') : OwnT B (fun s W => I s W ∧ I' s W) := fun s W W' row hs hg hr => ⟨h s W W' row hs.1 hg hr, h' s W W' row hs.2 hg hr⟩
theorem own_put {β : Type} {B : Nat} {I : β → World → Prop} (h : OwnT B I) {s : β} {W : World} {l : Nat} {o : Obj} (o' : Obj) (hs : I s W) (hB : B ≤ l) (hl : W.heap[l]? = some o) (ho : o.isCells = false) : I s (W.putObj l o') :=
  h s W _ (some l) hs (grownBy_putObj' W l o') (fun r e => by cases e; exact ⟨hB, o, hl, Or.inl ho⟩)
theorem own_alloc {β : Type} {B : Nat} {I : β → World → Prop} (h : OwnT B I) {s : β} {W : World} (o : Obj) (hs : I s W) : I s (W.alloc o) :=
  h s W _ none hs ⟨rfl, rfl, rfl, by simp, fun k hk _ => Below.heap_alloc _ _ _ hk⟩ (fun r e => by cases e)
theorem own_up {β : Type} {B C : Nat} {I : β → World → Prop} (h : OwnT B I) (hBC : B ≤ C) : OwnT C I := fun s X Y row hs hg hr => h s X Y row hs hg (fun r e => ⟨Nat.le_trans hBC (hr r e).1, (hr r e).2⟩)
/-- a block that lies lower abides -/
theorem own_low {β : Type} {B k : Nat} {o : Obj} (hk : k < B) : OwnT B (fun (_ : β) W => W.heap[k]? = some o) := fun s X Y row hs hg hr =>
  (hg.block k (Array.getElem?_eq_some_iff.1 hs).1 (fun e => by have := (hr k e.symm).1; omega)).trans hs

/-- what a sequence does with a loop's rounds, whatever the loop holds on to -/
def SeqO {α : Type} (g : Nat) (lb : Array Value) (encs : α → Array Value) (G : α → World → Prop) (S Sp : List α → Prop) (N : Nat) (w : World) : Prop :=
  ∀ (l : Nat) (J Jx : List α → World → Prop) (W : World), KpT w W → OwnT W.heap.size J → OwnT W.heap.size Jx →
    (∀ pre x V, W.heap.size ≤ V.heap.size → J pre V → G x V → pre.length < N → YieldAt Fence.wide 0 Try.prog l (encs x) V fun e V' =>
      KeepsFrom W.heap.size V V' ∧ ((e = .returned (.bool true) ∧ KpT V V' ∧ J (pre ++ [x]) V') ∨ (e = .returned (.bool false) ∧ Jx (pre ++ [x]) V'))) →
    J [] W →
    CallsIn Fence.wide 0 Try.prog g (#[.func (.yield l) #[] #[]] ++ lb) W fun e V => (∃ v, e = .returned v) ∧ ((∃ xs, S xs ∧ J xs V) ∨ ∃ pre, Sp pre ∧ Jx pre V)

theorem keeps_put {W : World} {B l : Nat} (o' : Obj) (hl : l < B) : KeepsFrom B W (W.putObj l o') :=
  KeepsFrom.of_grownBy (grownBy_putObj' W l o') (fun j e => by cases e; exact hl)
/-- how the body of a round may be left -/
def PostO {α : Type} (B : Nat) (I : List α → World → Prop) (Ix : Code → List α → World → Prop) (xs : List α) (W : World) : Exit → Act → World → Prop
  | .normal, _, W' => (KeepsFrom B W W' ∧ KpT W W') ∧ I xs W'
  | .ret, _, W' => KeepsFrom B W W' ∧ Ix .ret xs W'
  | .exit id, _, W' => KeepsFrom B W W' ∧ Ix (.exit id) xs W'
  | .goto t, _, W' => KeepsFrom B W W' ∧ Ix (.goto t) xs W'
  | .panic _, _, _ => False
  | .outgrown, _, _ => False

set_option maxHeartbeats 1000000 in
theorem range_own {α : Type} {g : Operand} {ps : Array Tmp} {assign body : Code} {Q : Exit → Act → World → Prop} {a : Act} {w : World}
    {gf : Nat} {lb : Array Value} (hg : a.eval g = .func (.func gf) #[] lb) (eg : ∀ args w, (callFunc gf args).run Try.prog w = .ok (.enter gf args) w)
    {encs : α → Array Value} {G : α → World → Prop} {S Sp : List α → Prop} {N : Nat} {w0 : World} (hseq : SeqO gf lb encs G S Sp N w0) (hG : OwnT w.heap.size G) (hb0 : KpT w0 w) (hps : ∀ x, (encs x).size = ps.size)
    (I : List α → World → Prop) (Ix : Code → List α → World → Prop) (hI : OwnT w.heap.size I) (hIx : ∀ c, OwnT w.heap.size (Ix c)) (h0 : I [] w) (a₁ : α → Act)
    (hassign : ∀ (l : Nat) (x : α) (W : World) (K : Act → World → Prop), K (a₁ x) W →
      assign.wpIn (Fence.wide.inRound l) 0 Try.prog (Exit.then K (fun _ _ _ => False)) { tmps := (ps.zip (encs x)).foldl (fun t (p, v) => t.setIfInBounds p v) a.tmps, defers := [] } W)
    (hbody : ∀ (l : Nat) (pre : List α) (x : α) (W : World), I pre W → G x W → pre.length < N → body.wpIn (Fence.wide.inRound l) 0 Try.prog (PostO w.heap.size I Ix (pre ++ [x]) W) (a₁ x) W)
    (hdone : ∀ (D : Nat) (xs : List α) (W : World), w.heap.size ≤ D → S xs → I xs W → W.heap[D]? = some (.deferred (some [])) → Q .normal { a with defers := { target := .collected D, args := #[] } :: a.defers } W)
    (hstop : ∀ (D : Nat) (c : Code) (pre : List α) (W : World), w.heap.size ≤ D → Sp pre → Ix c pre W → W.heap[D]? = some (.deferred (some [])) → c.wpIn Fence.wide 0 Try.prog Q { a with defers := { target := .collected D, args := #[] } :: a.defers } W) :
    (Code.rangeFunc g ps assign body).wpIn Fence.wide 0 Try.prog Q a w := by
  refine wpIn_rangeFunc fun fn hfn => ?_
  -- the loop's record, in its states
  let rc : LoopState → Option Code → Loop := fun st pe => { state := st, pending := pe, fn, tmps := a.tmps, params := ps, assign, body, defers := w.heap.size }
  have hrc : ∀ st pe, rc st pe = { state := st, pending := pe, fn, tmps := a.tmps, params := ps, assign, body, defers := w.heap.size } := fun _ _ => rfl
  obtain ⟨W1, hW1⟩ : ∃ W1, (w.alloc (.deferred (some []))).alloc (.loop (rc .ready none)) = W1 := ⟨_, rfl⟩
  have hz1 : W1.heap.size = w.heap.size + 2 := by rw [← hW1]; simp
  have hL1 : W1.heap[w.heap.size + 1]? = some (.loop (rc .ready none)) := by
    rw [← hW1]
    have h := World.alloc_heap_new (w.alloc (.deferred (some []))) (.loop (rc .ready none))
    rw [World.size_alloc] at h
    exact h
  have hD1 : W1.heap[w.heap.size]? = some (.deferred (some [])) := by
    rw [← hW1]; exact (Below.heap_alloc _ _ _ (by simp)).trans (World.alloc_heap_new w _)
  have hI1 : I [] W1 := by rw [← hW1]; exact own_alloc hI _ (own_alloc hI _ h0)
  have hb1 : KpT w0 W1 := by
    rw [← hW1]; exact hb0.trans (KpT.of_kept (((Kept.refl [] w).alloc _).alloc _))
  -- what is held between two rounds, and where a round has ended it
  let J : List α → World → Prop := fun pre V => (I pre V ∧ V.heap[w.heap.size + 1]? = some (.loop (rc .ready none))) ∧ V.heap[w.heap.size]? = some (.deferred (some []))
  let Jx : List α → World → Prop := fun pre V => ∃ c, (Ix c pre V ∧ V.heap[w.heap.size + 1]? = some (.loop (rc .done (some c)))) ∧ V.heap[w.heap.size]? = some (.deferred (some []))
  have hJ : OwnT W1.heap.size J := own_and (own_and (own_up hI (by omega)) (own_low (by omega))) (own_low (by omega))
  have hJx : OwnT W1.heap.size Jx := fun s X Y row hs hgr hr => by
    obtain ⟨c, hc⟩ := hs
    exact ⟨c, (own_and (own_and (own_up (hIx c) (by omega)) (own_low (β := List α) (o := .loop (rc .done (some c))) (by omega))) (own_low (by omega))) s X Y row hc hgr hr⟩
  refine ⟨w.heap.size + 1, [{ target := .collected w.heap.size, args := #[] }], W1, { target := .fn (.func gf) lb, args := #[.func (.yield (w.heap.size + 1)) #[] #[]] }, W1, gf,
    #[.func (.yield (w.heap.size + 1)) #[] #[]] ++ lb, W1, ?_, ?_, fun _ _ => trivial, ?_, (fun h => by cases h), ?_⟩
  · rw [← hW1]; exact run_enterLoop_outer _ _ _ _ _
  · simp only [resolve, hg]
    simp [go_sem]
  · simp [invoke, go_sem, eg]
  · refine (hseq (w.heap.size + 1) J Jx W1 hb1 hJ hJx ?round ⟨⟨hI1, hL1⟩, hD1⟩).mono ?behind
    case round =>
      rintro pre x V hV ⟨⟨hi, hl⟩, hd⟩ hgx hlen
      have hy := run_yield (P := Try.prog) (args := encs x) hl (hps x)
      refine ⟨fn, _, assign, body, hy, roundIn_of_wpIn hfn (hassign _ x V _ ?_)⟩
      have hlt : w.heap.size + 1 < V.heap.size := (Array.getElem?_eq_some_iff.1 hl).1
      refine ⟨_, run_beginRound hl rfl, ?_⟩
      obtain ⟨V1, hV1⟩ : ∃ V1, V.putObj (w.heap.size + 1) (.loop { rc .ready none with state := .busy }) = V1 := ⟨_, rfl⟩
      have hs1 : V1.heap.size = V.heap.size := by rw [← hV1]; simp
      have hl1 : V1.heap[w.heap.size + 1]? = some (.loop (rc .busy none)) := by rw [← hV1]; exact World.putObj_heap_same hlt
      have hd1 : V1.heap[w.heap.size]? = some (.deferred (some [])) := by rw [← hV1]; exact (World.putObj_heap_other (by omega)).trans hd
      have hi1 : I pre V1 := by rw [← hV1]; exact own_put hI _ hi (by omega) hl rfl
      have hg1 : G x V1 := by rw [← hV1]; exact own_put hG _ hgx (by omega) hl rfl
      have hk1 : KeepsFrom W1.heap.size V V1 := by rw [← hV1]; exact keeps_put _ (by omega)
      have hb1 : KpT V V1 := by rw [← hV1]; exact KpT.put _ hl rfl
      show body.wpIn _ _ _ _ (a₁ x) (V.putObj (w.heap.size + 1) (.loop { rc .ready none with state := .busy }))
      rw [hV1]
      refine wpIn_mono (hbody _ pre x V1 hi1 hg1 hlen) ?_
      -- the record behind the body
      have fin : ∀ (jump : Option Code) (V3 : World), KeepsFrom w.heap.size V1 V3 → ∃ V4, (Instr.endRound (w.heap.size + 1) jump).run Try.prog V3 = .ok (.bool jump.isNone) V4 ∧ V4 = V3.putObj (w.heap.size + 1) (.loop (rc (if jump.isNone then .ready else .done) jump)) ∧
          V3.heap[w.heap.size + 1]? = some (.loop (rc .busy none)) ∧ V4.heap[w.heap.size + 1]? = some (.loop (rc (if jump.isNone then .ready else .done) jump)) ∧ V4.heap[w.heap.size]? = some (.deferred (some [])) ∧ KeepsFrom W1.heap.size V V4 ∧ (KpT V1 V3 → KpT V V4) := by
        intro jump V3 hk3
        have hl3 := hk3.same _ _ (by omega) hl1 rfl
        have hd3 := hk3.same _ _ (Nat.le_refl _) hd1 rfl
        refine ⟨_, run_endRound jump hl3, rfl, hl3, World.putObj_heap_same (Array.getElem?_eq_some_iff.1 hl3).1, (World.putObj_heap_other (by omega)).trans hd3, ?_⟩
        have hk3' : KeepsFrom W1.heap.size V1 V3 := ⟨hk3.size, fun k o hk h ho => hk3.same k o (by omega) h ho⟩
        exact ⟨(hk1.trans hk3').trans (keeps_put _ (by omega)), fun hkp => (hb1.trans hkp).trans (KpT.put _ hl3 rfl)⟩
      rintro e a3 V3 hp
      cases e with
      | normal =>
        obtain ⟨⟨hk3, hkp⟩, hi3⟩ := hp
        obtain ⟨V4, hr, e4, hl3, hl4, hd4, hkf, hkq⟩ := fin none V3 hk3
        refine ⟨_, _, hr, hkf, .inl ⟨rfl, hkq hkp, ⟨?_, hl4⟩, hd4⟩⟩
        rw [e4]; exact own_put hI _ hi3 (by omega) hl3 rfl
      | ret =>
        obtain ⟨hk3, hi3⟩ := hp
        obtain ⟨V4, hr, e4, hl3, hl4, hd4, hkf, -⟩ := fin (some .ret) V3 hk3
        exact ⟨_, _, hr, hkf, .inr ⟨rfl, .ret, ⟨by rw [e4]; exact own_put (hIx _) _ hi3 (by omega) hl3 rfl, hl4⟩, hd4⟩⟩
      | exit id =>
        obtain ⟨hk3, hi3⟩ := hp
        obtain ⟨V4, hr, e4, hl3, hl4, hd4, hkf, -⟩ := fin (some (.exit id)) V3 hk3
        exact ⟨_, _, hr, hkf, .inr ⟨rfl, .exit id, ⟨by rw [e4]; exact own_put (hIx _) _ hi3 (by omega) hl3 rfl, hl4⟩, hd4⟩⟩
      | goto t =>
        obtain ⟨hk3, hi3⟩ := hp
        obtain ⟨V4, hr, e4, hl3, hl4, hd4, hkf, -⟩ := fin (some (.goto t)) V3 hk3
        exact ⟨_, _, hr, hkf, .inr ⟨rfl, .goto t, ⟨by rw [e4]; exact own_put (hIx _) _ hi3 (by omega) hl3 rfl, hl4⟩, hd4⟩⟩
      | panic ch => exact hp.elim
      | outgrown => exact hp.elim
    case behind =>
      rintro e V ⟨⟨v, rfl⟩, ⟨xs, hS, ⟨hi, hl⟩, hd⟩ | ⟨pre, hSp, c, ⟨hi, hl⟩, hd⟩⟩
      · refine ⟨none, _, run_endLoop (P := Try.prog) hl (by simp [hrc]), ?_⟩
        exact hdone _ xs _ (Nat.le_refl _) hS (own_put hI _ hi (by omega) hl rfl) ((World.putObj_heap_other (by omega)).trans hd)
      · refine ⟨some c, _, run_endLoop (P := Try.prog) hl (by simp [hrc]), ?_⟩
        exact hstop _ c pre _ (Nat.le_refl _) hSp (own_put (hIx c) _ hi (by omega) hl rfl) ((World.putObj_heap_other (by omega)).trans hd)
end Go.Proofs.Ytkejpbfbpomjfab.tre

/- Trails: rows of nodes. -/
namespace Go.Proofs.Ytkejpbfbpomjfab.tre
open Go.RowKit
set_option linter.unusedVariables false

theorem info_pn : (Try.prog.info? 97).map (fun i => (i.zero, i.size, i.bytes)) = some (some (.pointer none), 1, 8) := by kernel_rfl
/-- the way down to the first node -/
def spine : TI → List TI
  | .nil => []
  | .node l k x r => .node l k x r :: spine l
theorem spine_len (t : TI) : (spine t).length ≤ t.depth := by
  induction t with
  | nil => exact Nat.le_refl _
  | node l k x r ihl ihr => simp only [spine, List.length_cons, Tr.depth]; omega
/-- what is still to come, the top of the trail first -/
def outR : List TI → List (ByteArray × VT)
  | [] => []
  | .nil :: rs => outR rs
  | .node _ k x r :: rs => (k, x) :: (r.list ++ outR rs)
theorem outR_spine (t : TI) (rs : List TI) : outR ((spine t).reverse ++ rs) = t.list ++ outR rs := by
  induction t generalizing rs with
  | nil => rfl
  | node l k x r ihl ihr =>
    simp only [spine, List.reverse_cons, List.append_assoc, List.cons_append, List.nil_append]
    rw [ihl]
    simp [outR, Tr.list]

/-- nodes one by one, none of them nil -/
def AllN (w : World) : List (Option Addr) → List TI → Prop
  | [], [] => True
  | q :: qs, t :: ts => (Nd w q t ∧ t ≠ .nil) ∧ AllN w qs ts
  | _, _ => False
theorem AllN.imp {w w' : World} (f : ∀ q t, Nd w q t → Nd w' q t) : ∀ {qs : List (Option Addr)} {ts : List TI}, AllN w qs ts → AllN w' qs ts
  | [], [], _ => trivial
  | q :: qs, t :: ts, h => ⟨⟨f q t h.1.1, h.1.2⟩, AllN.imp f h.2⟩
  | [], _ :: _, h => h.elim
  | _ :: _, [], h => h.elim
theorem AllN.length {w : World} : ∀ {qs : List (Option Addr)} {ts : List TI}, AllN w qs ts → qs.length = ts.length
  | [], [], _ => rfl
  | q :: qs, t :: ts, h => by simp [AllN.length h.2]
  | [], _ :: _, h => h.elim
  | _ :: _, [], h => h.elim
theorem AllN.app {w : World} {qs' : List (Option Addr)} {ts' : List TI} (h' : AllN w qs' ts') : ∀ {qs : List (Option Addr)} {ts : List TI}, AllN w qs ts → AllN w (qs ++ qs') (ts ++ ts')
  | [], [], _ => h'
  | q :: qs, t :: ts, h => ⟨h.1, AllN.app h' h.2⟩
  | [], _ :: _, h => h.elim
  | _ :: _, [], h => h.elim
theorem AllN.take {w : World} : ∀ (n : Nat) {qs : List (Option Addr)} {ts : List TI}, AllN w qs ts → AllN w (qs.take n) (ts.take n)
  | 0, _, _, _ => trivial
  | n + 1, [], [], _ => trivial
  | n + 1, q :: qs, t :: ts, h => ⟨h.1, AllN.take n h.2⟩
  | n + 1, [], _ :: _, h => h.elim
  | n + 1, _ :: _, [], h => h.elim
theorem AllN.get {w : World} : ∀ {qs : List (Option Addr)} {ts : List TI}, AllN w qs ts → ∀ (i : Nat) (hi : i < ts.length), ∃ q, qs[i]? = some q ∧ Nd w q ts[i] ∧ ts[i] ≠ .nil
  | [], [], _, i, hi => by simp at hi
  | q :: qs, t :: ts, h, 0, _ => ⟨q, rfl, h.1⟩
  | q :: qs, t :: ts, h, i + 1, hi => by simpa using AllN.get h.2 i (by simpa using hi)
  | [], _ :: _, h, _, _ => h.elim
  | _ :: _, [], h, _, _ => h.elim
/-- a trail of the call's own -/
def NRow (base : Nat) (w : World) (v : Value) (s : List TI) : Prop := ∃ qs, AllN w qs s ∧ w.ownsRow base 97 1 v s.length (qs.map Value.pointer)

/-- new blocks came about, and trails from B on were written -/
def GrowP (B : Nat) (w w' : World) : Prop := w.heap.size ≤ w'.heap.size ∧ ∀ I : World → Prop, OwnT B (fun (_ : Unit) W => I W) → I w → I w'
theorem GrowP.refl (B : Nat) (w : World) : GrowP B w w := ⟨Nat.le_refl _, fun _ _ h => h⟩
theorem GrowP.trans {B : Nat} {a b c : World} (h : GrowP B a b) (k : GrowP B b c) : GrowP B a c := ⟨Nat.le_trans h.1 k.1, fun I hI ha => k.2 I hI (h.2 I hI ha)⟩
theorem GrowP.up {B C : Nat} {a b : World} (h : GrowP C a b) (hBC : B ≤ C) : GrowP B a b := ⟨h.1, fun I hI ha => h.2 I (own_up hI hBC) ha⟩
theorem GrowP.own {β : Type} {B : Nat} {a b : World} (h : GrowP B a b) {I : β → World → Prop} (hI : OwnT B I) {s : β} (hs : I s a) : I s b := h.2 (fun W => I s W) (fun _ W W' row h1 h2 h3 => hI s W W' row h1 h2 h3) hs
theorem GrowP.alloc (B : Nat) (w : World) (o : Obj) : GrowP B w (w.alloc o) := ⟨by simp, fun I hI hw => own_alloc (s := ()) hI o hw⟩
theorem GrowP.grown {B : Nat} {w w' : World} {row : Option Nat} (hg : w.grownBy w' row) (hr : ∀ r, row = some r → B ≤ r ∧ ∃ cs fr, w.heap[r]? = some (.cells cs 97 fr)) : GrowP B w w' :=
  ⟨hg.size, fun I hI hw => hI () w w' row hw hg (fun r e => by obtain ⟨h1, cs, fr, h2⟩ := hr r e; exact ⟨h1, _, h2, Or.inr ⟨cs, fr, rfl⟩⟩)⟩
theorem blk_own {β : Type} {B b : Nat} {cs : Array Value} {t : TypeId} (ht : t ≠ 97) : OwnT B (fun (_ : β) W => Blk W b cs t) := fun s X Y row hs hg hr =>
  (hg.block b hs.lt (fun e => by
    obtain ⟨_, o, ho, h2⟩ := hr b e.symm
    rw [show X.heap[b]? = _ from hs] at ho
    cases ho
    rcases h2 with h2 | ⟨cs', fr, h2⟩
    · cases h2
    · simp only [Obj.cells.injEq] at h2; exact ht h2.2.1)).trans hs
theorem nd_own {β : Type} {B : Nat} (t : TI) : ∀ (p : Option Addr), OwnT B (fun (_ : β) W => Nd W p t) := by
  induction t with
  | nil => intro p s X Y row hs _ _; exact hs
  | node l k x r ihl ihr =>
    intro p s X Y row hs hg hr
    obtain ⟨b, pl, pr, h1, h2, h3, h4⟩ := hs
    exact ⟨b, pl, pr, h1, blk_own (by decide) s X Y row h2 hg hr, ihl pl s X Y row h3 hg hr, ihr pr s X Y row h4 hg hr⟩
theorem GrowP.nd {B : Nat} {w w' : World} (h : GrowP B w w') {p : Option Addr} {t : TI} (hn : Nd w p t) : Nd w' p t := h.own (nd_own t p) (s := ()) hn
theorem GrowP.kept {B : Nat} {w w' : World} (h : Kept [] w w') : GrowP B w w' :=
  ⟨h.size, fun I hI hw => hI () w w' none hw ⟨h.os, h.tape, h.output, h.size, fun k hk _ => h.block k hk (by simp)⟩ (fun r e => by cases e)⟩

/-- 'append(trail, n..)' -/
theorem wpList_append_nodes {base : Nat} (w : World) {ops : Array Oper} {rest : List Oper} {o : Oper} {a : Act} {Q : Exit → Act → World → Prop} (hgd : o.guard = none) (s x : Operand)
    (ho : o.op = .call { callee := .builtin .append, args := #[s, x], argTypes := #[95, 95] })
    {v : Value} {ts : List TI} (hs : a.eval s = v) (hbase : base ≤ w.heap.size) (hown : Hid (NRow base w v ts))
    {b m c : Nat} (hxv : a.eval x = .slice (some ⟨b, 0, none⟩) m c) {qs' : List (Option Addr)} {ts' : List TI} (hb : Hid (∀ j q, qs'[j]? = some q → w.cell? ⟨b, j, none⟩ = some (.pointer q))) (hm : Hid (qs'.length = m)) (hts : Hid (AllN w qs' ts'))
    (hl : Hid (ts.length + m ≤ 17592186044416))
    (h : ∀ va' n' vc' w', Hid (n' = ts.length + m) → Hid (NRow base w' (.slice va' n' vc') (ts ++ ts')) → Hid (GrowP base w w') → wpList Try.prog ops Q rest (a.put o.dst (.slice va' n' vc')) w') :
    wpList Try.prog ops Q (o :: rest) a w := by
  obtain ⟨i0, hi, hz0, hz1, hz2⟩ := info_parts info_pn
  obtain ⟨qs, h1, h2⟩ := unhide hown
  have hl' : ts.length + m ≤ 17592186044416 := hl
  have hm' : qs'.length = m := hm
  have hlen := h1.length
  have hlen' := (unhide hts).length
  refine wpList_append_own_at w hgd s x 95 ho base 97 i0 _ 1 8 Try.underlying95 hi hz0 hz1 hz2 rfl (by decide) v ts.length (qs.map Value.pointer) hs h2 ⟨b, 0, none⟩ m c (qs'.map Value.pointer) hxv (by simp [hm']) (fun j u hj => ?_) (by
      intro u hu
      obtain ⟨q, _, rfl⟩ := List.mem_map.1 hu
      rfl) (by unfold maxLen; omega) (by omega) hbase ?_
  · have hadd : (⟨b, 0, none⟩ : Addr).add j = ⟨b, j, none⟩ := by unfold Addr.add; split <;> simp_all
    rw [hadd]
    rw [List.getElem?_map] at hj
    cases hq : qs'[j]? with
    | none => rw [hq] at hj; cases hj
    | some q =>
      rw [hq] at hj
      have : u = .pointer q := by simpa using hj.symm
      rw [this]
      exact unhide hb j q hq
  · intro v' w' q1 q2 q3 q4
    obtain ⟨a', c', rfl⟩ := own_len q1
    have hgr : GrowP base w w' := GrowP.grown q2 (fun r hr => by
      refine ⟨(h2.lt r hr).1, ?_⟩
      rcases h2.2 with ⟨e1, e2⟩ | ⟨g', cap', cur, e1, _, hh, _⟩
      · rw [e1] at hr; cases hr
      · rw [e1] at hr; cases hr; exact ⟨_, _, hh⟩)
    refine h a' (ts.length + m) c' w' rfl ⟨qs ++ qs', ?_, ?_⟩ hgr
    · exact AllN.app ((unhide hts).imp (fun _ _ hx => hgr.nd hx)) (h1.imp (fun _ _ hx => hgr.nd hx))
    · rw [List.length_append, ← hlen', hm', List.map_append]
      exact q1

set_option maxRecDepth 100000 in
set_option maxHeartbeats 1000000 in
theorem lay_any {base : Nat} {w : World} {v : Value} {s : List TI} {p : Option Addr} {t : TI} (hv : NRow base w v s) (hp : Nd w p t) (hbase : base ≤ w.heap.size) (hl : s.length + t.depth ≤ 8796093022208) :
    Calls Try.prog 54 #[v, .pointer p, .bool false] w fun e w' => ∃ v', e = .returned v' ∧ NRow base w' v' (s ++ spine t) ∧ GrowP base w w' := by
  obtain ⟨qs0, hq1, hq2⟩ := hv
  obtain ⟨va, vc, rfl⟩ := own_len hq2
  have HV := hide (show NRow base w (.slice va s.length vc) s from ⟨qs0, hq1, hq2⟩)
  have HP := hide hp
  clear hq1 hq2 hp
  generalize hSL : s.length = SL at *
  have HSL := hide hSL
  clear hSL
  go_enter Try.func54, Try.ntmps54
  go_wp2_with fail
  go_loopw [0, 1] (fun tv nv wr => ∃ va n vc p' s' t', tv = .slice va n vc ∧ nv = .pointer p' ∧ n = s'.length ∧ NRow base wr (.slice va n vc) s' ∧ Nd wr p' t' ∧ s' ++ spine t' = s ++ spine t ∧ s'.length + t'.depth ≤ 8796093022208 ∧ GrowP base w wr) (fun _ nv wr => szOf wr nv)
  case atStart => exact ⟨va, SL, vc, p, s, t, rfl, rfl, (unhide HSL).symm, unhide HV, unhide HP, rfl, by rw [unhide HSL]; exact hl, GrowP.refl _ _⟩
  case round =>
    clear HV HP
    obtain ⟨va, n, vc, p', s', t', rfl, rfl, rfl, hv, hp, he, hl2, hg⟩ := hrel
    have HZ := hide (szOf_eq hp)
    have HV := hide hv
    have HE := hide he
    have HG := hide hg
    have hgs := hg.1
    cases t' with
    | nil =>
      have hp : p' = none := hp
      subst hp
      clear hv he hg
      go_wp2
      go_ret
      have he := unhide HE
      simp only [spine, List.append_nil] at he
      exact ⟨_, rfl, by rw [← he]; exact unhide HV, unhide HG⟩
    | node l k x r =>
      have HP := hide hp
      obtain ⟨g, pa, pb, rfl, hb, hl1, hr1⟩ := hp
      simp only [Tr.depth] at hl2
      have hka : Kept [] wr (wr.alloc (.cells #[.pointer (some ⟨g, 0, none⟩)] 97)) := (Kept.refl [] wr).alloc _
      have HV1 : Hid (NRow base (wr.alloc (.cells #[.pointer (some ⟨g, 0, none⟩)] 97)) (.slice va s'.length vc) s') := by
        obtain ⟨qs, h1, h2⟩ := hv
        exact ⟨qs, h1.imp (fun _ _ hx => hx.kept hka), own_kept h2 hka (by simp)⟩
      have HB1 : Hid (∀ j q, [(some ⟨g, 0, none⟩ : Option Addr)][j]? = some q → (wr.alloc (.cells #[.pointer (some ⟨g, 0, none⟩)] 97)).cell? ⟨wr.heap.size, j, none⟩ = some (.pointer q)) := by
        intro j q hj
        rw [(Blk.new wr #[.pointer (some ⟨g, 0, none⟩)] 97).cell j]
        match j, hj with
        | 0, hj => simp at hj; subst hj; rfl
        | j + 1, hj => simp at hj
      have HT1 : Hid (AllN (wr.alloc (.cells #[.pointer (some ⟨g, 0, none⟩)] 97)) [some ⟨g, 0, none⟩] [.node l k x r]) := ⟨⟨(unhide HP).kept hka, by simp⟩, trivial⟩
      have HL1 : Hid (s'.length + 1 ≤ 17592186044416) := by show s'.length + 1 ≤ 17592186044416; omega
      have HL := hide hl1
      have hbz : base ≤ (wr.alloc (.cells #[.pointer (some ⟨g, 0, none⟩)] 97)).heap.size := by simp; omega
      have HM1 : Hid ([(some ⟨g, 0, none⟩ : Option Addr)].length = 1) := rfl
      have HS : Hid (∀ W, GrowP base wr W → Calls Try.prog 77 #[.pointer (some ⟨g, 0, none⟩), .bool false] W fun e w' => e = .returned (.pointer pa) ∧ w' = W) := fun W hW => by
        obtain ⟨b2, pl2, pr2, e2, hb2, _, _⟩ := hW.nd (unhide HP)
        obtain rfl : g = b2 := by simpa using e2
        have hbb := hW.own (blk_own (β := Unit) (b := g) (by decide)) (s := ()) hb
        exact side_low rfl hbb
      clear hv he hg hb hl1 hr1
      go_wp2_with (first
        | (at_builtin; refine wpList_append_nodes _ rfl _ _ rfl rfl hbz HV1 rfl HB1 HM1 HT1 HL1 ?_; intro va' n' vc' w2 HN2 HV2 HG2; have HG3 : Hid (GrowP base wr w2) := (GrowP.kept hka).trans (unhide HG2))
        | (go_at_call 77; refine (unhide HS _ (unhide HG3)).mono ?_; rintro e w3 ⟨rfl, hq⟩; have hq' := hq.symm; subst hq'))
      refine ⟨⟨va', n', vc', pa, s' ++ [.node l k x r], l, rfl, rfl, by have := unhide HN2; simpa using this, unhide HV2, (unhide HG3).nd (unhide HL), ?_, by simp; omega, (unhide HG).trans (unhide HG3)⟩, ?_⟩
      · have := unhide HE; simp only [spine] at this; rw [← this]; simp
      · rw [szOf_eq ((unhide HG3).nd (unhide HL)), unhide HZ]; simp only [Tr.size]; omega
end Go.Proofs.Ytkejpbfbpomjfab.tre

/- A trail copied. -/
namespace Go.Proofs.Ytkejpbfbpomjfab.tre
open Go.RowKit
set_option linter.unusedVariables false

set_option maxRecDepth 100000 in
set_option maxHeartbeats 1000000 in
theorem clone_any {b0 : Nat} {w : World} {v : Value} {s : List TI} (hv : NRow b0 w v s) (hl : s.length ≤ 8796093022208) :
    Calls Try.prog 76 #[v] w fun e w' => ∃ v', e = .returned v' ∧ NRow w.heap.size w' v' s ∧ Kept [] w w' := by
  obtain ⟨qs, h1, h2⟩ := hv
  rcases h2.2 with ⟨rfl, e2⟩ | ⟨g, cap, cur, rfl, hg, hh, hc, hm, hcs, htake⟩
  · have hs : s = [] := List.eq_nil_of_length_eq_zero e2
    subst hs
    cases qs with
    | cons a b => exact h1.elim
    | nil =>
      clear h1 h2 e2 hl
      have hnil := fun (W : World) => Lib.run_eql_slice_nil (P := Try.prog) W 95 97 none 0 0 0 0 Try.underlying95
      go_enter Try.func76, Try.ntmps76
      go_wp2
      go_ret
      exact ⟨_, rfl, ⟨[], trivial, ⟨by simp, Or.inl ⟨rfl, rfl⟩⟩⟩, Kept.refl _ _⟩
  · have hka : Kept [] w (w.alloc (.cells #[] 97)) := (Kept.refl [] w).alloc _
    have HV1 : Hid (NRow w.heap.size (w.alloc (.cells #[] 97)) (.slice (some ⟨w.heap.size, 0, none⟩) 0 0) []) := ⟨[], trivial, ⟨by simp, Or.inr ⟨w.heap.size, 0, #[], rfl, Nat.le_refl _, Blk.new _ _ _, by simp, by unfold maxLen; omega, by simp, by simp⟩⟩⟩
    have hlen := h1.length
    have HB1 : Hid (∀ j q, qs[j]? = some q → (w.alloc (.cells #[] 97)).cell? ⟨g, j, none⟩ = some (.pointer q)) := by
      intro j q hj
      have hjl : j < s.length := by have := (List.getElem?_eq_some_iff.1 hj).1; omega
      have := h2.cells (g := g) rfl j (.pointer q) (by simp [hj])
      have hadd : (⟨g, 0, none⟩ : Addr).add j = ⟨g, j, none⟩ := by unfold Addr.add; split <;> simp_all
      rw [hadd] at this
      exact hka.cell' this
    have HT1 : Hid (AllN (w.alloc (.cells #[] 97)) qs s) := h1.imp (fun _ _ hx => hx.kept hka)
    have HL1 : Hid (([] : List TI).length + s.length ≤ 17592186044416) := by show ([] : List TI).length + s.length ≤ 17592186044416; simp; omega
    have HM1 : Hid (qs.length = s.length) := hlen
    have hbz : w.heap.size ≤ (w.alloc (.cells #[] 97)).heap.size := by simp
    obtain ⟨SL, hSL⟩ : ∃ SL, s.length = SL := ⟨_, rfl⟩
    rw [hSL] at HL1 HM1 hc ⊢
    clear h1 h2 hh hcs htake hlen
    have hnil := fun (W : World) => Lib.run_eql_slice_nil (P := Try.prog) W 95 97 (some ⟨g, 0, none⟩) SL cap 0 0 Try.underlying95
    go_enter Try.func76, Try.ntmps76
    go_wp2_with (first
      | (at_builtin; refine wpList_append_nodes _ rfl _ _ rfl rfl hbz HV1 rfl HB1 HM1 HT1 HL1 ?_; intro va' n' vc' w2 HN2 HV2 HG2))
    go_ret
    refine ⟨_, rfl, by simpa using unhide HV2, ?_⟩
    have h3 := (GrowP.kept (B := w.heap.size) hka).trans (unhide HG2)
    exact h3.own (I := fun (_ : Unit) W => Kept [] w W) (fun _ X Y row hs hg hr => hs.grown hg (fun k hk => Or.inr (hr k hk).1)) (s := ()) (Kept.refl _ _)
end Go.Proofs.Ytkejpbfbpomjfab.tre

/- The walk over nodes, as a sequence. -/
namespace Go.Proofs.Ytkejpbfbpomjfab.tre
open Go.RowKit Go.Shelf
set_option linter.unusedVariables false
attribute [local go_sem] Oper.semAt_some

theorem kpt_own {β : Type} {B : Nat} {w : World} (hB : w.heap.size ≤ B) : OwnT B (fun (_ : β) X => KpT w X) := fun s X Y row hs hg hr =>
  ⟨Nat.le_trans hs.size hg.size, fun k cs t fr hk ht => by
    have h1 := hs.same k cs t fr hk ht
    have hkl := (Array.getElem?_eq_some_iff.1 hk).1
    exact (hg.block k (Nat.lt_of_lt_of_le hkl hs.size) (fun e => by have := (hr k e.symm).1; omega)).trans h1⟩
theorem KpT.blk {A B : World} (h : KpT A B) {b : Nat} {cs : Array Value} {t : TypeId} (hb : Blk A b cs t) (ht : Fix t = true) : Blk B b cs t := (h.same b cs t (0, 0) hb ht).trans hb
theorem KpT.nd {A B : World} (h : KpT A B) {t : TI} : ∀ {p : Option Addr}, Nd A p t → Nd B p t := by
  induction t with
  | nil => intro p hp; exact hp
  | node l k x r ihl ihr =>
    rintro p ⟨b, pl, pr, e, hb, hl, hr⟩
    exact ⟨b, pl, pr, e, h.blk hb (by decide), ihl hl, ihr hr⟩
theorem KpT.nrow {A B : World} (h : KpT A B) {base : Nat} {v : Value} {s : List TI} (hn : NRow base A v s) : NRow base B v s := by
  obtain ⟨qs, h1, h2⟩ := hn
  refine ⟨qs, h1.imp (fun _ _ hx => h.nd hx), h2.1, ?_⟩
  rcases h2.2 with h3 | ⟨g, cap, cur, hv, hg, hh, r⟩
  · exact Or.inl h3
  · exact Or.inr ⟨g, cap, cur, hv, hg, (h.same g cur 97 (0, 0) hh (by decide)).trans hh, r⟩
/-- a shorter trail -/
theorem NRow.take {base : Nat} {w : World} {g n cap : Nat} {s : List TI} (h : NRow base w (.slice (some ⟨g, 0, none⟩) n cap) s) {m : Nat} (hm : m ≤ s.length) : NRow base w (.slice (some ⟨g, 0, none⟩) m cap) (s.take m) := by
  obtain ⟨qs, h1, h2⟩ := h
  have hlen := h1.length
  refine ⟨qs.take m, h1.take m, by simp; omega, ?_⟩
  rcases h2.2 with ⟨e1, _⟩ | ⟨g', cap', cur, e1, hg, hh, hc, hmx, hcs, htake⟩
  · cases e1
  · cases e1
    refine Or.inr ⟨g, cap, cur, by simp; omega, hg, hh, by simp; omega, hmx, hcs, ?_⟩
    have : (s.take m).length * 1 = m := by simp; omega
    rw [this]
    have h3 : (cur.toList.take (s.length * 1)).take m = (qs.map Value.pointer).take m := by rw [htake]
    rw [List.take_take, Nat.min_eq_left (by omega)] at h3
    rw [h3, List.map_take]
theorem NRow.one {base base' : Nat} {w : World} {v : Value} {s s2 : List TI} (h : NRow base w v s) (k : NRow base' w v s2) : s = s2 := by
  obtain ⟨qs, h1, h2⟩ := h
  obtain ⟨qs', k1, k2⟩ := k
  have hl1 := h1.length
  have hl2 := k1.length
  obtain ⟨a, c, e1⟩ := own_len h2
  obtain ⟨a', c', e2⟩ := own_len k2
  rw [e1] at e2
  have hl : s.length = s2.length := by simp only [Value.slice.injEq] at e2; exact e2.2.1
  have hq : qs = qs' := by
    rcases h2.2 with ⟨_, e⟩ | ⟨g, cap, cur, ev, hg, hh, hc, hm, hcs, ht⟩
    · have : qs = [] := List.eq_nil_of_length_eq_zero (by omega)
      have : qs' = [] := List.eq_nil_of_length_eq_zero (by omega)
      simp [*]
    · rcases k2.2 with ⟨_, e⟩ | ⟨g', cap', cur', ev', hg', hh', hc', hm', hcs', ht'⟩
      · have : qs = [] := List.eq_nil_of_length_eq_zero (by omega)
        have : qs' = [] := List.eq_nil_of_length_eq_zero (by omega)
        simp [*]
      · rw [ev] at ev'
        simp only [Value.slice.injEq, Option.some.injEq, Addr.mk.injEq] at ev'
        obtain ⟨⟨rfl, _⟩, _, rfl⟩ := ev'
        rw [hh] at hh'
        simp only [Option.some.injEq, Obj.cells.injEq] at hh'
        obtain ⟨rfl, _⟩ := hh'
        rw [hl] at ht
        have h3 := ht.symm.trans ht'
        exact (List.map_inj_right (fun a b e => by cases e; rfl)).1 h3
  subst hq
  clear h2 k2 e1 e2 hl1 hl2 hl
  induction qs generalizing s s2 with
  | nil =>
    cases s with
    | nil => cases s2 with
      | nil => rfl
      | cons => exact k1.elim
    | cons => exact h1.elim
  | cons q qs ih =>
    cases s with
    | nil => exact h1.elim
    | cons t s =>
      cases s2 with
      | nil => exact k1.elim
      | cons t2 s2 => rw [h1.1.1.one k1.1.1, ih h1.2 k1.2]
open Classical in
/-- how many entries are still to come -/
noncomputable def szT (w : World) (v : Value) : Nat := if h : ∃ s : List TI, ∃ b, NRow b w v s then (outR (Classical.choose h).reverse).length else 0
theorem szT_eq {w : World} {b : Nat} {v : Value} {s : List TI} (h : NRow b w v s) : szT w v = (outR s.reverse).length := by
  have hx : ∃ s : List TI, ∃ b, NRow b w v s := ⟨s, b, h⟩
  unfold szT
  rw [dif_pos hx]
  obtain ⟨b', hb'⟩ := Classical.choose_spec hx
  rw [hb'.one h]

/-- an entry's node -/
abbrev NE := Option Addr × ByteArray × VT
def ent (e : NE) : ByteArray × VT := e.2
theorem KpT.mid {A B : World} (h : KpT A B) {p : Option Addr} {k : ByteArray} {x : VT} (hm : Mid A p k x) : Mid B p k x := by
  obtain ⟨b, u1, u2, u3, u4, e, hb⟩ := hm
  exact ⟨b, u1, u2, u3, u4, e, h.blk hb (by decide)⟩

theorem outR_len {w : World} {qs : List (Option Addr)} {s : List TI} (h : AllN w qs s) : s.length ≤ (outR s.reverse).length := by
  have gen : ∀ (s : List TI), (∀ t ∈ s, t ≠ .nil) → s.length ≤ (outR s).length := by
    intro s
    induction s with
    | nil => intro _; exact Nat.zero_le _
    | cons t s ih =>
      intro ht
      have h1 := ih (fun x hx => ht x (List.mem_cons_of_mem _ hx))
      cases t with
      | nil => exact absurd rfl (ht .nil (List.mem_cons_self ..))
      | node l k x r => simp only [outR, List.length_cons, List.length_append]; omega
  have hne : ∀ t ∈ s, t ≠ .nil := by
    intro t ht
    obtain ⟨i, hi, rfl⟩ := List.getElem_of_mem ht
    obtain ⟨_, _, _, h3⟩ := h.get i hi
    exact h3
  have := gen s.reverse (fun t ht => hne t (List.mem_reverse.1 ht))
  simpa using this

theorem run_slice_to (W : World) (g m n vc : Nat) (h1 : m ≤ vc) : (Instr.slice 95 (.slice (some ⟨g, 0, none⟩) n vc) none (some (.int .i64 (m : Int))) none).run Try.prog W = .ok (.slice (some ⟨g, 0, none⟩) m vc) W := by
  have i3 : (m : Int) ≤ (vc : Int) := by omega
  have i5 : (0 : Int) ≤ (m : Int) := by omega
  simp [Instr.slice, go_sem, i3]

set_option maxRecDepth 100000 in
set_option maxHeartbeats 2000000 in
theorem walk_seq {w : World} {bt bd b0 : Nat} {vt : Value} {s : List TI} (hbt : Blk w bt #[vt] 95) (hbd : Blk w bd #[.bool false] 4) (hs : NRow b0 w vt s) (hl : (outR s.reverse).length ≤ 8796093022208) :
    SeqO 75 #[.pointer (some ⟨bt, 0, none⟩), .pointer (some ⟨bd, 0, none⟩)] (fun e : NE => #[Value.pointer e.1]) (fun e V => Mid V e.1 e.2.1 e.2.2 ∧ ent e ∈ outR s.reverse) (fun xs => xs.map ent = outR s.reverse) (fun pre => pre.map ent <+: outR s.reverse) (outR s.reverse).length w := by
  intro l J Jx W hW hJ hJx hY h0
  have hbt' := (hW.blk hbt (by decide)).cell 0
  have hbd' := (hW.blk hbd (by decide)).cell 0
  simp only [List.getElem?_toArray, List.getElem?_cons_zero] at hbt' hbd'
  have hs' := hW.nrow hs
  have HC := hide (clone_any hs' (by obtain ⟨_, h1, _⟩ := hs'; have := outR_len h1; omega))
  have HBD := hide hbd
  obtain ⟨qs0, -, hq2⟩ := hs
  obtain ⟨ta, tc, rfl⟩ := own_len hq2
  generalize hSL : s.length = SL at *
  have HSL := hide hSL
  have HJ := hide hJ
  have HJX := hide hJx
  have HY := hide hY
  have HW := hide hW
  have H0 := hide h0
  clear hSL hJ hJx hY hW h0 hq2 hs' hbt hbd
  refine callsIn_of_wp Try.func75 rfl trivial ?_ rfl
  simp only [Try.ntmps75, List.size_toArray, List.length_cons, List.length_nil, Nat.reduceAdd, Nat.reduceSub, Array.replicate_succ, Array.replicate_zero, List.push_toArray, List.append_toArray, List.nil_append, List.cons_append]
  gi_wp2_with (refine ⟨trivial, rfl, ?_⟩; gi_at_call 76; refine (callsIn_wide.2 (unhide HC)).mono ?_; rintro e w1 ⟨v1, rfl, hn1, hk1⟩; obtain ⟨qs1, hq1a, hq1b⟩ := hn1; obtain ⟨va1, vc1, rfl⟩ := own_len hq1b)
  have HS : Hid (∃ va n vc s' pre, Value.slice va1 s.length vc1 = .slice va n vc ∧ n = s'.length ∧ NRow W.heap.size w1 (.slice va n vc) s' ∧ J pre w1 ∧ pre.map ent ++ outR s'.reverse = outR s.reverse ∧ KpT w w1 ∧ W.heap.size ≤ w1.heap.size) :=
    ⟨va1, s.length, vc1, s, [], rfl, rfl, ⟨qs1, hq1a, hq1b⟩, (GrowP.kept hk1).own (unhide HJ) (unhide H0), rfl, (unhide HW).trans (KpT.of_kept hk1), hk1.size⟩
  clear hq1a hq1b hk1 H0 HC
  gi_loopw [4] (fun tv wr => ∃ va n vc s' pre, tv = .slice va n vc ∧ n = s'.length ∧ NRow W.heap.size wr (.slice va n vc) s' ∧ J pre wr ∧ pre.map ent ++ outR s'.reverse = outR s.reverse ∧ KpT w wr ∧ W.heap.size ≤ wr.heap.size) (fun tv wr => szT wr tv)
  case atStart => exact unhide HS
  case round =>
    clear HS
    obtain ⟨va, n, vc, s', pre, rfl, rfl, hn, hj, he, hkp, hsz⟩ := hrel
    have HN := hide hn
    have HJP := hide hj
    have HE := hide he
    have HKP := hide hkp
    rcases List.eq_nil_or_concat s' with rfl | ⟨s0, t, rfl⟩
    · clear hn hj he hkp
      gi_wp2
      go_end0
      exact ⟨⟨_, rfl⟩, .inl ⟨pre, by simpa [outR] using unhide HE, unhide HJP⟩⟩
    · rw [List.concat_eq_append] at hn he
      rw [List.concat_eq_append] at HN HE ⊢
      have hlen0 : (s0 ++ [t]).length = s0.length + 1 := by simp
      have HZ := hide (szT_eq hn)
      obtain ⟨qs, hA, hO⟩ := hn
      obtain ⟨qt, hqt, hnd, htn⟩ := hA.get s0.length (by simp)
      rw [List.getElem_concat_length rfl] at hnd htn
      have hrl := outR_len hA
      cases t with
      | nil => exact absurd rfl htn
      | node l0 k0 x0 r0 =>
        have hout : outR (s0 ++ [Tr.node l0 k0 x0 r0]).reverse = (k0, x0) :: (r0.list ++ outR s0.reverse) := by simp [outR]
        have hmid : Mid wr qt k0 x0 := hnd.mid
        rcases hO.2 with ⟨e1, e2⟩ | ⟨g, cap, cur, e1, hg, hh, hcc, hmx, hcs, htake⟩
        · simp at e2
        · cases e1
          have hcell : wr.cell? ⟨g, s0.length, none⟩ = some (.pointer qt) := by
            have := hO.cells (g := g) rfl s0.length (.pointer qt) (by simp [hqt])
            have hadd : (⟨g, 0, none⟩ : Addr).add s0.length = ⟨g, s0.length, none⟩ := by unfold Addr.add; split <;> simp_all
            rw [hadd] at this
            exact this
          have HND := hide hnd
          have htk := NRow.take (m := s0.length) (show NRow W.heap.size wr (.slice (some ⟨g, 0, none⟩) (s0 ++ [Tr.node l0 k0 x0 r0]).length vc) (s0 ++ [Tr.node l0 k0 x0 r0]) from ⟨qs, hA, hO⟩) (by simp)
          rw [List.take_left' rfl] at htk
          have HTK := hide htk
          have hor : (outR s0.reverse).length + r0.size + 1 ≤ 8796093022208 := by
            have h1 := congrArg List.length (unhide HE)
            rw [hout] at h1
            simp only [List.length_append, List.length_map, List.length_cons, Tr.list_length] at h1
            omega
          have hs0 : s0.length ≤ (outR s0.reverse).length := by
            obtain ⟨qs2, hA2, _⟩ := htk
            exact outR_len hA2
          have hdr := r0.depth_le_size
          obtain ⟨gn, pl, pr, rfl, hbn, hnl, hnr⟩ := hnd
          have HS1 : Hid (∀ V, V.heap = wr.heap → Calls Try.prog 77 #[.pointer (some ⟨gn, 0, none⟩), .bool true] V fun e w' => e = .returned (.pointer pr) ∧ w' = V) := fun V hV => side_high rfl (by unfold Blk at hbn ⊢; rw [hV]; exact hbn)
          have HL1 : Hid (∀ V, Kept [] wr V → Calls Try.prog 54 #[.slice (some ⟨g, 0, none⟩) s0.length vc, .pointer pr, .bool false] V fun e w' => ∃ v', e = .returned v' ∧ NRow W.heap.size w' v' (s0 ++ spine r0) ∧ GrowP W.heap.size wr w') := fun V hV => by
            have hk1 : NRow W.heap.size V (.slice (some ⟨g, 0, none⟩) s0.length vc) s0 := (KpT.of_kept hV).nrow (unhide HTK)
            exact (lay_any hk1 (hnr.kept hV) (Nat.le_trans hsz hV.size) (by omega)).mono (by rintro e w' ⟨v', h1, h2, h3⟩; exact ⟨v', h1, h2, (GrowP.kept hV).trans h3⟩)
          have cbd := ((unhide HKP).blk (unhide HBD) (by decide)).cell 0
          simp only [List.getElem?_toArray, List.getElem?_cons_zero] at cbd
          have hprl : pre.length < (outR s.reverse).length := by
            rw [← unhide HE, hout]; simp
          have hmem : (k0, x0) ∈ outR s.reverse := by rw [← unhide HE, hout]; simp
          have HMEM := hide hmem
          clear hmem
          have HOUT := hide hout
          have HPX : Hid ((pre ++ [((some ⟨gn, 0, none⟩, k0, x0) : NE)]).map ent <+: outR s.reverse) := by
            show _ <+: _
            rw [← unhide HE, hout]
            simp [ent]
          clear hA hO hj he hkp htk hnl hnr hbn hh htake hqt hrl hout hg
          obtain ⟨m, hm⟩ : ∃ m, s0.length = m := ⟨_, rfl⟩
          rw [hlen0]
          rw [hm] at HL1 hcell hs0 ⊢
          have i1 : (m : Int) < (m : Int) + 1 := by omega
          have i2 : (m : Int) + 1 - 1 = (m : Int) := by omega
          have i4 : m ≤ vc := by omega
          have i6 : m ≤ 8796093022208 := by omega
          have hw1 : IntKind.i64.wrap ((m : Int) + 1 - 1) = (m : Int) := by rw [IntKind.wrap_i64]; omega
          have hw2 : IntKind.i64.wrap (m : Int) = (m : Int) := by rw [IntKind.wrap_i64]; omega
          have hw3 : IntKind.i64.wrap (((m + 1 : Nat) : Int) - 1) = (m : Int) := by rw [IntKind.wrap_i64]; omega
          have hsl := fun (V : World) => run_slice_to V g m (m + 1) vc i4
          have i3 : (m : Int) ≤ (vc : Int) := by omega
          have i5 : (0 : Int) ≤ (m : Int) := by omega
          gi_wp2
          refine wpIn_wide.2 ?_
          go_region_held3 (fun w' => w'.cell? ⟨bd, 0, none⟩ = some (.bool false)) (first | go_keep | (exact (unhide HCB))) (first
            | (go_at_call 77; refine (unhide HS1 _ (by rfl)).mono ?_; rintro e w3 ⟨rfl, hq⟩; have hq' := hq.symm; subst hq')
            | (go_at_call 54; refine (unhide HL1 _ (by first | exact Kept.refl _ _ | exact (Kept.refl _ _).drew)).mono ?_; rintro e w4 ⟨v4, rfl, hn4, hg4⟩; obtain ⟨qs4, hq4a, hq4b⟩ := hn4; obtain ⟨a4, c4, rfl⟩ := own_len hq4b; have HN4 := hide (show NRow W.heap.size w4 _ _ from ⟨qs4, hq4a, hq4b⟩); have HG4 := hide hg4; have HCB : Hid (w4.cell? ⟨bd, 0, none⟩ = some (.bool false)) := (by
                have h1 := (hg4.own (kpt_own (β := Unit) (B := W.heap.size) (w := w) (unhide HW).size) (s := ()) (unhide HKP)).blk (unhide HBD) (by decide)
                have h2 := h1.cell 0
                exact h2); have hyy := unhide HY pre (some ⟨gn, 0, none⟩, k0, x0) w4 (Nat.le_trans hsz (unhide HG4).1) ((unhide HG4).own (unhide HJ) (unhide HJP)) ⟨((unhide HG4).nd (unhide HND)).mid, unhide HMEM⟩ hprl; obtain ⟨fn, tmps, assign, body, hy, hR⟩ := hyy; have HR := hide hR; clear hq4a hq4b hg4 hR))
          all_goals gi_wp2
          all_goals
            refine ⟨rfl, (unhide HR).mono ?_⟩
            rintro e V4 ⟨hkf, ⟨rfl, hkq, hj4⟩ | ⟨rfl, hjx4⟩⟩
            · have HJ4 := hide hj4
              have HKQ := hide hkq
              clear hj4 hkq hkf
              gi_wp2
              go_roundw
              case rel =>
                have hn5 := (unhide HKQ).nrow (unhide HN4)
                refine ⟨a4, _, c4, s0 ++ spine r0, pre ++ [(some ⟨gn, 0, none⟩, k0, x0)], rfl, by simp [hm], by simpa [hm] using hn5, unhide HJ4, ?_, ((unhide HG4).own (kpt_own (β := Unit) (B := W.heap.size) (w := w) (unhide HW).size) (s := ()) (unhide HKP)).trans (unhide HKQ), Nat.le_trans (Nat.le_trans hsz (unhide HG4).1) (unhide HKQ).size⟩
                rw [← unhide HE, unhide HOUT, List.reverse_append, outR_spine]
                simp [ent]
              case measure =>
                have hn5 := (unhide HKQ).nrow (unhide HN4)
                have hz5 := szT_eq hn5
                have hz0 := unhide HZ
                rw [unhide HOUT] at hz0
                rw [List.reverse_append, outR_spine] at hz5
                simp only [List.length_append, List.length_cons, List.length_nil, Nat.zero_add, hm] at hz5 hz0
                rw [hz5, hz0]
                omega
            · have HJX4 := hide hjx4
              clear hjx4 hkf
              gi_wp2
              refine bodyPost_ret (results_none rfl _ _ _) rfl ?_
              exact ⟨⟨_, rfl⟩, .inr ⟨pre ++ [(some ⟨gn, 0, none⟩, k0, x0)], unhide HPX, unhide HJX4⟩⟩
end Go.Proofs.Ytkejpbfbpomjfab.tre
