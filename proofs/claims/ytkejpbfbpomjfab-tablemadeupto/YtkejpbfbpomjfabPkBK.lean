/- A text of the base. -/
import Derived.Test.YtkejpbfbpomjfabPkY
/- A range loop whose rounds begin with a box. -/
namespace Go.Proofs.Ytkejpbfbpomjfab.tre
open Go.RowKit

set_option maxHeartbeats 1000000 in
/-- as range_own, where each round begins with a box of its own (bxo) -/
theorem range_own2 {α : Type} {g : Operand} {ps : Array Tmp} {assign body : Code} {Q : Exit → Act → World → Prop} {a : Act} {w : World}
    {gf : Nat} {lb : Array Value} (hg : a.eval g = .func (.func gf) #[] lb) (eg : ∀ args w, (callFunc gf args).run Try.prog w = .ok (.enter gf args) w)
    {encs : α → Array Value} {G : α → World → Prop} {S Sp : List α → Prop} {N : Nat} {w0 : World} (hseq : SeqO gf lb encs G S Sp N w0) (hG : OwnT w.heap.size G) (hb0 : KpT w0 w) (hps : ∀ x, (encs x).size = ps.size)
    (I : List α → World → Prop) (Ix : Code → List α → World → Prop) (hI : OwnT w.heap.size I) (hIx : ∀ c, OwnT w.heap.size (Ix c)) (h0 : I [] w) (bxo : α → Obj) (a₁ : α → Nat → Act)
    (hassign : ∀ (l : Nat) (x : α) (W : World) (K : Act → World → Prop), K (a₁ x W.heap.size) (W.alloc (bxo x)) →
      assign.wpIn (Fence.wide.inRound l) 0 Try.prog (Exit.then K (fun _ _ _ => False)) { tmps := (ps.zip (encs x)).foldl (fun t (p, v) => t.setIfInBounds p v) a.tmps, defers := [] } W)
    (hbody : ∀ (l : Nat) (pre : List α) (x : α) (W : World) (n : Nat), I pre W → G x W → W.heap[n]? = some (bxo x) → w.heap.size ≤ n → pre.length < N → body.wpIn (Fence.wide.inRound l) 0 Try.prog (PostO w.heap.size I Ix (pre ++ [x]) W) (a₁ x n) W)
    (hdone : ∀ (D : Nat) (xs : List α) (W : World), w.heap.size ≤ D → S xs → I xs W → W.heap[D]? = some (.deferred (some [])) → Q .normal { a with defers := { target := .collected D, args := #[] } :: a.defers } W)
    (hstop : ∀ (D : Nat) (c : Code) (pre : List α) (W : World), w.heap.size ≤ D → Sp pre → Ix c pre W → W.heap[D]? = some (.deferred (some [])) → c.wpIn Fence.wide 0 Try.prog Q { a with defers := { target := .collected D, args := #[] } :: a.defers } W) :
    (Code.rangeFunc g ps assign body).wpIn Fence.wide 0 Try.prog Q a w := by
  refine wpIn_rangeFunc fun fn hfn => ?_
  -- the loop's record, in its states
  let rc : LoopState → Option Code → Loop := fun st pe => { state := st, pending := pe, fn, tmps := a.tmps, params := ps, assign, body, defers := w.heap.size }
  have hrc : ∀ st pe, rc st pe = { state := st, pending := pe, fn, tmps := a.tmps, params := ps, assign, body, defers := w.heap.size } := fun _ _ => rfl
  obtain ⟨W1, hW1⟩ : ∃ W1, (w.alloc (.deferred (some []))).alloc (.loop (rc .ready none)) = W1 := ⟨_, rfl⟩
  have hz1 : W1.heap.size = w.heap.size + 2 := by rw [← hW1]; simp
  have hL1 : W1.heap[w.heap.size + 1]? = some (.loop (rc .ready none)) := by
    rw [← hW1]
    have h := World.alloc_heap_new (w.alloc (.deferred (some []))) (.loop (rc .ready none))
    rw [World.size_alloc] at h
    exact h
  have hD1 : W1.heap[w.heap.size]? = some (.deferred (some [])) := by
    rw [← hW1]; exact (Below.heap_alloc _ _ _ (by simp)).trans (World.alloc_heap_new w _)
  have hI1 : I [] W1 := by rw [← hW1]; exact own_alloc hI _ (own_alloc hI _ h0)
  have hb1 : KpT w0 W1 := by
    rw [← hW1]; exact hb0.trans (KpT.of_kept (((Kept.refl [] w).alloc _).alloc _))
  -- what is held between two rounds, and where a round has ended it
  let J : List α → World → Prop := fun pre V => (I pre V ∧ V.heap[w.heap.size + 1]? = some (.loop (rc .ready none))) ∧ V.heap[w.heap.size]? = some (.deferred (some []))
  let Jx : List α → World → Prop := fun pre V => ∃ c, (Ix c pre V ∧ V.heap[w.heap.size + 1]? = some (.loop (rc .done (some c)))) ∧ V.heap[w.heap.size]? = some (.deferred (some []))
  have hJ : OwnT W1.heap.size J := own_and (own_and (own_up hI (by omega)) (own_low (by omega))) (own_low (by omega))
  have hJx : OwnT W1.heap.size Jx := fun s X Y row hs hgr hr => by
    obtain ⟨c, hc⟩ := hs
    exact ⟨c, (own_and (own_and (own_up (hIx c) (by omega)) (own_low (β := List α) (o := .loop (rc .done (some c))) (by omega))) (own_low (by omega))) s X Y row hc hgr hr⟩
  refine ⟨w.heap.size + 1, [{ target := .collected w.heap.size, args := #[] }], W1, { target := .fn (.func gf) lb, args := #[.func (.yield (w.heap.size + 1)) #[] #[]] }, W1, gf,
    #[.func (.yield (w.heap.size + 1)) #[] #[]] ++ lb, W1, ?_, ?_, fun _ _ => trivial, ?_, (fun h => by cases h), ?_⟩
  · rw [← hW1]; exact run_enterLoop_outer _ _ _ _ _
  · simp only [resolve, hg]
    simp [go_sem]
  · simp [invoke, go_sem, eg]
  · refine (hseq (w.heap.size + 1) J Jx W1 hb1 hJ hJx ?round ⟨⟨hI1, hL1⟩, hD1⟩).mono ?behind
    case round =>
      rintro pre x V hV ⟨⟨hi, hl⟩, hd⟩ hgx hlen
      have hy := run_yield (P := Try.prog) (args := encs x) hl (hps x)
      refine ⟨fn, _, assign, body, hy, roundIn_of_wpIn hfn (hassign _ x V _ ?_)⟩
      have hltV : w.heap.size + 1 < V.heap.size := (Array.getElem?_eq_some_iff.1 hl).1
      have hkV : KeepsFrom W1.heap.size V (V.alloc (bxo x)) := (KeepsOthers.alloc V _).from _
      have hpV : KpT V (V.alloc (bxo x)) := KpT.of_kept ((Kept.refl [] V).alloc _)
      have hnew : (V.alloc (bxo x)).heap[V.heap.size]? = some (bxo x) := World.alloc_heap_new V _
      have hn0 : w.heap.size ≤ V.heap.size := by omega
      have hnl : V.heap.size ≠ w.heap.size + 1 := by omega
      obtain ⟨nb, hnb⟩ : ∃ nb, V.heap.size = nb := ⟨_, rfl⟩
      rw [hnb] at hnew hn0 hnl ⊢
      replace hi := own_alloc hI (bxo x) hi
      replace hgx := own_alloc hG (bxo x) hgx
      replace hl : (V.alloc (bxo x)).heap[w.heap.size + 1]? = some (.loop (rc .ready none)) := (Below.heap_alloc _ _ _ hltV).trans hl
      replace hd : (V.alloc (bxo x)).heap[w.heap.size]? = some (.deferred (some [])) := (Below.heap_alloc _ _ _ (by omega)).trans hd
      obtain ⟨VA, hVA⟩ : ∃ VA, V.alloc (bxo x) = VA := ⟨_, rfl⟩
      rw [hVA] at hi hgx hl hd hkV hpV hnew ⊢
      have hlt : w.heap.size + 1 < VA.heap.size := (Array.getElem?_eq_some_iff.1 hl).1
      refine ⟨_, run_beginRound hl rfl, ?_⟩
      obtain ⟨V1, hV1⟩ : ∃ V1, VA.putObj (w.heap.size + 1) (.loop { rc .ready none with state := .busy }) = V1 := ⟨_, rfl⟩
      have hs1 : V1.heap.size = VA.heap.size := by rw [← hV1]; simp
      have hl1 : V1.heap[w.heap.size + 1]? = some (.loop (rc .busy none)) := by rw [← hV1]; exact World.putObj_heap_same hlt
      have hd1 : V1.heap[w.heap.size]? = some (.deferred (some [])) := by rw [← hV1]; exact (World.putObj_heap_other (by omega)).trans hd
      have hi1 : I pre V1 := by rw [← hV1]; exact own_put hI _ hi (by omega) hl rfl
      have hg1 : G x V1 := by rw [← hV1]; exact own_put hG _ hgx (by omega) hl rfl
      have hn1 : V1.heap[nb]? = some (bxo x) := by rw [← hV1]; exact (World.putObj_heap_other hnl).trans hnew
      have hk1 : KeepsFrom W1.heap.size V V1 := hkV.trans (by rw [← hV1]; exact keeps_put _ (by omega))
      have hb1 : KpT V V1 := hpV.trans (by rw [← hV1]; exact KpT.put _ hl rfl)
      show body.wpIn _ _ _ _ (a₁ x nb) (VA.putObj (w.heap.size + 1) (.loop { rc .ready none with state := .busy }))
      rw [hV1]
      refine wpIn_mono (hbody _ pre x V1 nb hi1 hg1 hn1 hn0 hlen) ?_
      -- the record behind the body
      have fin : ∀ (jump : Option Code) (V3 : World), KeepsFrom w.heap.size V1 V3 → ∃ V4, (Instr.endRound (w.heap.size + 1) jump).run Try.prog V3 = .ok (.bool jump.isNone) V4 ∧ V4 = V3.putObj (w.heap.size + 1) (.loop (rc (if jump.isNone then .ready else .done) jump)) ∧
          V3.heap[w.heap.size + 1]? = some (.loop (rc .busy none)) ∧ V4.heap[w.heap.size + 1]? = some (.loop (rc (if jump.isNone then .ready else .done) jump)) ∧ V4.heap[w.heap.size]? = some (.deferred (some [])) ∧ KeepsFrom W1.heap.size V V4 ∧ (KpT V1 V3 → KpT V V4) := by
        intro jump V3 hk3
        have hl3 := hk3.same _ _ (by omega) hl1 rfl
        have hd3 := hk3.same _ _ (Nat.le_refl _) hd1 rfl
        refine ⟨_, run_endRound jump hl3, rfl, hl3, World.putObj_heap_same (Array.getElem?_eq_some_iff.1 hl3).1, (World.putObj_heap_other (by omega)).trans hd3, ?_⟩
        have hk3' : KeepsFrom W1.heap.size V1 V3 := ⟨hk3.size, fun k o hk h ho => hk3.same k o (by omega) h ho⟩
        exact ⟨(hk1.trans hk3').trans (keeps_put _ (by omega)), fun hkp => (hb1.trans hkp).trans (KpT.put _ hl3 rfl)⟩
      rintro e a3 V3 hp
      cases e with
      | normal =>
        obtain ⟨⟨hk3, hkp⟩, hi3⟩ := hp
        obtain ⟨V4, hr, e4, hl3, hl4, hd4, hkf, hkq⟩ := fin none V3 hk3
        refine ⟨_, _, hr, hkf, .inl ⟨rfl, hkq hkp, ⟨?_, hl4⟩, hd4⟩⟩
        rw [e4]; exact own_put hI _ hi3 (by omega) hl3 rfl
      | ret =>
        obtain ⟨hk3, hi3⟩ := hp
        obtain ⟨V4, hr, e4, hl3, hl4, hd4, hkf, -⟩ := fin (some .ret) V3 hk3
        exact ⟨_, _, hr, hkf, .inr ⟨rfl, .ret, ⟨by rw [e4]; exact own_put (hIx _) _ hi3 (by omega) hl3 rfl, hl4⟩, hd4⟩⟩
      | exit id =>
        obtain ⟨hk3, hi3⟩ := hp
        obtain ⟨V4, hr, e4, hl3, hl4, hd4, hkf, -⟩ := fin (some (.exit id)) V3 hk3
        exact ⟨_, _, hr, hkf, .inr ⟨rfl, .exit id, ⟨by rw [e4]; exact own_put (hIx _) _ hi3 (by omega) hl3 rfl, hl4⟩, hd4⟩⟩
      | goto t =>
        obtain ⟨hk3, hi3⟩ := hp
        obtain ⟨V4, hr, e4, hl3, hl4, hd4, hkf, -⟩ := fin (some (.goto t)) V3 hk3
        exact ⟨_, _, hr, hkf, .inr ⟨rfl, .goto t, ⟨by rw [e4]; exact own_put (hIx _) _ hi3 (by omega) hl3 rfl, hl4⟩, hd4⟩⟩
      | panic ch => exact hp.elim
      | outgrown => exact hp.elim
    case behind =>
      rintro e V ⟨⟨v, rfl⟩, ⟨xs, hS, ⟨hi, hl⟩, hd⟩ | ⟨pre, hSp, c, ⟨hi, hl⟩, hd⟩⟩
      · refine ⟨none, _, run_endLoop (P := Try.prog) hl (by simp [hrc]), ?_⟩
        exact hdone _ xs _ (Nat.le_refl _) hS (own_put hI _ hi (by omega) hl rfl) ((World.putObj_heap_other (by omega)).trans hd)
      · refine ⟨some c, _, run_endLoop (P := Try.prog) hl (by simp [hrc]), ?_⟩
        exact hstop _ c pre _ (Nat.le_refl _) hSp (own_put (hIx c) _ hi (by omega) hl rfl) ((World.putObj_heap_other (by omega)).trans hd)
end Go.Proofs.Ytkejpbfbpomjfab.tre
