/- A tree's row, gone through by its sequence. -/
import Derived.Test.YtbpeeifgfjpghabTSeqE
import Derived.Test.YtbpeeifgfjpghabTAll
namespace Go.Proofs.Ytbpeeifgfjpghab
open Go.RowKit Go.Shelf
set_option linter.unusedVariables false
attribute [local go_sem] Oper.semAt_some

theorem info_i : (Try.prog.info? 3).map (fun i => (i.zero, i.size, i.bytes)) = some (some (.int .i64 0), 1, 8) := by kernel_rfl
/-- keys and values by turns -/
def flat (l : List (Int × Int)) : List Int := l.flatMap (fun e => [e.1, e.2])
theorem flat_len (l : List (Int × Int)) : (flat l).length = 2 * l.length := by
  induction l with
  | nil => rfl
  | cons a l ih => simp only [flat, List.flatMap_cons, List.length_append, List.length_cons, List.length_nil] at *; omega
theorem flat_snoc (l : List (Int × Int)) (e : Int × Int) : flat (l ++ [e]) = flat l ++ [e.1, e.2] := by simp [flat]

theorem keeps_cells {B : Nat} {W W' : World} {row : Option Nat} (hg : W.grownBy W' row) (hr : ∀ r, row = some r → ∃ cs t fr, W.heap[r]? = some (.cells cs t fr)) : KeepsFrom B W W' :=
  ⟨hg.size, fun k o _ hk ho => (hg.block k (Array.getElem?_eq_some_iff.1 hk).1 (fun e => by
    obtain ⟨cs, t, fr, hc⟩ := hr k e.symm
    rw [hk] at hc; cases hc; cases ho)).trans hk⟩
theorem kpt_cells {W W' : World} {row : Option Nat} {T : TypeId} (hT : Fix T = false) (hg : W.grownBy W' row) (hr : ∀ r, row = some r → ∃ cs fr, W.heap[r]? = some (.cells cs T fr)) : KpT W W' :=
  ⟨hg.size, fun k cs t fr hk ht => hg.block k (Array.getElem?_eq_some_iff.1 hk).1 (fun e => by
    obtain ⟨cs', fr', hc⟩ := hr k e.symm
    rw [hk] at hc
    simp only [Option.some.injEq, Obj.cells.injEq] at hc
    rw [hc.2.1, hT] at ht; cases ht)⟩
theorem row_own {β : Type} {B base e s : Nat} (he : e ≠ 62) (v : Value) (n : Nat) (xs : List Value) : OwnT B (fun (_ : β) W => W.ownsRow base e s v n xs) := fun _ X Y row hs hg hr => by
  refine ⟨hs.1, ?_⟩
  rcases hs.2 with h2 | ⟨g, cap, cur, hv, hgb, hh, r⟩
  · exact Or.inl h2
  · exact Or.inr ⟨g, cap, cur, hv, hgb, blk_own (β := Unit) (B := B) he () X Y row hh hg hr, r⟩
theorem kept_own {β : Type} {B : Nat} {w : World} (hB : w.heap.size ≤ B) : OwnT B (fun (_ : β) X => Kept [] w X) := fun _ X Y row hs hg hr => hs.grown hg (fun k hk => Or.inr (Nat.le_trans hB (hr k hk).1))
theorem row_block {w : World} {base e s n : Nat} {v : Value} {xs : List Value} (h : w.ownsRow base e s v n xs) : ∀ g, v.ownBlock = some g → ∃ cs fr, w.heap[g]? = some (.cells cs e fr) := by
  intro g hg
  rcases h.2 with ⟨e1, _⟩ | ⟨g', cap', cur, e1, _, hh, _⟩
  · rw [e1] at hg; cases hg
  · rw [e1] at hg; cases hg; exact ⟨_, _, hh⟩

/-- the box and the row -/
def RowI (w : World) (bx : Nat) (pre : List (Int × Int)) (V : World) : Prop := ∃ va n vc, Blk V bx #[.slice va n vc] 27 ∧ n = (flat pre).length ∧ V.ownsRow w.heap.size 3 1 (.slice va n vc) (flat pre).length (ints (flat pre)) ∧ Kept [] w V
theorem rowI_own {B : Nat} {w : World} {bx : Nat} (hB : w.heap.size ≤ B) : OwnT B (RowI w bx) := fun s X Y row hs hg hr => by
  obtain ⟨va, n, vc, h1, h2, h3, h4⟩ := hs
  exact ⟨va, n, vc, blk_own (β := Unit) (by decide) () X Y row h1 hg hr, h2, row_own (β := Unit) (by decide) _ _ _ () X Y row h3 hg hr, kept_own (β := Unit) hB () X Y row h4 hg hr⟩

set_option maxRecDepth 100000 in
set_option maxHeartbeats 2000000 in
theorem row_any {w : World} {q : Option Addr} {t : TI} (h : Tt w q t) (hz : t.size ≤ 4398046511104) : Calls Try.prog 8 #[.pointer q] w fun e w' => ∃ v, e = .returned v ∧ w'.ownsRow w.heap.size 3 1 v (flat t.list).length (ints (flat t.list)) ∧ Kept [] w w' := by
  have hka : Kept [] w (w.alloc (.cells #[.slice none 0 0] 27)) := (Kept.refl [] w).alloc _
  have HA := hide (All_any (h.kept hka) hz)
  have hl0 : t.list.length ≤ 4398046511104 := by rw [Tr.list_length]; exact hz
  have hnf : ∀ (b : Nat) (W : World), (binOp BinOp.eql 31 (.func (.func 38) #[] #[.pointer (some ⟨b, 0, none⟩)]) .nilFunc).run Try.prog W = .ok (.bool false) W := fun b W => by kernel_rfl
  refine (callsIn_wide (n := 0)).1 ?_
  refine callsIn_of_wp_marks Try.func8 rfl trivial ?_ rfl
  simp only [Try.ntmps8, List.size_toArray, List.length_cons, List.length_nil, Nat.reduceAdd, Nat.reduceSub, Array.replicate_succ, Array.replicate_zero, List.push_toArray, List.append_toArray, List.nil_append, List.cons_append]
  gi_wp2_with (refine ⟨trivial, rfl, ?_⟩; gi_at_call 9; refine (callsIn_wide.2 (unhide HA)).mono ?_; rintro e w1 ⟨v1, rfl, hsq, hk1⟩; obtain ⟨bn, bt, bd, vt, rfl, hbn, hbt, hbd, hnr⟩ := hsq)
  have hlist : outR (spine t).reverse = t.list := by have := outR_spine t []; simpa [outR] using this
  have hbx := (Blk.new w #[.slice none 0 0] 27).kept hk1 (by simp)
  have hseq := entries_seq hbn hbt hbd hnr (by rw [hlist]; exact hl0)
  rw [hlist] at hseq
  have hw1 : w.heap.size < w1.heap.size := hbx.lt
  refine range_own (gf := 38) (lb := #[.pointer (some ⟨bn, 0, none⟩)]) rfl (enters_of Try.func38 (by kernel_rfl) rfl) hseq (fun _ _ _ _ _ _ _ => trivial) (KpT.refl _) (fun _ => rfl)
    (RowI w w.heap.size) (fun _ _ _ => False) (rowI_own (by omega)) (fun _ _ _ _ _ hs _ _ => hs)
    ⟨none, 0, 0, hbx, rfl, ⟨by simp [flat, ints], Or.inl ⟨rfl, rfl⟩⟩, hka.trans hk1 (by simp)⟩
    (fun x => { tmps := #[.pointer q, undef, .slice none 0 0, .pointer (some ⟨w.heap.size, 0, none⟩), .func (.func 38) #[] #[.pointer (some ⟨bn, 0, none⟩)], .int .i64 x.1, .int .i64 x.2, .pointer q, .func (.func 38) #[] #[.pointer (some ⟨bn, 0, none⟩)], .func (.func 38) #[] #[.pointer (some ⟨bn, 0, none⟩)], .bool false, .func (.func 38) #[] #[.pointer (some ⟨bn, 0, none⟩)], .int .i64 x.1, .int .i64 x.2, undef, undef, undef, undef, undef, undef], defers := [] }) ?assign ?body ?done ?stop
  case assign =>
    intro l x W K hK
    gi_wp2
    exact hK
  case body =>
    rintro l pre ⟨k, x⟩ V ⟨va, n, vc, hb, hn, hrow, hkV⟩ - hlen
    obtain ⟨i0, hi, hz0, hz1, hz2⟩ := info_parts info_i
    have hcx := hb.cell 0
    have hfx := hb.frozen 0
    simp only [List.getElem?_toArray, List.getElem?_cons_zero] at hcx
    have hfl := flat_len pre
    have hszV := hkV.size
    have hka2 : Kept [] V (V.alloc (.cells #[.int .i64 k, .int .i64 x] 3)) := (Kept.refl [] V).alloc _
    have HROW : (V.alloc (.cells #[.int .i64 k, .int .i64 x] 3)).ownsRow w.heap.size 3 1 (.slice va n vc) (flat pre).length (ints (flat pre)) := own_kept hrow hka2 (by simp)
    have HCEL : ∀ (j : Nat) (u : Value), [Value.int .i64 k, .int .i64 x][j]? = some u → (V.alloc (.cells #[.int .i64 k, .int .i64 x] 3)).cell? ((⟨V.heap.size, 0, none⟩ : Addr).add j) = some u := by
      intro j u hj
      have hadd : (⟨V.heap.size, 0, none⟩ : Addr).add j = ⟨V.heap.size, j, none⟩ := by unfold Addr.add; split <;> simp_all
      rw [hadd, (Blk.new V #[.int .i64 k, .int .i64 x] 3).cell j]
      simpa using hj
    have B1 : (flat pre).length + 2 ≤ maxLen := by unfold maxLen; omega
    have B2 : ((flat pre).length + 2) * 8 ≤ 140737488355328 := by omega
    have B3 : w.heap.size ≤ (V.alloc (.cells #[.int .i64 k, .int .i64 x] 3)).heap.size := by simp; omega
    have HB := hide hb
    have HN := hide hn
    have HKV := hide hkV
    obtain ⟨FL, hFL⟩ : ∃ FL, (flat pre).length = FL := ⟨_, rfl⟩
    have HFL := hide hFL
    rw [hFL] at HROW B1 B2
    have HRW := hide HROW
    have HCL := hide HCEL
    clear hb hn hrow hkV hFL HROW HCEL hfl
    gi_wp2_with (gi_at_builtin; refine wpListIn_append_own _ rfl _ _ 27 rfl w.heap.size 3 i0 _ 1 8 Try.underlying27 hi hz0 hz1 hz2 rfl (by decide) _ _ _ rfl (unhide HRW) ⟨V.heap.size, 0, none⟩ 2 2 [.int .i64 k, .int .i64 x] rfl rfl (unhide HCL) (by simp [Value.oneCell']) B1 B2 B3 ?_; intro v2 w2 hown2 hg2 _; obtain ⟨a2, c2, rfl⟩ := own_len hown2; have hb2 : Blk w2 w.heap.size #[.slice va n vc] 27 := (by
        have h1 := (unhide HB).kept hka2 (by simp)
        refine (hg2.block w.heap.size h1.lt (fun e => ?_)).trans h1
        obtain ⟨cs, fr, hc⟩ := row_block (unhide HRW) w.heap.size e.symm
        unfold Blk at h1
        rw [h1] at hc
        simp at hc); have hcx2 := hb2.cell 0; have hfx2 := hb2.frozen 0; have HB2 := hide hb2; have HO2 := hide hown2; have HG2 := hide hg2; clear hb2 hown2 hg2)
    have hg2 := unhide HG2
    have hb2 := unhide HB2
    have ho2 := unhide HO2
    have hrb := row_block (unhide HRW)
    have hgs := grownBy_setCell' w2 w.heap.size (.slice a2 (FL + 2) c2)
    have hgr : ∀ r, some w.heap.size = some r → ∃ cs fr, w2.heap[r]? = some (.cells cs 27 fr) := fun r e => by cases e; exact ⟨_, _, hb2⟩
    have k1 : KeepsFrom w1.heap.size V w2 := ((KeepsOthers.alloc V _).from _).trans (keeps_cells hg2 (fun r e => by obtain ⟨cs, fr, h⟩ := hrb r e; exact ⟨cs, _, fr, h⟩))
    have k2 : KpT V w2 := (KpT.of_kept hka2).trans (kpt_cells (T := 3) (by decide) hg2 hrb)
    refine ⟨⟨k1.trans (keeps_cells hgs (fun r e => by obtain ⟨cs, fr, h⟩ := hgr r e; exact ⟨cs, _, fr, h⟩)), k2.trans (kpt_cells (T := 27) (by decide) hgs hgr)⟩, a2, FL + 2, c2, ?_, ?_, ?_, ?_⟩
    · exact hb2.set 0 _
    · rw [flat_snoc, List.length_append, unhide HFL]; rfl
    · rw [flat_snoc, List.length_append, unhide HFL, ints_append]
      refine ⟨ho2.1, ?_⟩
      rcases ho2.2 with h3 | ⟨g, cap, cur, hv, hgb, hh, r⟩
      · exact Or.inl h3
      · refine Or.inr ⟨g, cap, cur, hv, hgb, ?_, r⟩
        refine (hgs.block g (Array.getElem?_eq_some_iff.1 hh).1 (fun e => ?_)).trans hh
        obtain ⟨cs, fr, hc⟩ := hgr g e.symm
        rw [hh] at hc
        simp at hc
    · exact (((unhide HKV).trans hka2 (by simp)).grown hg2 (fun r hr => Or.inr ((unhide HRW).lt r hr).1)).setCell (p := ⟨w.heap.size, 0, none⟩) (Or.inr (Nat.le_refl _)) _
  case done =>
    rintro D xs V hD rfl ⟨va, n, vc, hb, hn, hrow, hkV⟩ hK
    have hcx := hb.cell 0
    simp only [List.getElem?_toArray, List.getElem?_cons_zero] at hcx
    have HN := hide hn
    clear hn
    gi_wp2
    refine ⟨by simp, .inl ⟨_, _, rfl, run_takeDeferred hK, ?_⟩⟩
    refine ⟨_, results_tmp rfl _ _ _, _, rfl, ?_, ?_⟩
    · exact (show _ from by have := own_put (row_own (β := Unit) (B := w.heap.size) (s := 1) (base := w.heap.size) (e := 3) (by decide) (.slice va n vc) _ _) (s := ()) (.deferred none) hrow (by omega) hK rfl; exact this)
    · exact own_put (kept_own (β := Unit) (B := w.heap.size) (w := w) (Nat.le_refl _)) (s := ()) (.deferred none) hkV (by omega) hK rfl
  case stop =>
    rintro D c pre V hD hSp h hK
    exact h.elim
end Go.Proofs.Ytbpeeifgfjpghab
