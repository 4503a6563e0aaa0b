/- TreeStays: what the loop over a tree holds on to. -/
import Derived.Test.YtbpeeifgfjpghabTStB
namespace Go.Proofs.Ytbpeeifgfjpghab
open Go.RowKit Go.Shelf
set_option linter.unusedVariables false

/-- a round keeps what is no cells, and what a sequence leans on -/
def Gd (B : Nat) (V V' : World) : Prop := KeepsFrom B V V' ∧ KpT V V'
theorem Gd.trans {B : Nat} {U V W : World} (h : Gd B U V) (k : Gd B V W) : Gd B U W := ⟨h.1.trans k.1, h.2.trans k.2⟩
theorem Gd.of_kept {B : Nat} {V V' : World} (h : Kept [] V V') : Gd B V V' := ⟨keeps_kept h, KpT.of_kept h⟩
theorem Gd.of_grown {B : Nat} {V V' : World} {row : Option Nat} {T : TypeId} (hT : Fix T = false) (hg : V.grownBy V' row) (hr : ∀ r, row = some r → ∃ cs fr, V.heap[r]? = some (.cells cs T fr)) : Gd B V V' :=
  ⟨keeps_cells hg (fun r e => by obtain ⟨cs, fr, h⟩ := hr r e; exact ⟨cs, _, fr, h⟩), kpt_cells hT hg hr⟩
theorem Gd.set {B b : Nat} {V : World} {cs : Array Value} {T : TypeId} (hT : Fix T = false) (hb : Blk V b cs T) (v : Value) : Gd B V (V.setCell ⟨b, 0, none⟩ v) :=
  Gd.of_grown hT (grownBy_setCell' V b v) (fun r e => by cases e; exact ⟨_, _, hb⟩)

/-- the row so far, and a tree that is made anew -/
structure StJ (w9 : World) (bu bs M : Nat) (pre : List (Int × Int)) (qu : Option Addr) (tu : TI) (V : World) : Prop where
  kept : Kept [bu, bs] w9 V
  row : ∃ va n vc, Blk V bs #[.slice va n vc] 27 ∧ n = (flat pre).length ∧ V.ownsRow w9.heap.size 3 1 (.slice va n vc) (flat pre).length (ints (flat pre))
  box : Blk V bu #[.pointer qu] 29
  tree : Tt V qu tu
  size : tu.size ≤ M
def StI (w9 : World) (bu bs N : Nat) (pre : List (Int × Int)) (V : World) : Prop := ∃ qu tu, StJ w9 bu bs (N + pre.length) pre qu tu V
theorem stI_own {B : Nat} {w9 : World} {bu bs N : Nat} (hB : w9.heap.size ≤ B) : OwnT B (StI w9 bu bs N) := fun s X Y row hs hg hr => by
  obtain ⟨qu, tu, h1, ⟨va, n, vc, h2, h3, h4⟩, h5, h6, h7⟩ := hs
  exact ⟨qu, tu, keptF_own (β := Unit) hB () X Y row h1 hg hr, ⟨va, n, vc, blk_own (β := Unit) (by decide) () X Y row h2 hg hr, h3, row_own (β := Unit) (by decide) _ _ _ () X Y row h4 hg hr⟩, blk_own (β := Unit) (by decide) () X Y row h5 hg hr, tt_own (β := Unit) qu tu () X Y row h6 hg hr, h7⟩
theorem StJ.keep {w9 : World} {bu bs M : Nat} {pre : List (Int × Int)} {qu : Option Addr} {tu : TI} {V V' : World} (h : StJ w9 bu bs M pre qu tu V) (hk : Kept [] V V') : StJ w9 bu bs M pre qu tu V' := by
  obtain ⟨h1, ⟨va, n, vc, h2, h3, h4⟩, h5, h6, h7⟩ := h
  exact ⟨h1.trans hk (by simp), ⟨va, n, vc, h2.kept hk (by simp), h3, own_kept h4 hk (by simp)⟩, h5.kept hk (by simp), h6.kept hk, h7⟩
theorem set_kept (V : World) (b : Nat) (v : Value) : Kept [b] V (V.setCell ⟨b, 0, none⟩ v) := (Kept.refl [b] V).setCell (p := ⟨b, 0, none⟩) (Or.inl (by simp)) v
/-- another tree -/
theorem StJ.put {w9 : World} {bu bs M M' : Nat} {pre : List (Int × Int)} {qu q' : Option Addr} {tu t' : TI} {V : World} (h : StJ w9 bu bs M pre qu tu V) (hne : bu ≠ bs) (hlt : bu < w9.heap.size) (ht : Tt V q' t') (hz : t'.size ≤ M') : StJ w9 bu bs M' pre q' t' (V.setCell ⟨bu, 0, none⟩ (.pointer q')) := by
  obtain ⟨h1, ⟨va, n, vc, h2, h3, h4⟩, h5, h6, h7⟩ := h
  have hs := set_kept V bu (.pointer q')
  refine ⟨h1.setCell (p := ⟨bu, 0, none⟩) (Or.inl (by simp)) _, ⟨va, n, vc, h2.other _ (fun e => hne e.symm) _, h3, own_kept h4 hs (fun k hk => by have := (h4.lt k hk).1; simp; omega)⟩, h5.set 0 _, ht.keepF hs ?_, hz⟩
  intro b hb
  simp at hb
  subst hb
  exact ⟨_, _, h5, by decide, by decide⟩
/-- an entry more in the row -/
theorem StJ.push {w9 : World} {bu bs M : Nat} {pre : List (Int × Int)} {qu : Option Addr} {tu : TI} {V : World} (hne : bu ≠ bs) (hls : bs < w9.heap.size) (hlu : bu < w9.heap.size) {k x : Int} {va a2 : Option Addr} {n vc c2 : Nat} {V2 : World}
    (h1 : Kept [bu, bs] w9 V) (h5 : Blk V bu #[.pointer qu] 29) (h6 : Tt V qu tu) (h7 : tu.size ≤ M) (h2 : Blk V bs #[.slice va n vc] 27) (h4 : V.ownsRow w9.heap.size 3 1 (.slice va n vc) (flat pre).length (ints (flat pre)))
    (hg : V.grownBy V2 (Value.slice va n vc).ownBlock) (ho : V2.ownsRow w9.heap.size 3 1 (.slice a2 ((flat pre).length + 2) c2) ((flat pre).length + 2) (ints (flat pre) ++ [.int .i64 k, .int .i64 x])) :
    StJ w9 bu bs M (pre ++ [(k, x)]) qu tu (V2.setCell ⟨bs, 0, none⟩ (.slice a2 ((flat pre).length + 2) c2)) ∧ Blk V2 bs #[.slice va n vc] 27 := by
  have hrb := row_block h4
  have hkr : Kept (Value.slice va n vc).ownBlock.toList V V2 := (Kept.refl _ V).grown hg (fun g e => Or.inl (by simp [e]))
  have hng : ∀ b cs T, Blk V b cs T → T ≠ 3 → b ∉ (Value.slice va n vc).ownBlock.toList := fun b cs T hb hT hm => by
    obtain ⟨cs', fr, hc⟩ := hrb b (by simpa using hm)
    unfold Blk at hb
    rw [hb] at hc
    simp at hc
    exact hT hc.2.1
  have hB : Boxes V (Value.slice va n vc).ownBlock.toList := fun b hb => by
    rcases h4.2 with ⟨e1, _⟩ | ⟨g, cap, cur, e1, _, hh, _⟩
    · rw [e1] at hb; simp [Value.ownBlock] at hb
    · rw [e1] at hb
      simp [Value.ownBlock] at hb
      subst hb
      exact ⟨_, _, hh, by decide, by decide⟩
  have g2 : Blk V2 bs #[.slice va n vc] 27 := h2.kept hkr (hng _ _ _ h2 (by decide))
  have g5 : Blk V2 bu #[.pointer qu] 29 := h5.kept hkr (hng _ _ _ h5 (by decide))
  have g6 : Tt V2 qu tu := h6.keepF hkr hB
  have hs := set_kept V2 bs (.slice a2 ((flat pre).length + 2) c2)
  have hfl : (flat (pre ++ [(k, x)])).length = (flat pre).length + 2 := by rw [flat_snoc, List.length_append]; rfl
  refine ⟨⟨(h1.grown hg (fun r hr => Or.inr (h4.lt r hr).1)).setCell (p := ⟨bs, 0, none⟩) (Or.inl (by simp)) _, ⟨a2, (flat pre).length + 2, c2, g2.set 0 _, hfl.symm, ?_⟩, g5.other _ hne _, g6.keepF hs ?_, h7⟩, g2⟩
  · rw [hfl, flat_snoc, ints_append]
    exact own_kept ho hs (fun r hr => by have := (ho.lt r hr).1; simp; omega)
  · intro b hb
    simp at hb
    subst hb
    exact ⟨_, _, g2, by decide, by decide⟩
end Go.Proofs.Ytbpeeifgfjpghab
