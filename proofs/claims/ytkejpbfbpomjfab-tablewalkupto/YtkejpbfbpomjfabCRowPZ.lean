/- Rows being laid out. -/
import Derived.Test.YtkejpbfbpomjfabPkBL
import Derived.Maps.AppendAt
namespace Go.Proofs.Ytkejpbfbpomjfab.tre
open Go.RowKit

/-- bytes in a block of bytes -/
def SeeT (B : Nat) (X : World) (v : Value) (bs : List Nat) : Prop := Sees X v bs ∧ ∀ k, v.ownBlock = some k → B ≤ k ∧ ∃ cs fr, X.heap[k]? = some (.cells cs 5 fr)
theorem SeeT.keep {B : Nat} {F : List Nat} {X Y : World} {v : Value} {bs : List Nat} (h : SeeT B X v bs) (hk : Kept F X Y) (hF : ∀ x ∈ F, ∀ cs fr, X.heap[x]? ≠ some (.cells cs 5 fr)) : SeeT B Y v bs := by
  have hn : ∀ k, v.ownBlock = some k → k ∉ F := fun k hv hm => by
    obtain ⟨-, cs, fr, hc⟩ := h.2 k hv
    exact hF k hm cs fr hc
  refine ⟨h.1.kept hk hn, fun k hv => ⟨(h.2 k hv).1, ?_⟩⟩
  obtain ⟨-, cs, fr, hc⟩ := h.2 k hv
  exact ⟨cs, fr, (hk.block k (Array.getElem?_eq_some_iff.1 hc).1 (hn k hv)).trans hc⟩
theorem SeeT.kept {B : Nat} {X Y : World} {v : Value} {bs : List Nat} (h : SeeT B X v bs) (hk : Kept [] X Y) : SeeT B Y v bs := h.keep hk (fun x hx => by cases hx)
theorem SeeT.from {B C : Nat} {X : World} {v : Value} {bs : List Nat} (h : SeeT B X v bs) (hs : C ≤ B) : SeeT C X v bs := ⟨h.1, fun k hv => ⟨Nat.le_trans hs (h.2 k hv).1, (h.2 k hv).2⟩⟩
theorem conv_ex3 : ∃ (g c : World → ByteArray → Nat) (N : World → ByteArray → World), (∀ w s, (convert 9 22 (.string s)).run Try.prog w = .ok (.slice (some ⟨g w s, 0, none⟩) s.size (c w s)) (N w s)) ∧ (∀ w s, s.size ≤ 1048576 → SeeT w.heap.size (N w s) (.slice (some ⟨g w s, 0, none⟩) s.size (c w s)) (byts s)) ∧ ∀ w s, Kept [] w (N w s) :=
  ⟨fun w _ => w.heap.size, fun w s => grownCap w s.size 0 5, fun w s => Lib.bytesWorld w 5 s, run_bytes, fun w s hs => ⟨(new_bytes w s hs).1, fun k hk => by
    simp only [Value.ownBlock, Option.some.injEq] at hk
    subst hk
    exact ⟨Nat.le_refl _, _, _, Lib.bytesWorld_at_new w _ s⟩⟩, kept_conv⟩
theorem conv_at (w : World) (s : ByteArray) (h : s.size ≤ 1048576) : ∃ (g c : Nat) (N : World), (convert 9 22 (.string s)).run Try.prog w = .ok (.slice (some ⟨g, 0, none⟩) s.size c) N ∧ SeeT w.heap.size N (.slice (some ⟨g, 0, none⟩) s.size c) (byts s) ∧ Kept [] w N := by
  obtain ⟨g, c, N, h1, h2, h3⟩ := conv_ex3
  exact ⟨g w s, c w s, N w s, h1 w s, h2 w s h, h3 w s⟩
/-- a row with its lists -/
structure Re where
  e : ByteArray × VT
  ks : Value
  vs : Value
def rec3 (r : Re) : List Value := [r.ks, r.vs, .int .i64 r.e.2.2]
def flatR (l : List Re) : List Value := l.flatMap rec3
theorem flatR_app (l m : List Re) : flatR (l ++ m) = flatR l ++ flatR m := by simp [flatR]
theorem flatR_len (l : List Re) : (flatR l).length = l.length * 3 := by
  induction l with
  | nil => rfl
  | cons e l ih => simp only [flatR, List.flatMap_cons, List.length_append, List.length_cons] at *; simp [rec3] at *; omega
def ReP (B : Nat) (X : World) (r : Re) : Prop := SeeT B X r.ks (byts r.e.1) ∧ SeeT B X r.vs (byts r.e.2.1)
theorem info_parts2 {o : Option TypeInfo} {z : Option Value} {s b : Nat} (h : o.map (fun i => (i.zero, i.size, i.bytes)) = some (z, s, b)) : ∃ i, o = some i ∧ i.zero = z ∧ i.size = s ∧ i.bytes = b := by
  cases o with
  | none => cases h
  | some i => simp at h; exact ⟨i, rfl, h.1, h.2.1, h.2.2⟩
theorem infoRow : (Try.prog.info? 32).map (fun i => (i.zero, i.size, i.bytes)) = some (some (.agg #[.slice none 0 0, .slice none 0 0, .int .i64 0]), 3, 56) := by kernel_rfl
/-- rows in their box -/
structure Rs (w X : World) (bx g cap : Nat) (l : List Re) : Prop where
  box : Blk X bx #[.slice (some ⟨g, 0, none⟩) l.length cap] 29
  own : X.ownsRow w.heap.size 32 3 (.slice (some ⟨g, 0, none⟩) l.length cap) l.length (flatR l)
  txt : ∀ r ∈ l, ReP w.heap.size X r
  kp : Kept [] w X
  ge : w.heap.size ≤ bx
theorem own_typed {X : World} {B e s n : Nat} {v : Value} {xs : List Value} (h : X.ownsRow B e s v n xs) {g : Nat} (hg : v.ownBlock = some g) : B ≤ g ∧ ∃ cs fr, X.heap[g]? = some (.cells cs e fr) := by
  rcases h.2 with ⟨e1, _⟩ | ⟨g', cap', cur, e1, hb, hh, _⟩
  · rw [e1] at hg; cases hg
  · rw [e1] at hg; cases hg; exact ⟨hb, _, _, hh⟩
theorem seet_own {β : Type} {B C : Nat} {v : Value} {bs : List Nat} : OwnT B (fun (_ : β) X => SeeT C X v bs) := fun _ X Y row hs hg hr => by
  have hb : ∀ k, v.ownBlock = some k → Y.heap[k]? = X.heap[k]? := fun k hk => by
    obtain ⟨-, cs, fr, hc⟩ := hs.2 k hk
    refine hg.block k (Array.getElem?_eq_some_iff.1 hc).1 (fun e => ?_)
    obtain ⟨_, o, ho, h2⟩ := hr k e.symm
    rw [hc] at ho
    cases ho
    rcases h2 with h2 | ⟨cs', fr', h2⟩
    · cases h2
    · cases h2
  refine ⟨?_, fun k hk => ⟨(hs.2 k hk).1, ?_⟩⟩
  · rcases hs.1 with h | ⟨b, off, cap, hv, h1, h2, h3, h4⟩
    · exact Or.inl h
    · refine Or.inr ⟨b, off, cap, hv, h1, h2, Nat.lt_of_lt_of_le h3 hg.size, fun j hj => ?_⟩
      rw [← h4 j hj]
      exact World.cell?_of_block (hb b (by rw [hv]; rfl))
  · obtain ⟨-, cs, fr, hc⟩ := hs.2 k hk
    exact ⟨cs, fr, (hb k hk).trans hc⟩
theorem rs_own {β : Type} {B : Nat} {w : World} {bx g cap : Nat} {l : List Re} (hB : w.heap.size ≤ B) : OwnT B (fun (_ : β) V => Rs w V bx g cap l) := fun _ X Y row hs hg hr =>
  ⟨blk_own (β := Unit) (by decide) () X Y row hs.box hg hr, row_own (β := Unit) (by decide) _ _ _ () X Y row hs.own hg hr, fun r hm => ⟨seet_own (β := Unit) () X Y row (hs.txt r hm).1 hg hr, seet_own (β := Unit) () X Y row (hs.txt r hm).2 hg hr⟩, kept_own (β := Unit) hB () X Y row hs.kp hg hr, hs.ge⟩
theorem Rs.kept {w X Y : World} {bx g cap : Nat} {l : List Re} (h : Rs w X bx g cap l) (hk : Kept [] X Y) : Rs w Y bx g cap l :=
  ⟨h.box.kept hk (by simp), own_kept h.own hk (by simp), fun r hm => ⟨(h.txt r hm).1.kept hk, (h.txt r hm).2.kept hk⟩, h.kp.step hk, h.ge⟩
/-- a row more -/
theorem Rs.more {w V W W1 : World} {bx g cap : Nat} {l : List Re} (h : Rs w V bx g cap l) (hk : Kept [] V W) (r : Re) (hr : ReP w.heap.size W r) (ho : W1.ownsRow w.heap.size 32 3 (.slice (some ⟨g, 0, none⟩) (l.length + 1) cap) (l.length + 1) (flatR l ++ rec3 r)) (hg : W.grownBy W1 (some g)) :
    Rs w (W1.setCell ⟨bx, 0, none⟩ (.slice (some ⟨g, 0, none⟩) (l.length + 1) cap)) bx g cap (l ++ [r]) ∧ Kept [g, bx] V (W1.setCell ⟨bx, 0, none⟩ (.slice (some ⟨g, 0, none⟩) (l.length + 1) cap)) ∧ Soft V [g, bx] ∧ Blk W1 bx #[.slice (some ⟨g, 0, none⟩) l.length cap] 29 := by
  obtain ⟨hgb, cs, fr, hgt⟩ := own_typed h.own (g := g) rfl
  have hne : bx ≠ g := fun e => by
    subst e
    have := h.box
    unfold Blk at this
    rw [hgt] at this
    cases this
  have hk1 : Kept [g] W W1 := ⟨hg.os, hg.tape, hg.output, hg.size, fun k hk hn => hg.block k hk (fun e => hn (by cases e; simp))⟩
  have hgt' : W.heap[g]? = some (.cells cs 32 fr) := (hk.block g (Array.getElem?_eq_some_iff.1 hgt).1 (by simp)).trans hgt
  have hb1 : Blk W1 bx #[.slice (some ⟨g, 0, none⟩) l.length cap] 29 := (h.box.kept hk (by simp)).kept hk1 (by simpa using hne)
  have hb2 := hb1.set 0 (.slice (some ⟨g, 0, none⟩) (l.length + 1) cap)
  obtain ⟨S, hS⟩ : ∃ S, W1.setCell ⟨bx, 0, none⟩ (.slice (some ⟨g, 0, none⟩) (l.length + 1) cap) = S := ⟨_, rfl⟩
  have hk2 : Kept [bx] W1 S := by rw [← hS]; exact (Kept.refl [bx] W1).setCell (p := ⟨bx, 0, none⟩) (Or.inl (by simp)) _
  rw [hS] at hb2 ⊢
  have hseen : ∀ {v : Value} {bs : List Nat}, SeeT w.heap.size W v bs → SeeT w.heap.size S v bs := fun hs => by
    refine (hs.keep hk1 (fun x hx cs' fr' e => ?_)).keep hk2 (fun x hx cs' fr' e => ?_)
    · simp at hx; subst hx; rw [hgt'] at e; cases e
    · simp at hx; subst hx; unfold Blk at hb1; rw [hb1] at e; cases e
  have hkk : Kept [g, bx] V S := ((hk.mono (G := [g, bx]) (by simp)).trans hk1 (by simp)).trans hk2 (by simp)
  refine ⟨⟨?_, ?_, fun r' hm => ?_, ?_, h.ge⟩, hkk, fun x hx => ?_, hb1⟩
  · rw [List.length_append]; exact hb2
  · rw [flatR_app, List.length_append]
    have h9 := own_kept ho hk2 (by simp [Value.ownBlock]; exact fun e => hne e.symm)
    rw [show flatR [r] = rec3 r from by simp [flatR]]
    exact h9
  · rcases List.mem_append.1 hm with hm | hm
    · exact ⟨hseen ((h.txt r' hm).1.kept hk), hseen ((h.txt r' hm).2.kept hk)⟩
    · simp at hm; subst hm; exact ⟨hseen hr.1, hseen hr.2⟩
  · exact h.kp.trans hkk (by simp; exact ⟨hgb, h.ge⟩)
  · simp at hx
    rcases hx with rfl | rfl
    · exact ⟨_, _, _, hgt, by decide, by decide⟩
    · exact ⟨_, _, _, h.box, by decide, by decide⟩
end Go.Proofs.Ytkejpbfbpomjfab.tre
