/- TreeStays: rows of rows, and trees over a loop's boxes. -/
import Derived.Test.YtbpeeifgfjpghabTAlike
import Derived.Test.YtbpeeifgfjpghabTMade2
namespace Go.Proofs.Ytbpeeifgfjpghab
open Go.RowKit Go.Shelf
set_option linter.unusedVariables false

/-- trees abide while a loop over a tree goes on -/
theorem nd_ownG {B : Nat} {t : TI} {p : Option Addr} {X Y : World} {row : Option Nat} (hs : Nd X p t) (hg : X.grownBy Y row) (hr : ∀ r, row = some r → B ≤ r ∧ ∃ o : Obj, X.heap[r]? = some o ∧ (o.isCells = false ∨ ∃ cs fr, o = .cells cs 62 fr)) : Nd Y p t := by
  induction t generalizing p with
  | nil => exact hs
  | node l k x r ihl ihr =>
    obtain ⟨b, pl, pr, h1, h2, h3, h4⟩ := hs
    exact ⟨b, pl, pr, h1, blk_own (β := Unit) (B := B) (by decide) () X Y row h2 hg hr, ihl h3, ihr h4⟩
theorem tt_own {β : Type} {B : Nat} (q : Option Addr) (t : TI) : OwnT B (fun (_ : β) V => Tt V q t) := fun s X Y row hs hg hr => by
  rcases hs with h | ⟨b, p, h1, h2, h3⟩
  · exact Or.inl h
  · exact Or.inr ⟨b, p, h1, blk_own (β := Unit) (B := B) (by decide) () X Y row h2 hg hr, nd_ownG h3 hg hr⟩
theorem keptF_own {β : Type} {B : Nat} {F : List Nat} {w : World} (hB : w.heap.size ≤ B) : OwnT B (fun (_ : β) X => Kept F w X) := fun _ X Y row hs hg hr => hs.grown hg (fun k hk => Or.inr (Nat.le_trans hB (hr k hk).1))

/-- blocks that are none of a tree's -/
def Boxes (w : World) (F : List Nat) : Prop := ∀ b ∈ F, ∃ cs t, Blk w b cs t ∧ t ≠ 66 ∧ t ≠ 68
theorem blk_not {w : World} {F : List Nat} {b : Nat} {cs : Array Value} {t : TypeId} (hF : Boxes w F) (h : Blk w b cs t) (ht : t = 66 ∨ t = 68) : b ∉ F := fun hm => by
  obtain ⟨cs', t', h', h1, h2⟩ := hF b hm
  unfold Blk at h h'
  rw [h] at h'
  simp at h'
  rcases ht with ht | ht
  · exact h1 (by rw [← h'.2]; exact ht)
  · exact h2 (by rw [← h'.2]; exact ht)
theorem Nd.keepF {w w' : World} {F : List Nat} {t : TI} {p : Option Addr} (h : Nd w p t) (hk : Kept F w w') (hF : Boxes w F) : Nd w' p t := by
  induction t generalizing p with
  | nil => exact h
  | node l k x r ihl ihr =>
    obtain ⟨b, pl, pr, h1, h2, h3, h4⟩ := h
    exact ⟨b, pl, pr, h1, h2.kept hk (blk_not hF h2 (Or.inl rfl)), ihl h3, ihr h4⟩
theorem Tt.keepF {w w' : World} {F : List Nat} {t : TI} {q : Option Addr} (h : Tt w q t) (hk : Kept F w w') (hF : Boxes w F) : Tt w' q t := by
  rcases h with h | ⟨b, p, h1, h2, h3⟩
  · exact Or.inl h
  · exact Or.inr ⟨b, p, h1, h2.kept hk (blk_not hF h2 (Or.inr rfl)), h3.keepF hk hF⟩
theorem own_keepF {w w' : World} {F : List Nat} {base e s n : Nat} {v : Value} {xs : List Value} (h : w.ownsRow base e s v n xs) (hk : Kept F w w') (hF : ∀ b ∈ F, b < base) : w'.ownsRow base e s v n xs := by
  refine ⟨h.1, ?_⟩
  rcases h.2 with h2 | ⟨g, cap, cur, hv, hgb, hh, r⟩
  · exact Or.inl h2
  · exact Or.inr ⟨g, cap, cur, hv, hgb, (hk.block g (Array.getElem?_eq_some_iff.1 hh).1 (fun hm => by have := hF g hm; omega)).trans hh, r⟩
theorem row_low {w : World} {base b e s n : Nat} {v : Value} {xs : List Value} (h : w.ownsRow b e s v n xs) (hb : base ≤ b) : w.ownsRow base e s v n xs := by
  refine ⟨h.1, ?_⟩
  rcases h.2 with h2 | ⟨g, cap, cur, hv, hgb, r⟩
  · exact Or.inl h2
  · exact Or.inr ⟨g, cap, cur, hv, by omega, r⟩
theorem TRow.keepF {base : Nat} {w w' : World} {F : List Nat} {v : Value} {ts : List TI} (h : TRow base w v ts) (hk : Kept F w w') (hF : Boxes w F) (hb : ∀ b ∈ F, b < base) : TRow base w' v ts := by
  obtain ⟨qs, h1, h2⟩ := h
  exact ⟨qs, h1.imp (fun q t ht => ht.keepF hk hF), own_keepF h2 hk hb⟩

/-- rows of the entries of trees, in a row -/
def WRow (base : Nat) (w : World) (v : Value) (ts : List TI) : Prop := ∃ vs : List Value, vs.length = ts.length ∧ w.ownsRow base 27 1 v ts.length vs ∧
  ∀ (i : Nat) (t : TI) (u : Value), ts[i]? = some t → vs[i]? = some u → w.ownsRow base 3 1 u (flat t.list).length (ints (flat t.list))
theorem WRow.nil (base : Nat) (w : World) : WRow base w (.slice none 0 0) [] := ⟨[], rfl, World.ownsRow_nil _ _ _ _, by simp⟩
theorem WRow.keepF {base : Nat} {w w' : World} {F : List Nat} {v : Value} {ts : List TI} (h : WRow base w v ts) (hk : Kept F w w') (hb : ∀ b ∈ F, b < base) : WRow base w' v ts := by
  obtain ⟨vs, h0, h1, h2⟩ := h
  exact ⟨vs, h0, own_keepF h1 hk hb, fun i t u a b => own_keepF (h2 i t u a b) hk hb⟩
theorem WRow.kept {base : Nat} {w w' : World} {v : Value} {ts : List TI} (h : WRow base w v ts) (hk : Kept [] w w') : WRow base w' v ts := h.keepF hk (by simp)
theorem WRow.val {base : Nat} {w : World} {v : Value} {ts : List TI} (h : WRow base w v ts) : ∃ a cap, v = .slice a ts.length cap := by
  obtain ⟨vs, h0, h1, h2⟩ := h
  exact own_len h1
theorem WRow.get {base : Nat} {w : World} {a : Option Addr} {n cap : Nat} {ts : List TI} (h : WRow base w (.slice a n cap) ts) {i : Nat} {t : TI} (ht : ts[i]? = some t) :
    ∃ g u, a = some ⟨g, 0, none⟩ ∧ w.cell? ⟨g, i, none⟩ = some u ∧ w.ownsRow base 3 1 u (flat t.list).length (ints (flat t.list)) := by
  obtain ⟨vs, h0, h1, h2⟩ := h
  have hi := (List.getElem?_eq_some_iff.1 ht).1
  obtain ⟨u, hu⟩ : ∃ u, vs[i]? = some u := ⟨_, List.getElem?_eq_getElem (by omega)⟩
  rcases h1.2 with ⟨_, h3⟩ | ⟨g, cp, cur, hv, _, r⟩
  · have := h1.1; rw [h3] at this; simp at this; omega
  · injection hv with e1 e2 e3
    subst e1
    have := h1.cells (g := g) (by rfl) i u hu
    have hadd : (⟨g, 0, none⟩ : Addr).add i = ⟨g, i, none⟩ := by unfold Addr.add; split <;> simp_all
    rw [hadd] at this
    exact ⟨g, u, rfl, this, h2 i t u ht hu⟩
theorem info_si : (Try.prog.info? 27).map (fun i => (i.zero, i.size, i.bytes)) = some (some (.slice none 0 0), 1, 24) := by kernel_rfl
theorem grown_own {w w' : World} {base e e' s n : Nat} {v : Value} {xs : List Value} {row : Option Nat} (h : w.ownsRow base e s v n xs) (hg : w.grownBy w' row) (hr : ∀ g, row = some g → ∃ cs fr, w.heap[g]? = some (.cells cs e' fr)) (hne : e ≠ e') : w'.ownsRow base e s v n xs := by
  refine ⟨h.1, ?_⟩
  rcases h.2 with h2 | ⟨g, cap, cur, hv, hb, hh, r⟩
  · exact Or.inl h2
  · refine Or.inr ⟨g, cap, cur, hv, hb, ?_, r⟩
    rw [hg.block g (Array.getElem?_eq_some_iff.1 hh).1 ?_]
    · exact hh
    · intro x
      obtain ⟨cs', fr, hc⟩ := hr g x.symm
      rw [hh] at hc
      simp at hc
      exact hne hc.2.1
/-- one row more -/
theorem WRow.push {base : Nat} {w w' : World} {v v' u : Value} {ts : List TI} {t : TI} {vs : List Value} (h0 : vs.length = ts.length) (ho : w'.ownsRow base 27 1 v' (ts.length + 1) (vs ++ [u])) (hg : w.grownBy w' v.ownBlock) (hv : w.ownsRow base 27 1 v ts.length vs)
    (hall : ∀ (i : Nat) (t : TI) (u : Value), ts[i]? = some t → vs[i]? = some u → w.ownsRow base 3 1 u (flat t.list).length (ints (flat t.list))) (hu : w.ownsRow base 3 1 u (flat t.list).length (ints (flat t.list))) : WRow base w' v' (ts ++ [t]) := by
  have hr := row_block hv
  refine ⟨vs ++ [u], by simp [h0], by simpa using ho, fun i t' u' ht hu' => ?_⟩
  by_cases hi : i < ts.length
  · rw [List.getElem?_append_left hi] at ht
    rw [List.getElem?_append_left (by omega)] at hu'
    exact grown_own (hall i t' u' ht hu') hg hr (by decide)
  · have hi2 : i = ts.length := by have := (List.getElem?_eq_some_iff.1 ht).1; simp at this; omega
    subst hi2
    simp at ht
    rw [← h0] at hu'
    simp at hu'
    subst ht
    subst hu'
    exact grown_own hu hg hr (by decide)
theorem keeps_kept {B : Nat} {W W' : World} (h : Kept [] W W') : KeepsFrom B W W' := ⟨h.size, fun k o _ hk _ => (h.block k (Array.getElem?_eq_some_iff.1 hk).1 (by simp)).trans hk⟩
end Go.Proofs.Ytbpeeifgfjpghab
