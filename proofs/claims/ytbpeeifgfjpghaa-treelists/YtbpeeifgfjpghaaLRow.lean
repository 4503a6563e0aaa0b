/- Lists of bytes of the call's own, beside a tree of them. -/
import Derived.Test.YtbpeeifgfjpghaaLTree
import Derived.Test.YtbpeeifgfjpghaaLPure
import Derived.Test.YtbpeeifgfjpghaaLByt
namespace Go.Proofs.Ytbpeeifgfjpghaa
open Go.RowKit
set_option linter.unusedVariables false

/-- only blocks of cells of this type may have turned -/
structure Touch (T : TypeId) (w w' : World) : Prop where
  size : w.heap.size ≤ w'.heap.size
  block : ∀ (k : Nat) (cs : Array Value) (t : TypeId) (fr : Nat × Nat), w.heap[k]? = some (Obj.cells cs t fr) → t ≠ T → w'.heap[k]? = w.heap[k]?
theorem Touch.refl (T : TypeId) (w : World) : Touch T w w := ⟨Nat.le_refl _, fun _ _ _ _ _ _ => rfl⟩
theorem Touch.of_kept {T : TypeId} {w w' : World} (h : Kept [] w w') : Touch T w w' := ⟨h.size, fun k cs t fr hk _ => h.block k (Array.getElem?_eq_some_iff.1 hk).1 (by simp)⟩
theorem Touch.of_grown {T : TypeId} {w w' : World} {row : Option Nat} (hg : w.grownBy w' row) (hr : ∀ g, row = some g → ∃ cs fr, w.heap[g]? = some (.cells cs T fr)) : Touch T w w' :=
  ⟨hg.size, fun k cs t fr hk hne => hg.block k (Array.getElem?_eq_some_iff.1 hk).1 (fun e => by
    obtain ⟨cs', fr', hc⟩ := hr k e.symm
    rw [hk] at hc
    simp only [Option.some.injEq, Obj.cells.injEq] at hc
    exact hne hc.2.1)⟩
theorem Touch.of_set {T : TypeId} {w : World} {g o : Nat} {cs : Array Value} {fr : Nat × Nat} (h : w.heap[g]? = some (.cells cs T fr)) (u : Value) : Touch T w (w.setCell ⟨g, o, none⟩ u) :=
  ⟨by simp [World.setCell], fun k cs' t fr' hk hne => Below.heap_setCell _ _ _ _ (fun e => by
    have e : k = g := e
    subst e
    rw [hk] at h
    simp only [Option.some.injEq, Obj.cells.injEq] at h
    exact hne h.2.1)⟩
theorem Touch.blk {T : TypeId} {w w' : World} (h : Touch T w w') {b : Nat} {cs : Array Value} {t : TypeId} (hb : Blk w b cs t) (hne : t ≠ T) : Blk w' b cs t := (h.block b cs t (0, 0) hb hne).trans hb
theorem Touch.nd {T : TypeId} {w w' : World} (h : Touch T w w') (h1 : 88 ≠ T) {t : TI} : ∀ {p : Option Addr}, Nd w p t → Nd w' p t := by
  induction t with
  | nil => intro p hp; exact hp
  | node l k x r ihl ihr =>
    rintro p ⟨b, pl, pr, e, hb, hl, hr⟩
    exact ⟨b, pl, pr, e, h.blk hb h1, ihl hl, ihr hr⟩
theorem Touch.tt {T : TypeId} {w w' : World} (h : Touch T w w') (h1 : 88 ≠ T) (h2 : 90 ≠ T) {t : TI} {q : Option Addr} (ht : Tt w q t) : Tt w' q t := by
  rcases ht with ht | ⟨b, p, e, hb, hp⟩
  · exact Or.inl ht
  · exact Or.inr ⟨b, p, e, h.blk hb h2, h.nd h1 hp⟩
theorem Touch.own {T : TypeId} {w w' : World} (h : Touch T w w') {base e s n : Nat} {v : Value} {xs : List Value} (ho : w.ownsRow base e s v n xs) (hne : e ≠ T) : w'.ownsRow base e s v n xs := by
  refine ⟨ho.1, ?_⟩
  rcases ho.2 with h2 | ⟨g, cap, cur, hv, hg, hh, r⟩
  · exact Or.inl h2
  · exact Or.inr ⟨g, cap, cur, hv, hg, (h.block g cur e (0, 0) hh hne).trans hh, r⟩

def encS (x : VT) : Value := .slice x.1 x.2.1 x.2.2
/-- one list of bytes, one byte long or longer, of the call's own -/
def Byt (base : Nat) (w : World) (x : VT) : Prop := ∃ g n c, x = (some ⟨g, 0, none⟩, n, c) ∧ 1 ≤ n ∧ n ≤ 140737488355328 ∧ base ≤ g ∧ ∃ cs b, w.heap[g]? = some (.cells cs 5 (0, 0)) ∧ cs[0]? = some (.int .u8 b)
theorem Byt.touch {base : Nat} {T : TypeId} {w w' : World} {x : VT} (h : Byt base w x) (ht : Touch T w w') (hne : 5 ≠ T) : Byt base w' x := by
  obtain ⟨g, n, c, e, h1, h2, h3, cs, b, h4, h5⟩ := h
  exact ⟨g, n, c, e, h1, h2, h3, cs, b, (ht.block g cs 5 (0, 0) h4 hne).trans h4, h5⟩
theorem Byt.set {base : Nat} {w : World} {x : VT} (h : Byt base w x) (g o : Nat) (y : Int) : Byt base (w.setCell ⟨g, o, none⟩ (.int .u8 y)) x := by
  obtain ⟨g', n, c, e, h1, h2, h3, cs, b, h4, h5⟩ := h
  by_cases hg : g' = g
  · subst hg
    have hb : Blk w g' cs 5 := h4
    have hs := hb.set o (.int .u8 y)
    by_cases ho : o = 0
    · subst ho
      have hpos : 0 < cs.size := (Array.getElem?_eq_some_iff.1 h5).1
      exact ⟨g', n, c, e, h1, h2, h3, _, y, hs, by simp [hpos]⟩
    · exact ⟨g', n, c, e, h1, h2, h3, _, b, hs, by rw [Array.getElem?_setIfInBounds_ne ho]; exact h5⟩
  · exact ⟨g', n, c, e, h1, h2, h3, cs, b, (Below.heap_setCell _ _ _ _ (fun e2 => hg e2)).trans h4, h5⟩

/-- what there is: the tree at q, the lists, their keys -/
structure Sta (base : Nat) (w : World) (q : Option Addr) (vo vk : Value) (ks : List Int) (vs : List VT) (t : TI) : Prop where
  tr : Tt w q t
  own : w.ownsRow base 48 1 vo vs.length (vs.map encS)
  of : w.ownsRow base 3 1 vk ks.length (ints ks)
  byt : ∀ x ∈ vs, Byt base w x
  len : ks.length = vs.length
  last : LastP ks vs t
  rise : Rise t.list
  size : t.size ≤ vs.length
theorem Sta.kept {base : Nat} {w w' : World} {q : Option Addr} {vo vk : Value} {ks : List Int} {vs : List VT} {t : TI} (h : Sta base w q vo vk ks vs t) (hk : Kept [] w w') : Sta base w' q vo vk ks vs t :=
  ⟨h.tr.kept hk, own_kept h.own hk (by simp), own_kept h.of hk (by simp), fun x hx => (h.byt x hx).touch (Touch.of_kept (T := 0) hk) (by decide), h.len, h.last, h.rise, h.size⟩
theorem Sta.set {base : Nat} {w : World} {q : Option Addr} {vo vk : Value} {ks : List Int} {vs : List VT} {t : TI} (h : Sta base w q vo vk ks vs t) {g : Nat} {cs : Array Value} (hg : w.heap[g]? = some (.cells cs 5 (0, 0))) (o : Nat) (y : Int) : Sta base (w.setCell ⟨g, o, none⟩ (.int .u8 y)) q vo vk ks vs t := by
  have ht := Touch.of_set (o := o) hg (.int .u8 y)
  exact ⟨ht.tt (by decide) (by decide) h.tr, ht.own h.own (by decide), ht.own h.of (by decide), fun x hx => (h.byt x hx).set g o y, h.len, h.last, h.rise, h.size⟩
/-- the list at a place -/
theorem Sta.at_own {base : Nat} {w : World} {q : Option Addr} {ao : Option Addr} {n co : Nat} {vk : Value} {ks : List Int} {vs : List VT} {t : TI} (h : Sta base w q (.slice ao n co) vk ks vs t) {j : Nat} (hj : j < vs.length) :
    n = vs.length ∧ ∃ go, ao = some ⟨go, 0, none⟩ ∧ w.cell? ⟨go, j, none⟩ = some (encS vs[j]) := by
  rcases h.own.2 with ⟨e1, e2⟩ | ⟨g, cap', cur, e1, hg, hh, r⟩
  · omega
  · cases e1
    refine ⟨rfl, g, rfl, ?_⟩
    have := h.own.cells (g := g) rfl j (encS vs[j]) (by simp [List.getElem?_eq_getElem hj])
    have hadd : (⟨g, 0, none⟩ : Addr).add j = ⟨g, j, none⟩ := by unfold Addr.add; split <;> simp_all
    rw [hadd] at this
    exact this
/-- the key at a place -/
theorem Sta.at_of {base : Nat} {w : World} {q : Option Addr} {ak : Option Addr} {n ck : Nat} {vo : Value} {ks : List Int} {vs : List VT} {t : TI} (h : Sta base w q vo (.slice ak n ck) ks vs t) {j : Nat} (hj : j < ks.length) :
    n = ks.length ∧ ∃ gk, ak = some ⟨gk, 0, none⟩ ∧ w.cell? ⟨gk, j, none⟩ = some (.int .i64 ks[j]) := by
  rcases h.of.2 with ⟨e1, e2⟩ | ⟨g, cap', cur, e1, hg, hh, r⟩
  · omega
  · cases e1
    refine ⟨rfl, g, rfl, ?_⟩
    have := h.of.cells (g := g) rfl j (.int .i64 ks[j]) (by simp [ints, List.getElem?_eq_getElem hj])
    have hadd : (⟨g, 0, none⟩ : Addr).add j = ⟨g, j, none⟩ := by unfold Addr.add; split <;> simp_all
    rw [hadd] at this
    exact this
end Go.Proofs.Ytbpeeifgfjpghaa
