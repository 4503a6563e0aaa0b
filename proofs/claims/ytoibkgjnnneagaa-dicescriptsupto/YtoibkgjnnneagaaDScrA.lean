/- Dice by their seeds, on both sides: two rows of pointers; a script that came in. -/
import Derived.Test.YtoibkgjnnneagaaDStepA
import Derived.Deep.MidRow
import Derived.Deep.OwnRows
namespace Go.Proofs.Ytoibkgjnnneagaa
open Go.RowKit

def ptd (ps : List (Nat × Nat)) : List Value := ps.map fun p => .pointer (some ⟨p.1, 0, none⟩)
def ptm (ps : List (Nat × Nat)) : List Value := ps.map fun p => .pointer (some ⟨p.2, 0, none⟩)
theorem ptd_len (ps : List (Nat × Nat)) : (ptd ps).length = ps.length := by simp [ptd]
theorem ptm_len (ps : List (Nat × Nat)) : (ptm ps).length = ps.length := by simp [ptm]
theorem ptd_app (ps qs : List (Nat × Nat)) : ptd (ps ++ qs) = ptd ps ++ ptd qs := by simp [ptd]
theorem ptm_app (ps qs : List (Nat × Nat)) : ptm (ps ++ qs) = ptm ps ++ ptm qs := by simp [ptm]

/-- dice on both sides, pair by pair at one state, none twice -/
structure Fam (base : Nat) (w : World) (ps : List (Nat × Nat)) : Prop where
  own : ∀ (i : Nat) (p : Nat × Nat), ps[i]? = some p → base ≤ p.1 ∧ base ≤ p.2 ∧ ∃ s, Dc w p.1 s ∧ Rc w p.2 s
  nd : ∀ (i j : Nat) (p q : Nat × Nat), ps[i]? = some p → ps[j]? = some q → i ≠ j → p.1 ≠ q.1 ∧ p.2 ≠ q.2
theorem Fam.nil (base : Nat) (w : World) : Fam base w [] := ⟨fun i p h => by simp at h, fun i j p q h => by simp at h⟩
theorem Fam.lt {base : Nat} {w : World} {ps : List (Nat × Nat)} (h : Fam base w ps)   : ∀ (i : Nat) (p : Nat × Nat), ps[i]? = some p → p.1 < w.heap.size ∧ p.2 < w.heap.size := by
  intro i p hp
  obtain ⟨-, -, s, h1, h2⟩ := h.own i p hp
  exact ⟨h1.blk.lt, h2.blk.lt⟩
theorem Fam.kept {base : Nat} {w w' : World} {ps : List (Nat × Nat)} (h : Fam base w ps) (hk : Kept [] w w') : Fam base w' ps :=
  ⟨fun i p hp => by obtain ⟨h1, h2, s, h3, h4⟩ := h.own i p hp; exact ⟨h1, h2, s, h3.keep hk (by simp), h4.keep hk (by simp)⟩, h.nd⟩
theorem blk_grown {w w' : World} {row : Option Nat} {e t : TypeId} {b : Nat} {cs : Array Value} (hg : w.grownBy w' row) (hr : ∀ g, row = some g → ∃ cs fr, w.heap[g]? = some (.cells cs e fr)) (hne : t ≠ e) (h : Blk w b cs t) : Blk w' b cs t := by
  refine (hg.block b h.lt ?_).trans h
  intro x
  obtain ⟨cs', fr, hc⟩ := hr b x.symm
  unfold Blk at h
  rw [h] at hc
  simp at hc
  exact hne hc.2.1
theorem Fam.grown {base : Nat} {w w' : World} {row : Option Nat} {e : TypeId} {ps : List (Nat × Nat)} (h : Fam base w ps) (hg : w.grownBy w' row) (hr : ∀ g, row = some g → ∃ cs fr, w.heap[g]? = some (.cells cs e fr)) (h1 : 57 ≠ e) (h2 : 59 ≠ e) : Fam base w' ps :=
  ⟨fun i p hp => by obtain ⟨a1, a2, s, h3, h4⟩ := h.own i p hp; exact ⟨a1, a2, s, ⟨blk_grown hg hr h1 h3.blk, h3.lt⟩, ⟨blk_grown hg hr h2 h4.blk, h4.lt⟩⟩, h.nd⟩
theorem Fam.push {base : Nat} {w : World} {ps : List (Nat × Nat)} {b bm s : Nat} (h : Fam base w ps) (hd : Dc w b s) (hm : Rc w bm s) (hn : ∀ (i : Nat) (p : Nat × Nat), ps[i]? = some p → p.1 < b ∧ p.2 < bm) (hb : base ≤ b) (hbm : base ≤ bm) : Fam base w (ps ++ [(b, bm)]) := by
  constructor
  · intro i p hp
    rw [List.getElem?_append] at hp
    split at hp
    · exact h.own i p hp
    · simp only [List.getElem?_singleton] at hp
      split at hp
      · cases hp; exact ⟨hb, hbm, s, hd, hm⟩
      · cases hp
  · intro i j p q hp hq hij
    rw [List.getElem?_append] at hp hq
    split at hp
    · rename_i hi
      split at hq
      · exact h.nd i j p q hp hq hij
      · simp only [List.getElem?_singleton] at hq
        split at hq
        · cases hq
          have := hn i p hp
          exact ⟨by simp only; omega, by simp only; omega⟩
        · cases hq
    · rename_i hi
      simp only [List.getElem?_singleton] at hp
      split at hp
      · rename_i hi2
        cases hp
        split at hq
        · have := hn j q hq
          exact ⟨by simp only; omega, by simp only; omega⟩
        · simp only [List.getElem?_singleton] at hq
          split at hq
          · omega
          · cases hq
      · cases hp

theorem own_type {w : World} {base : Nat} {e : TypeId} {s : Nat} {v : Value} {n : Nat} {xs : List Value} (h : w.ownsRow base e s v n xs) : ∀ g, v.ownBlock = some g → ∃ cs fr, w.heap[g]? = some (.cells cs e fr) := by
  intro g hg
  rcases h.2 with ⟨e1, e2⟩ | ⟨g', cap', cur, e1, _, hh, _⟩
  · rw [e1] at hg; cases hg
  · rw [e1] at hg
    cases hg
    exact ⟨_, _, hh⟩
theorem own_ne {w : World} {base : Nat} {e t : TypeId} {s : Nat} {v : Value} {n b : Nat} {xs : List Value} {cs : Array Value} (h : w.ownsRow base e s v n xs) (hb : Blk w b cs t) (hne : t ≠ e) : ∀ k, v.ownBlock = some k → k ≠ b := by
  intro k hk x
  subst x
  obtain ⟨cs', fr, hc⟩ := own_type h k hk
  unfold Blk at hb
  rw [hb] at hc
  simp at hc
  exact hne hc.2.1
theorem own_grown {w w' : World} {base : Nat} {e e' : TypeId} {s : Nat} {v : Value} {n : Nat} {xs : List Value} {row : Option Nat} (h : w.ownsRow base e s v n xs) (hg : w.grownBy w' row) (hr : ∀ g, row = some g → ∃ cs fr, w.heap[g]? = some (.cells cs e' fr)) (hne : e ≠ e') : w'.ownsRow base e s v n xs := by
  refine ⟨h.1, ?_⟩
  rcases h.2 with h2 | ⟨g, cap, cur, hv, hb, hh, r⟩
  · exact Or.inl h2
  · refine Or.inr ⟨g, cap, cur, hv, hb, ?_, r⟩
    rw [hg.block g (Array.getElem?_eq_some_iff.1 hh).1 ?_]
    · exact hh
    · intro x
      obtain ⟨cs', fr, hc⟩ := hr g x.symm
      rw [hh] at hc
      simp at hc
      exact hne hc.2.1

/-- both rows, what stands behind the dice in them, and the dice -/
structure Duo (base : Nat) (w : World) (vd vm : Value) (ps : List (Nat × Nat)) (tl : List Value) : Prop where
  rd : w.ownsRow base 26 1 vd (ps.length + tl.length) (ptd ps ++ tl)
  rm : w.ownsRow base 29 1 vm (ps.length + tl.length) (ptm ps ++ tl)
  fam : Fam base w ps
theorem Duo.kept {base : Nat} {w w' : World} {vd vm : Value} {ps : List (Nat × Nat)} {tl : List Value} (h : Duo base w vd vm ps tl) (hk : Kept [] w w') : Duo base w' vd vm ps tl :=
  ⟨own_kept h.rd hk (by simp), own_kept h.rm hk (by simp), h.fam.kept hk⟩
theorem Duo.step {base : Nat} {w w' : World} {vd vm : Value} {ps : List (Nat × Nat)} {tl : List Value} (h : Duo base w vd vm ps tl) {k : Nat} {p : Nat × Nat} (hp : ps[k]? = some p) (hb : Both w w' p.1 p.2) : Duo base w' vd vm ps tl := by
  obtain ⟨h1, h2, s, h3, h4⟩ := h.fam.own k p hp
  obtain ⟨⟨t, d1, d2⟩, hk⟩ := hb
  refine ⟨own_kept h.rd hk ?_, own_kept h.rm hk ?_, ⟨?_, h.fam.nd⟩⟩
  · intro g hg
    have a1 := own_ne h.rd h3.blk (by decide) g hg
    have a2 := own_ne h.rd h4.blk (by decide) g hg
    simp [a1, a2]
  · intro g hg
    have a1 := own_ne h.rm h3.blk (by decide) g hg
    have a2 := own_ne h.rm h4.blk (by decide) g hg
    simp [a1, a2]
  · intro i q hq
    by_cases hi : i = k
    · subst hi
      rw [hp] at hq
      cases hq
      exact ⟨h1, h2, t, d1, d2⟩
    · obtain ⟨b1, b2, s', c3, c4⟩ := h.fam.own i q hq
      have hn := h.fam.nd i k q p hq hp hi
      have x1 : q.1 ≠ p.2 := by
        intro x
        have y := c3.blk
        rw [x] at y
        unfold Blk at y
        have z := h4.blk
        unfold Blk at z
        rw [y] at z
        simp at z
      have x2 : q.2 ≠ p.1 := by
        intro x
        have y := c4.blk
        rw [x] at y
        unfold Blk at y
        have z := h3.blk
        unfold Blk at z
        rw [y] at z
        simp at z
      exact ⟨b1, b2, s', c3.keep hk (by simp [hn.1, x1]), c4.keep hk (by simp [hn.2, x2])⟩
/-- the places of the rows -/
theorem own_at {w : World} {base : Nat} {e : TypeId} {a : Option Addr} {n n' cap : Nat} {xs : List Value} (h : w.ownsRow base e 1 (.slice a n cap) n' xs) {i : Nat} {u : Value} (hu : xs[i]? = some u) : ∃ g, a = some ⟨g, 0, none⟩ ∧ base ≤ g ∧ w.cell? ⟨g, i, none⟩ = some u := by
  rcases h.2 with ⟨e1, e2⟩ | ⟨g, cap', cur, e1, hg, hh, r⟩
  · have := h.1
    have hi := (List.getElem?_eq_some_iff.1 hu).1
    simp at this
    omega
  · cases e1
    have := h.cells (g := g) rfl i u hu
    have hadd : (⟨g, 0, none⟩ : Addr).add i = ⟨g, i, none⟩ := by unfold Addr.add; split <;> simp_all
    rw [hadd] at this
    exact ⟨g, rfl, hg, this⟩

/-- a step of the script, in plain words -/
structure OpD where
  kind : Int
  wh : Int
  n : Int
  far : Nat
  wv : Value
  wl : List Nat
def oc (o : OpD) : List Value := [.int .i64 o.kind, .int .i64 o.wh, .int .i64 o.n, .int .u64 (o.far : Int), o.wv]
def OpD.ok (w : World) (o : OpD) : Prop := o.n ≤ 9223372036854775807 ∧ o.wl.length ≤ 2097152 ∧ (∀ j, j < o.wl.length → o.wl.getD j 0 < 18446744073709551616) ∧ SeesU w o.wv o.wl
/-- a script that came in -/
def Ops (w : World) (v : Value) (os : List OpD) : Prop :=
  ∃ a cap, v = .slice a os.length cap ∧ os.length ≤ 9223372036854775807 ∧ ∀ k o, os[k]? = some o → o.ok w ∧ ∃ b off, a = some ⟨b, off, none⟩ ∧ b < w.heap.size ∧ w.rangeAt b (off + k * 5) (oc o)
theorem range_kept {F : List Nat} {w w' : World} {b o : Nat} {l : List Value} (h : w.rangeAt b o l) (hk : Kept F w w') (hb : b < w.heap.size) (hn : b ∉ F) : w'.rangeAt b o l :=
  fun j v hv => (hk.cell (p := ⟨b, o + j, none⟩) hb hn).trans (h j v hv)
theorem sizeOp : (Try.prog.info? 33).map (·.size) = some 5 := by kernel_rfl
theorem sees_below {w : World} {v : Value} {l : List Nat} (h : SeesU w v l) : l = [] ∨ ∀ k, v.ownBlock = some k → k < w.heap.size := by
  obtain ⟨a, cap, rfl, h1, h2, h4⟩ := h
  rcases h4 with h4 | ⟨b, off, rfl, h5, h6⟩
  · exact Or.inl h4
  · refine Or.inr fun k hk => ?_
    cases hk
    exact h5
end Go.Proofs.Ytoibkgjnnneagaa
