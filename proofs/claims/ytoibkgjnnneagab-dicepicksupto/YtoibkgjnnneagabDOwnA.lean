/- DiceOwn: lists shuffled, doubled, compared. -/
import Derived.Test.YtoibkgjnnneagabDSame
import Derived.Test.YtoibkgjnnneagabDFloats
namespace Go.Proofs.Ytoibkgjnnneagab
open Go.RowKit

theorem seesI_of_blk {w : World} {g n : Nat} {l : List Int} (h : Blk w g (ints l).toArray 3) (hl : l.length = n) (hn : n ≤ 9223372036854775807) : SeesI w (.slice (some ⟨g, 0, none⟩) n n) l := by
  subst hl
  exact SeesI.of_own (ownI_of_blk h (Nat.zero_le _) rfl hn)
theorem own_lower {w : World} {base base2 : Nat} {e : TypeId} {s : Nat} {v : Value} {n : Nat} {xs : List Value} (h : w.ownsRow base e s v n xs) (hb : base2 ≤ base) : w.ownsRow base2 e s v n xs := by
  refine ⟨h.1, ?_⟩
  rcases h.2 with h2 | ⟨g, cap, cur, hv, hg, r⟩
  · exact Or.inl h2
  · exact Or.inr ⟨g, cap, cur, hv, Nat.le_trans hb hg, r⟩
theorem drewN_kept (w : World) (m : Nat) : Kept [] w (w.drewN m) := (Kept.refl _ _).drewN m

theorem blk_type3 {w : World} {b : Nat} {c d : Array Value} {t u : TypeId} (h : w.heap[b]? = some (.cells c t (0, 0))) (k : Blk w b d u) : t = u := by
  unfold Blk at k; rw [h] at k; cases k; rfl
/-- what lies there behind the first part: two dice, three lists, two twins -/
structure Lays (w : World) (bd be ga gb gc gf gw : Nat) (sd se : Nat) (A B C F G : List Int) (cf cw n : Nat) : Prop where
  d : Dc w bd sd
  e : Dc w be se
  a : Blk w ga (ints A).toArray 3
  b : Blk w gb (ints B).toArray 3
  c : Blk w gc (ints C).toArray 3
  f : w.ownsRow 0 3 1 (.slice (some ⟨gf, 0, none⟩) n cf) n (ints F)
  g : w.ownsRow 0 3 1 (.slice (some ⟨gw, 0, none⟩) n cw) n (ints G)
theorem Lays.keep {w w' : World} {bd be ga gb gc gf gw sd se : Nat} {A B C F G : List Int} {cf cw n : Nat} (h : Lays w bd be ga gb gc gf gw sd se A B C F G cf cw n) {X : List Nat} (hk : Kept X w w')
    (h1 : bd ∉ X) (h2 : be ∉ X) (h3 : ga ∉ X) (h4 : gb ∉ X) (h5 : gc ∉ X) (h6 : gf ∉ X) (h7 : gw ∉ X) : Lays w' bd be ga gb gc gf gw sd se A B C F G cf cw n :=
  ⟨h.d.keep hk h1, h.e.keep hk h2, h.a.kept hk h3, h.b.kept hk h4, h.c.kept hk h5, own_kept h.f hk (fun k e => by cases e; exact h6), own_kept h.g hk (fun k e => by cases e; exact h7)⟩

/-- the seven blocks are seven -/
structure Apart (bd be ga gb gc gf gw : Nat) : Prop where
  de : bd ≠ be
  d : bd ≠ ga ∧ bd ≠ gb ∧ bd ≠ gc ∧ bd ≠ gf ∧ bd ≠ gw
  e : be ≠ ga ∧ be ≠ gb ∧ be ≠ gc ∧ be ≠ gf ∧ be ≠ gw
  a : ga ≠ gb ∧ ga ≠ gc ∧ ga ≠ gf ∧ ga ≠ gw
  b : gb ≠ gc ∧ gb ≠ gf ∧ gb ≠ gw
  c : gc ≠ gf ∧ gc ≠ gw
  f : gf ≠ gw
theorem Lays.set3 {w : World} {bd be ga gb gc gf gw sd se : Nat} {A B C F G : List Int} {cf cw n : Nat} (h : Lays w bd be ga gb gc gf gw sd se A B C F G cf cw n) (p : Apart bd be ga gb gc gf gw) (i : Nat) (x y z : Int) :
    Lays (((w.setCell ⟨ga, i, none⟩ (.int .i64 x)).setCell ⟨gb, i, none⟩ (.int .i64 y)).setCell ⟨gc, i, none⟩ (.int .i64 z)) bd be ga gb gc gf gw sd se (A.set i x) (B.set i y) (C.set i z) F G cf cw n := by
  have k1 : Kept [ga] w (w.setCell ⟨ga, i, none⟩ (.int .i64 x)) := (Kept.refl _ _).setCell (p := ⟨ga, i, none⟩) (Or.inl (by simp)) _
  have k2 : Kept [gb] (w.setCell ⟨ga, i, none⟩ (.int .i64 x)) ((w.setCell ⟨ga, i, none⟩ (.int .i64 x)).setCell ⟨gb, i, none⟩ (.int .i64 y)) := (Kept.refl _ _).setCell (p := ⟨gb, i, none⟩) (Or.inl (by simp)) _
  have k3 : Kept [gc] ((w.setCell ⟨ga, i, none⟩ (.int .i64 x)).setCell ⟨gb, i, none⟩ (.int .i64 y)) (((w.setCell ⟨ga, i, none⟩ (.int .i64 x)).setCell ⟨gb, i, none⟩ (.int .i64 y)).setCell ⟨gc, i, none⟩ (.int .i64 z)) := (Kept.refl _ _).setCell (p := ⟨gc, i, none⟩) (Or.inl (by simp)) _
  obtain ⟨-, p2, p3, p4, p5, p6, -⟩ := p
  refine ⟨?_, ?_, ?_, ?_, ?_, ?_, ?_⟩
  · exact ((h.d.keep k1 (by simpa using p2.1)).keep k2 (by simpa using p2.2.1)).keep k3 (by simpa using p2.2.2.1)
  · exact ((h.e.keep k1 (by simpa using p3.1)).keep k2 (by simpa using p3.2.1)).keep k3 (by simpa using p3.2.2.1)
  · exact ((blk_put h.a i x).kept k2 (by simpa using p4.1)).kept k3 (by simpa using p4.2.1)
  · exact (blk_put (h.b.kept k1 (by simpa using p4.1.symm)) i y).kept k3 (by simpa using p5.1)
  · exact blk_put ((h.c.kept k1 (by simpa using p4.2.1.symm)).kept k2 (by simpa using p5.1.symm)) i z
  · exact own_kept (own_kept (own_kept h.f k1 (by intro k e; cases e; simpa using p4.2.2.1.symm)) k2 (by intro k e; cases e; simpa using p5.2.1.symm)) k3 (by intro k e; cases e; simpa using p6.1.symm)
  · exact own_kept (own_kept (own_kept h.g k1 (by intro k e; cases e; simpa using p4.2.2.2.symm)) k2 (by intro k e; cases e; simpa using p5.2.2.symm)) k3 (by intro k e; cases e; simpa using p6.2.symm)
theorem set_getD {l : List Int} {i k : Nat} {x : Int} (hi : i < l.length) : (l.set i x).getD k 0 = if k = i then x else l.getD k 0 := by
  simp only [List.getD]
  rw [List.getElem?_set]
  by_cases h : k = i
  · subst h; simp [hi]
  · rw [if_neg (by omega), if_neg h]
/-- the first i numbers of a list are c, c + 1, .. -/
def Laid (c : Int) (l : List Int) (n i : Nat) : Prop := l.length = n ∧ ∀ k, k < i → l.getD k 0 = c + (k : Int)
theorem Laid.set {c : Int} {l : List Int} {n i : Nat} (h : Laid c l n i) (hi : i < n) : Laid c (l.set i (c + (i : Int))) n (i + 1) := by
  refine ⟨by rw [List.length_set]; exact h.1, fun k hk => ?_⟩
  rw [set_getD (by rw [h.1]; exact hi)]
  by_cases e : k = i
  · rw [if_pos e, e]
  · rw [if_neg e]; exact h.2 k (by omega)

/-- c, c + 1, .. -/
def app (c : Int) : Nat → List Int
  | 0 => []
  | j + 1 => app c j ++ [c + (j : Int)]
theorem app_length (c : Int) (j : Nat) : (app c j).length = j := by
  induction j with
  | zero => rfl
  | succ j ih => simp [app, ih]
theorem app_at (c : Int) {k j : Nat} (h : k < j) : (app c j).getD k 0 = c + (k : Int) := by
  induction j with
  | zero => omega
  | succ j ih =>
    by_cases e : k = j
    · subst e; rw [app, List.getD, List.getElem?_append_right (by rw [app_length]; omega), app_length, Nat.sub_self]; rfl
    · have := ih (by omega)
      rw [app, List.getD, List.getElem?_append_left (by rw [app_length]; omega)]
      exact this

/-- a list onto which j numbers were appended; what it was is as it was -/
structure Gr (W0 w : World) (g n j : Nat) (c c2 : Int) (X : List Int) (v : Value) : Prop where
  own : w.ownsRow 0 3 1 v (n + j) (ints (X ++ app c2 j))
  blk : ∀ b, v.ownBlock = some b → b = g ∨ W0.heap.size ≤ b
  old : ∀ k, k < n → w.cell? ⟨g, k, none⟩ = some (.int .i64 (c + (k : Int)))
  low : g < W0.heap.size
  up : W0.heap.size ≤ w.heap.size
theorem Gr.other {W0 w w' : World} {g n j : Nat} {c c2 : Int} {X : List Int} {v vx : Value} (h : Gr W0 w g n j c c2 X v) (hk : Kept vx.ownBlock.toList w w') (hd : ∀ b, vx.ownBlock = some b → v.ownBlock ≠ some b) (hg : ∀ b, vx.ownBlock = some b → b ≠ g) : Gr W0 w' g n j c c2 X v := by
  have hup := h.up
  have hlo := h.low
  refine ⟨own_kept h.own hk (fun k e hm => ?_), h.blk, fun k hk' => ?_, h.low, Nat.le_trans h.up hk.size⟩
  · have : vx.ownBlock = some k := by simpa using hm
    exact hd k this e
  · rw [hk.cell (p := ⟨g, k, none⟩) (by show g < _; omega) (fun hm => hg g (by simpa using hm) rfl)]
    exact h.old k hk'
theorem Gr.grow {W0 w w' : World} {g n j : Nat} {c c2 : Int} {X : List Int} {v v' : Value} {o : Obj} (h : Gr W0 w g n j c c2 X v)
    (h1 : w'.ownsRow 0 3 1 v' (n + j + 1) (ints (X ++ app c2 j) ++ [.int .i64 (c2 + (j : Int))])) (h2 : (w.alloc o).grownBy w' v.ownBlock) (h3 : v'.ownBlock = v.ownBlock ∨ v'.ownBlock = some (w.heap.size + 1))
    (h4 : ∀ b, v.ownBlock = some b → ∀ k, k < n + j → w'.cell? ⟨b, k, none⟩ = (w.alloc o).cell? ⟨b, k, none⟩) : Gr W0 w' g n (j + 1) c c2 X v' ∧ Kept v.ownBlock.toList w w' := by
  have hup := h.up
  have hlo := h.low
  have hk : Kept v.ownBlock.toList w w' := ((Kept.refl _ w).alloc o).grown h2 (fun k e => Or.inl (by rw [e]; simp))
  refine ⟨⟨?_, ?_, ?_, h.low, Nat.le_trans h.up hk.size⟩, hk⟩
  · have e : ints (X ++ app c2 j) ++ [Value.int .i64 (c2 + (j : Int))] = ints (X ++ app c2 (j + 1)) := by
      rw [show app c2 (j + 1) = app c2 j ++ [c2 + (j : Int)] from rfl, ← List.append_assoc, ints_append (X ++ app c2 j)]; rfl
    rw [e] at h1
    exact h1
  · intro b hb
    rcases h3 with h3 | h3
    · rw [h3] at hb; exact h.blk b hb
    · rw [h3] at hb
      have : w.heap.size + 1 = b := by simpa using hb
      right; omega
  · intro k hk'
    by_cases e : v.ownBlock = some g
    · rw [h4 g e k (by omega)]
      rw [World.cell?_of_block (w := w) (heap_alloc_old w o (show g < w.heap.size by omega))]
      exact h.old k hk'
    · rw [hk.cell (p := ⟨g, k, none⟩) (by show g < _; omega) (fun hm => e (by simpa using hm))]
      exact h.old k hk'
theorem new_apart {w : World} {v v' vy : Value} (h3 : v'.ownBlock = v.ownBlock ∨ v'.ownBlock = some (w.heap.size + 1)) (hd : ∀ b, v.ownBlock = some b → vy.ownBlock ≠ some b) (hy : ∀ b, vy.ownBlock = some b → b < w.heap.size) : ∀ b, v'.ownBlock = some b → vy.ownBlock ≠ some b := by
  intro b hb he
  rcases h3 with h3 | h3
  · exact hd b (by rw [← h3]; exact hb) he
  · have h4 := hy b he
    rw [h3] at hb
    have : w.heap.size + 1 = b := by simpa using hb
    omega
theorem swap_apart {v vy : Value} (h : ∀ b, v.ownBlock = some b → vy.ownBlock ≠ some b) : ∀ b, vy.ownBlock = some b → v.ownBlock ≠ some b := fun b h1 h2 => h b h2 h1
end Go.Proofs.Ytoibkgjnnneagab
