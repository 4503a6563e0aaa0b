/- LoadOwn: rows that are written over and appended to. -/
import Derived.Test.YthhgeobfolhpoaaVSpr
import Derived.Test.YthhgeobfolhpoaaVEq
import Derived.Test.YthhgeobfolhpoaaVKnown
import Derived.Maps.AppendAt
namespace Go.Proofs.Ythhgeobfolhpoaa
open Go.RowKit

theorem add_zero_mid (g k : Nat) : (⟨g, 0, none⟩ : Addr).add k = ⟨g, k, none⟩ := by unfold Addr.add; split <;> simp_all
/-- one element more: the row's first cells stay where they lay -/
theorem run_append_keep {P : Program} (w : World) (base : Nat) (t ty e : TypeId) (i : TypeInfo) (z : Value) (ht : P.underlying t = some (.slice e)) (hi : P.info? e = some i) (hz : i.zero = some z)
    (hsize : i.size = 1) (hby : i.bytes = 8) (hzs : z.cells.size = 1)
    (v : Value) (n : Nat) (xs : List Value) (hown : w.ownsRow base e 1 v n xs) (a : Addr) (x : Value) (hx1 : x.oneCell' = true) (hnews : ∀ j u, [x][j]? = some u → w.cell? (a.add j) = some u)
    (h63 : n + 1 ≤ 17592186044416) (hbase : base ≤ w.heap.size) :
    ∃ v' w', (Builtin.append_ #[t, t] ty #[v, .slice (some a) 1 1]).run P w = .ok v' w' ∧ w'.ownsRow base e 1 v' (n + 1) (xs ++ [x]) ∧ w.grownBy w' v.ownBlock ∧ (v'.ownBlock = v.ownBlock ∨ v'.ownBlock = some w.heap.size) ∧
      (∀ b, v.ownBlock = some b → ∀ k, k < n → w'.cell? ⟨b, k, none⟩ = w.cell? ⟨b, k, none⟩) := by
  have h1 : ∀ u ∈ [x], u.oneCell' = true := by intro u hu; simp at hu; rw [hu]; exact hx1
  obtain ⟨v', w', hr, h2, h3, _, h5⟩ := run_append_own_at (P := P) w base t ty e i z 1 8 ht hi hz hsize hby hzs (by decide) v n xs hown a 1 1 [x] rfl hnews h1 (by unfold maxLen; omega) (by omega) hbase
  refine ⟨v', w', hr, h2, h3, h5, ?_⟩
  intro b hb k hk
  rcases hown.2 with ⟨rfl, _⟩ | ⟨g, cap, cur, hv, hbg, hg, hnc, hcm, hcs, htake⟩
  · cases hb
  · subst hv
    have hbg2 : g = b := by simpa [Value.ownBlock] using hb
    subst hbg2
    have hxl : xs.length = n := by have := hown.1; omega
    have hold : w.cell? ⟨g, k, none⟩ = xs[k]? := by
      have := hown.cells (g := g) rfl k xs[k] (List.getElem?_eq_getElem (by omega))
      rw [add_zero_mid] at this
      rw [this, List.getElem?_eq_getElem (by omega)]
    by_cases hroom : n + 1 ≤ cap
    · have hfit : n * i.size + [x].length ≤ cur.size := by rw [hsize, hcs]; simp; omega
      have hr2 := run_append_room (P := P) w t ty e i ht hi g n cap cur hg a 1 1 [x] (by rw [hsize]; rfl) hnews h1 hroom hfit
      rw [hr] at hr2
      injection hr2 with e1 e2
      subst e1
      have := h2.cells (g := g) rfl k xs[k] (by rw [List.getElem?_append_left (by omega)]; exact List.getElem?_eq_getElem (by omega))
      rw [add_zero_mid] at this
      rw [this, hold, List.getElem?_eq_getElem (by omega)]
    · have holds : ∀ j u, xs[j]? = some u → w.cell? ((⟨g, 0, none⟩ : Addr).add j) = some u := hown.cells (g := g) rfl
      have hr2 := run_append_grow (P := P) w t ty e i z ht hi hz ⟨g, 0, none⟩ n cap xs (by rw [hsize]; exact hown.1) holds a 1 1 [x] (by rw [hsize]; rfl) hnews (by omega) (by omega) (growslice_fits (by omega) (by rw [hby]; omega))
      rw [hr] at hr2
      injection hr2 with e1 e2
      subst e2
      have hgl : g < w.heap.size := (Array.getElem?_eq_some_iff.1 hg).1
      exact World.cell?_of_block (w := w) (heap_alloc_old w.drew _ hgl)
theorem wpList_append_keep {P : Program} (w : World) {ops : Array Oper} {rest : List Oper} {o : Oper} {a : Act} {Q : Exit → Act → World → Prop} (hgd : o.guard = none) (s x : Operand) (t e : TypeId)
    (ho : o.op = .call { callee := .builtin .append, args := #[s, x], argTypes := #[t, t] })
    (base : Nat) (i : TypeInfo) (z : Value) (ht : P.underlying t = some (.slice e)) (hi : P.info? e = some i) (hz : i.zero = some z)
    (hsize : i.size = 1) (hby : i.bytes = 8) (hzs : z.cells.size = 1)
    (v : Value) (n : Nat) (xs : List Value) (hs : a.eval s = v) (hown : w.ownsRow base e 1 v n xs) (ad : Addr) (y : Value) (hy1 : y.oneCell' = true) (hxv : a.eval x = .slice (some ad) 1 1) (hnews : ∀ j u, [y][j]? = some u → w.cell? (ad.add j) = some u)
    (h63 : n + 1 ≤ 17592186044416) (hbase : base ≤ w.heap.size)
    (h : ∀ v' w', w'.ownsRow base e 1 v' (n + 1) (xs ++ [y]) → w.grownBy w' v.ownBlock → (v'.ownBlock = v.ownBlock ∨ v'.ownBlock = some w.heap.size) → (∀ b, v.ownBlock = some b → ∀ k, k < n → w'.cell? ⟨b, k, none⟩ = w.cell? ⟨b, k, none⟩) → wpList P ops Q rest (a.put o.dst v') w') :
    wpList P ops Q (o :: rest) a w := by
  refine wpList_plain hgd fun K hK => ?_
  obtain ⟨v', w', hr, h2, h3, h4, h5⟩ := run_append_keep (P := P) w base t o.type e i z ht hi hz hsize hby hzs v n xs hown ad y hy1 hnews h63 hbase
  unfold Oper.wp execOp
  simp only [ho, resolve, invoke, builtin, Sem.run_bind, Sem.run_pure, Result.andThen_ok, List.map_toArray, List.map_cons, List.map_nil, hs, hxv, hr]
  exact hK _ _ (h v' w' h2 h3 h4 h5)

/-- a row of the call's own, its block and its room -/
def RowF (w : World) (g cap n : Nat) (l : List Nat) : Prop := w.ownsRow 0 46 1 (.slice (some ⟨g, 0, none⟩) n cap) n (flts l)
theorem own_lower {w : World} {base base2 : Nat} {e : TypeId} {s : Nat} {v : Value} {n : Nat} {xs : List Value} (h : w.ownsRow base e s v n xs) (hb : base2 ≤ base) : w.ownsRow base2 e s v n xs := by
  refine ⟨h.1, ?_⟩
  rcases h.2 with h2 | ⟨g, cap, cur, hv, hg, r⟩
  · exact Or.inl h2
  · exact Or.inr ⟨g, cap, cur, hv, Nat.le_trans hb hg, r⟩
theorem row_of_own {w : World} {base : Nat} {v : Value} {n : Nat} {l : List Nat} (h : w.ownsRow base 46 1 v n (flts l)) (hn : 1 ≤ n) : ∃ g cap, v = .slice (some ⟨g, 0, none⟩) n cap ∧ base ≤ g ∧ g < w.heap.size ∧ RowF w g cap n l := by
  rcases h.2 with ⟨_, h0⟩ | ⟨g, cap, cur, hv, hg, hh, _⟩
  · omega
  · subst hv
    exact ⟨g, cap, rfl, hg, (Array.getElem?_eq_some_iff.1 hh).1, own_lower h (Nat.zero_le _)⟩
theorem RowF.kept {F : List Nat} {w w' : World} {g cap n : Nat} {l : List Nat} (h : RowF w g cap n l) (hk : Kept F w w') (hn : g ∉ F) : RowF w' g cap n l := own_kept (n := n) h hk (by intro k e; cases e; exact hn)
theorem RowF.len {w : World} {g cap n : Nat} {l : List Nat} (h : RowF w g cap n l) : l.length = n := by have := h.1; rw [flts_length] at this; omega
theorem RowF.lt {w : World} {g cap n : Nat} {l : List Nat} (h : RowF w g cap n l) : g < w.heap.size := (own_lt h rfl).2
theorem RowF.cap {w : World} {g cap n : Nat} {l : List Nat} (h : RowF w g cap n l) : n ≤ cap ∧ cap ≤ maxLen := by
  rcases h.2 with ⟨h1, _⟩ | ⟨g', cap', cur, hv, hb, hg, hc, hm, _⟩
  · cases h1
  · cases hv; exact ⟨hc, hm⟩
theorem RowF.sees {w : World} {g cap n : Nat} {l : List Nat} (h : RowF w g cap n l) : SeesF w (.slice (some ⟨g, 0, none⟩) n cap) l := by
  have e := h.len
  have h' : w.ownsRow 0 46 1 (.slice (some ⟨g, 0, none⟩) n cap) n (flts l) := h
  subst e
  exact SeesF.of_own h'
theorem RowF.at {w : World} {g cap n : Nat} {l : List Nat} (h : RowF w g cap n l) {k : Nat} (hk : k < n) : w.cell? ⟨g, k, none⟩ = some (.float .f64 (l.getD k 0)) := by
  have := World.ownsRow.cells (g := g) (h : w.ownsRow 0 46 1 (.slice (some ⟨g, 0, none⟩) n cap) n (flts l)) rfl k _ (flts_at l (by rw [h.len]; exact hk))
  rwa [add_zero_mid] at this
theorem RowF.frozen {w : World} {g cap n : Nat} {l : List Nat} (h : RowF w g cap n l) (k : Nat) : w.frozen? ⟨g, k, none⟩ = false := by
  rcases h.2 with ⟨h1, _⟩ | ⟨g', cap', cur, hv, hb, hg, _⟩
  · cases h1
  · cases hv; simp [World.frozen?, hg]
theorem RowF.set {w : World} {g cap n : Nat} {l : List Nat} (h : RowF w g cap n l) (k y : Nat) : RowF (w.setCell ⟨g, k, none⟩ (.float .f64 y)) g cap n (l.set k y) := by
  refine ⟨by rw [flts_length, List.length_set]; have := h.len; omega, ?_⟩
  rcases h.2 with ⟨h1, _⟩ | ⟨g', cap', cur, hv, hb, hg, hc, hm, hs, ht⟩
  · cases h1
  · cases hv
    refine Or.inr ⟨g, cap, cur.setIfInBounds k (.float .f64 y), rfl, hb, Blk.set hg k _, hc, hm, by simpa using hs, ?_⟩
    rw [flts_set, ← ht, Array.toList_setIfInBounds, List.take_set]
theorem RowF.store {w : World} {g cap n : Nat} {l : List Nat} (h : RowF w g cap n l) {k : Nat} (hk : k < n) (y : Nat) : (Go.store ⟨g, k, none⟩ (.float .f64 y)).run Try.prog w = .ok () (w.setCell ⟨g, k, none⟩ (.float .f64 y)) := by
  have c := h.at hk
  have f := h.frozen k
  rw [run_store_float]; simp [stored, c, f]

/-- the words that are written, and those that are appended -/
def wX (i k : Nat) : Nat := floatOfInt .f64 (-1000 * (i : Int) - (k : Int) - 1)
def wY (i k : Nat) : Nat := floatOfInt .f64 (1000 * (i : Int) + (k : Int) + 7)
def lX (i n : Nat) : List Nat := (List.range n).map (wX i)
def lY (i j : Nat) : List Nat := (List.range j).map (wY i)
theorem map_len (f : Nat → Nat) (n : Nat) : ((List.range n).map f).length = n := by simp
theorem map_at (f : Nat → Nat) {n k : Nat} (h : k < n) : ((List.range n).map f).getD k 0 = f k := by simp [List.getD, h]
theorem map_more (f : Nat → Nat) (n : Nat) : (List.range (n + 1)).map f = (List.range n).map f ++ [f n] := by simp [List.range_succ]
theorem map_is (f : Nat → Nat) {n : Nat} {l : List Nat} (hl : l.length = n) (h : ∀ k, k < n → l.getD k 0 = f k) : l = (List.range n).map f := by
  apply List.ext_getElem?
  intro j
  by_cases hj : j < n
  · have h1 := h j hj
    rw [List.getD, List.getElem?_eq_getElem (by omega)] at h1
    rw [List.getElem?_eq_getElem (by omega)]
    simp only [Option.getD_some] at h1
    rw [h1]
    simp [hj]
  · rw [List.getElem?_eq_none (by omega), List.getElem?_eq_none (by rw [map_len]; omega)]
theorem lX_len (i n : Nat) : (lX i n).length = n := map_len _ _
theorem lY_len (i n : Nat) : (lY i n).length = n := map_len _ _
theorem lX_at (i : Nat) {n k : Nat} (h : k < n) : (lX i n).getD k 0 = wX i k := map_at _ h
theorem lY_at (i : Nat) {n k : Nat} (h : k < n) : (lY i n).getD k 0 = wY i k := map_at _ h
theorem lY_more (i j : Nat) : lY i (j + 1) = lY i j ++ [wY i j] := map_more _ _
theorem all_is {i n : Nat} {l : List Nat} (hl : l.length = n) (h : ∀ k, k < n → l.getD k 0 = wX i k) : l = lX i n := map_is _ hl h

/-- the three rows while they are written over: those ahead of i are done, of i the first k -/
def Done (w : World) (G C : Nat → Nat) (n i k : Nat) : Prop := ∀ r, r < 3 → ∃ l, RowF w (G r) (C r) n l ∧ (r < i → ∀ j, j < n → l.getD j 0 = wX r j) ∧ (r = i → ∀ j, j < k → l.getD j 0 = wX r j)
def Sep (G : Nat → Nat) : Prop := ∀ r s, r < 3 → s < 3 → r ≠ s → G r ≠ G s
theorem Done.next {w : World} {G C : Nat → Nat} {n i : Nat} (h : Done w G C n i n) : Done w G C n (i + 1) 0 := by
  intro r hr
  obtain ⟨l, h1, h2, h3⟩ := h r hr
  refine ⟨l, h1, fun hi j hj => ?_, fun _ j hj => by omega⟩
  by_cases e : r = i
  · exact h3 e j hj
  · exact h2 (by omega) j hj
theorem Done.put {w : World} {G C : Nat → Nat} {n i k : Nat} (h : Done w G C n i k) (hs : Sep G) (hi : i < 3) (hk : k < n) : Done (w.setCell ⟨G i, k, none⟩ (.float .f64 (wX i k))) G C n i (k + 1) := by
  have hK : Kept [G i] w (w.setCell ⟨G i, k, none⟩ (.float .f64 (wX i k))) := (Kept.refl _ _).setCell (p := ⟨G i, k, none⟩) (Or.inl (by simp)) _
  intro r hr
  obtain ⟨l, h1, h2, h3⟩ := h r hr
  by_cases e : r = i
  · subst e
    refine ⟨l.set k (wX r k), h1.set k _, fun hx => by omega, fun _ j hj => ?_⟩
    have hl := h1.len
    rw [getD_set _ _ _ _ (by omega)]
    split
    · rename_i e; rw [e]
    · exact h3 rfl j (by omega)
  · exact ⟨l, h1.kept hK (by simp; exact hs r i hr hi e), h2, fun x => absurd x e⟩

/-- a row onto which j were appended -/
structure Gr (B : Nat) (w : World) (G : Nat → Nat) (n i j : Nat) (v : Value) : Prop where
  own : w.ownsRow 0 46 1 v (n + j) (flts (lX i n ++ lY i j))
  blk : ∀ b, v.ownBlock = some b → b = G i ∨ B ≤ b
/-- what stands behind the rows that were appended to: the old rows read as they did, those from i on are whole -/
structure Mid (B : Nat) (W0 w : World) (G C : Nat → Nat) (n i : Nat) : Prop where
  old : ∀ r, r < 3 → ∀ k, k < n → w.cell? ⟨G r, k, none⟩ = some (.float .f64 (wX r k))
  un : ∀ r, r < 3 → i ≤ r → RowF w (G r) (C r) n (lX r n)
  low : ∀ r, r < 3 → G r < B
  up : B ≤ w.heap.size
  kept : Kept [G 0, G 1, G 2] W0 w
theorem in_three {G : Nat → Nat} {r : Nat} (hr : r < 3) : G r ∈ [G 0, G 1, G 2] := by
  match r, hr with
  | 0, _ => simp
  | 1, _ => simp
  | 2, _ => simp
/-- an append to row i -/
theorem mid_grow {B : Nat} {W0 w w' : World} {G C : Nat → Nat} {n i j : Nat} {v v' : Value} {o : Obj} (hs : Sep G) (hi : i < 3) (hB : W0.heap.size = B) (h : Mid B W0 w G C n (i + 1)) (hg : Gr B w G n i j v)
    (h1 : w'.ownsRow 0 46 1 v' (n + j + 1) (flts (lX i n ++ lY i j) ++ [.float .f64 (wY i j)])) (h2 : (w.alloc o).grownBy w' v.ownBlock) (h3 : v'.ownBlock = v.ownBlock ∨ v'.ownBlock = some (w.heap.size + 1))
    (h4 : ∀ b, v.ownBlock = some b → ∀ k, k < n + j → w'.cell? ⟨b, k, none⟩ = (w.alloc o).cell? ⟨b, k, none⟩) : Mid B W0 w' G C n (i + 1) ∧ Gr B w' G n i (j + 1) v' ∧ Kept v.ownBlock.toList w w' := by
  have hup := h.up
  have hk : Kept v.ownBlock.toList w w' := ((Kept.refl _ w).alloc o).grown h2 (fun k e => Or.inl (by rw [e]; simp))
  refine ⟨⟨?_, ?_, h.low, Nat.le_trans h.up hk.size, ?_⟩, ⟨?_, ?_⟩, hk⟩
  · intro r hr k hk'
    have hlow := h.low r hr
    by_cases e : v.ownBlock = some (G r)
    · rw [h4 _ e k (by omega), World.cell?_of_block (w := w) (heap_alloc_old w o (show G r < w.heap.size by omega))]
      exact h.old r hr k hk'
    · rw [hk.cell (p := ⟨G r, k, none⟩) (by show G r < _; omega) (fun hm => e (by simpa using hm))]
      exact h.old r hr k hk'
  · intro r hr hir
    refine (h.un r hr hir).kept hk (fun hm => ?_)
    have hm' : v.ownBlock = some (G r) := by simpa using hm
    have hlow := h.low r hr
    rcases hg.blk _ hm' with e | e
    · exact hs r i hr hi (by omega) e
    · omega
  · refine h.kept.trans hk (fun x hx => ?_)
    have hx' : v.ownBlock = some x := by simpa using hx
    rcases hg.blk _ hx' with e | e
    · exact Or.inl (by rw [e]; exact in_three hi)
    · exact Or.inr (by omega)
  · have e : flts (lX i n ++ lY i j) ++ [Value.float .f64 (wY i j)] = flts (lX i n ++ lY i (j + 1)) := by
      rw [lY_more, ← List.append_assoc, flts_append (lX i n ++ lY i j)]; rfl
    rw [e] at h1
    exact h1
  · intro b hb
    rcases h3 with h3 | h3
    · rw [h3] at hb; exact hg.blk b hb
    · rw [h3] at hb
      have : w.heap.size + 1 = b := by simpa using hb
      right; omega

/-- the rows appended to so far, apart from each other -/
structure Vs (B : Nat) (w : World) (G : Nat → Nat) (n : Nat) (vs : List Value) : Prop where
  gr : ∀ (r : Nat) (v : Value), vs[r]? = some v → Gr B w G n r 80 v
  ap : ∀ (r s : Nat) (u v : Value), vs[r]? = some u → vs[s]? = some v → r ≠ s → ∀ b, u.ownBlock = some b → v.ownBlock ≠ some b
theorem Vs.kept {B : Nat} {w w' : World} {G : Nat → Nat} {n : Nat} {vs : List Value} {F : List Nat} (h : Vs B w G n vs) (hk : Kept F w w') (hf : ∀ (r : Nat) (v : Value), vs[r]? = some v → ∀ b, v.ownBlock = some b → b ∉ F) : Vs B w' G n vs :=
  ⟨fun r v hv => ⟨own_kept (h.gr r v hv).own hk (hf r v hv), (h.gr r v hv).blk⟩, h.ap⟩
/-- a value that lies apart from these -/
def Beside (vs : List Value) (v : Value) : Prop := ∀ (r : Nat) (u : Value), vs[r]? = some u → ∀ b, u.ownBlock = some b → v.ownBlock ≠ some b
theorem Beside.next {B : Nat} {w : World} {G : Nat → Nat} {n : Nat} {vs : List Value} {v v' : Value} (h : Beside vs v) (hv : Vs B w G n vs) (h3 : v'.ownBlock = v.ownBlock ∨ v'.ownBlock = some (w.heap.size + 1)) : Beside vs v' := by
  intro r u hu b hb
  rcases h3 with h3 | h3
  · rw [h3]; exact h r u hu b hb
  · rw [h3]
    have := (own_lt (hv.gr r u hu).own hb).2
    intro e
    have : w.heap.size + 1 = b := by simpa using e
    omega
theorem Vs.push {B : Nat} {w : World} {G : Nat → Nat} {n : Nat} {vs : List Value} {v : Value} (h : Vs B w G n vs) (hg : Gr B w G n vs.length 80 v) (hb : Beside vs v) : Vs B w G n (vs ++ [v]) := by
  constructor
  · intro r u hu
    rw [List.getElem?_append] at hu
    split at hu
    · exact h.gr r u hu
    · simp only [List.getElem?_singleton] at hu
      split at hu
      · cases hu
        have : r = vs.length := by omega
        rw [this]; exact hg
      · cases hu
  · intro r s u u' hu hu' hrs b hb1 hb2
    rw [List.getElem?_append] at hu hu'
    split at hu
    · split at hu'
      · exact h.ap r s u u' hu hu' hrs b hb1 hb2
      · simp only [List.getElem?_singleton] at hu'
        split at hu'
        · cases hu'
          exact hb r u hu b hb1 hb2
        · cases hu'
    · simp only [List.getElem?_singleton] at hu
      split at hu
      · cases hu
        split at hu'
        · exact hb s u' hu' b hb2 hb1
        · simp only [List.getElem?_singleton] at hu'
          split at hu'
          · omega
          · cases hu'
      · cases hu
theorem beside_old {B : Nat} {w : World} {G : Nat → Nat} {n c : Nat} {vs : List Value} (h : Vs B w G n vs) (hs : Sep G) (hl : vs.length < 3) (hlow : ∀ r, r < 3 → G r < B) : Beside vs (.slice (some ⟨G vs.length, 0, none⟩) n c) := by
  intro r u hu b hb e
  have hr : r < vs.length := (List.getElem?_eq_some_iff.1 hu).1
  have e' : G vs.length = b := by simpa [Value.ownBlock] using e
  have := hlow vs.length hl
  rcases (h.gr r u hu).blk b hb with h1 | h1
  · exact hs r vs.length (by omega) hl (by omega) (by omega)
  · omega
end Go.Proofs.Ythhgeobfolhpoaa
