/- apart, over rows that were made one behind the other. -/
import Derived.Test.YtiafnfjgmfnnoabJApart
namespace Go.Proofs.Ytiafnfjgmfnnoab
open Go.RowKit Go.Sort Go.Shelf

/-- a row of the call's own, that lies in a block from lo on, below hi -/
structure Rw where
  v : Value
  l : List Int
  lo : Nat
  hi : Nat
instance : Inhabited Rw := ⟨⟨.slice none 0 0, [], 0, 0⟩⟩
structure Rw.At (r : Rw) (w : World) : Prop where
  own : w.ownsRow r.lo 3 1 r.v r.l.length (ints r.l)
  top : ∀ b, r.v.ownBlock = some b → b < r.hi
  in_ : r.hi ≤ w.heap.size
  room : r.l.length + 80 ≤ 17592186044416
theorem Rw.At.kept {r : Rw} {F : List Nat} {w w' : World} (h : r.At w) (hk : Kept F w w') (hn : ∀ b, r.v.ownBlock = some b → b ∉ F) : r.At w' :=
  ⟨own_kept h.own hk hn, h.top, Nat.le_trans h.in_ hk.size, h.room⟩
theorem Rw.At.low {r : Rw} {w : World} (h : r.At w) {b : Nat} (hb : r.v.ownBlock = some b) : r.lo ≤ b ∧ b < r.hi := ⟨(h.own.lt b hb).1, h.top b hb⟩
theorem Rw.At.sees {r : Rw} {w : World} (h : r.At w) : SeesI w r.v r.l := SeesI.of_own h.own

def blocks (rows : List Rw) : List Nat := rows.filterMap fun r => r.v.ownBlock
theorem own_lower {w : World} {base base2 : Nat} {e : TypeId} {s : Nat} {v : Value} {n : Nat} {xs : List Value} (h : w.ownsRow base e s v n xs) (hb : base2 ≤ base) : w.ownsRow base2 e s v n xs := by
  refine ⟨h.1, ?_⟩
  rcases h.2 with h2 | ⟨g, cap, cur, hv, hg, r⟩
  · exact Or.inl h2
  · exact Or.inr ⟨g, cap, cur, hv, by omega, r⟩

theorem apart_rows {w : World} {rows : List Rw} {base m : Nat} (hm : rows.length = m) (hm2 : m ≤ 100) (hr : ∀ r ∈ rows, r.At w) (hp : rows.Pairwise fun r s => r.hi ≤ s.lo) (hb : ∀ r ∈ rows, base ≤ r.lo) (hbw : base ≤ w.heap.size) :
    Calls Try.prog 8 #[.slice (some ⟨w.heap.size, 0, none⟩) m m] (w.alloc (.cells (rows.map (·.v)).toArray 23)) fun e w' => e = .returned (.bool true) ∧ Kept (blocks rows) (w.alloc (.cells (rows.map (·.v)).toArray 23)) w' := by
  subst hm
  have hg : ∀ i, i < rows.length → rows.getD i default ∈ rows := fun i hi => by rw [List.getD, List.getElem?_eq_getElem hi]; exact List.getElem_mem hi
  have hkA : Kept [] w (w.alloc (.cells (rows.map (·.v)).toArray 23)) := (Kept.refl [] w).alloc _
  refine apart_any (V := fun i => (rows.getD i default).v) (N := fun i => (rows.getD i default).l.length) (base := base) ⟨hm2, by simp, ?_, ?_, ?_, ?_, ?_, ?_⟩ (by rw [World.size_alloc]; omega) (fun i => (rows.getD i default).l) ?_
  · intro i hi
    rw [(Blk.new w (rows.map (·.v)).toArray 23).cell]
    simp [hi]
  · intro i hi; exact (hr _ (hg i hi)).room
  · intro i j hi hj hij b h1 h2
    have a1 := (hr _ (hg i hi)).low h1
    have a2 := (hr _ (hg j hj)).low h2
    have e : ∀ k (hk : k < rows.length), rows.getD k default = rows[k] := fun k hk => by rw [List.getD, List.getElem?_eq_getElem hk]; rfl
    rw [e i hi] at a1
    rw [e j hj] at a2
    rcases Nat.lt_or_gt_of_ne hij with h3 | h3
    · have := List.pairwise_iff_getElem.1 hp i j hi hj h3; omega
    · have := List.pairwise_iff_getElem.1 hp j i hj hi h3; omega
  · intro i hi b h1
    exact List.mem_filterMap.2 ⟨_, hg i hi, h1⟩
  · intro hmem
    obtain ⟨r, hr1, hr2⟩ := List.mem_filterMap.1 hmem
    have a1 := (hr r hr1).low hr2
    have a2 := (hr r hr1).in_
    omega
  · intro i hi b h1
    have a1 := (hr _ (hg i hi)).low h1
    have a2 := (hr _ (hg i hi)).in_
    simp
    omega
  · intro i hi
    exact own_lower (own_kept (hr _ (hg i hi)).own hkA (by simp)) (hb _ (hg i hi))

theorem way_length : ∀ (N f x b : Nat), (way N f x b).length ≤ f
  | N, 0, x, b => by simp [way]
  | N, f + 1, x, b => by
    by_cases hb : b < N
    · rw [way_step hb]
      have := way_length N f (nx x) (leapN b (nx x))
      simp; omega
    · rw [way_end _ _ hb]; simp
theorem wayOf_length (h : Nat) (n : Int) : (zn (wayOf h (buckets n))).length ≤ 1048576 := by
  rw [zn_length]
  unfold wayOf
  split
  · have := way_length (buckets n) (buckets n) h 0; omega
  · simp
theorem rankOf_len (h : Nat) (ws : List Int) : (rankOf h ws).length ≤ 65536 := by
  unfold rankOf
  split
  · rw [List.length_map, sorted_length]; have := rat_length h ws ws.length; omega
  · simp
end Go.Proofs.Ytiafnfjgmfnnoab
