/- DiskOwn: rows of bytes that are written over and appended to. -/
import Derived.Test.YtfaoblnghkiibaaQKnowW
import Derived.Maps.AppendAt
namespace Go.Proofs.Ytfaoblnghkiibaa
open Go.RowKit

theorem write_no {w : World} {b : Nat} {F : List Nat} {d : Dm} (h : Dk w b F d) {x : Int} {v : Value} {l : List Nat} (hv : Sees w v l) (hz : wE d x l.length ≠ 0) :
    Calls Try.prog 19 #[.pointer (some ⟨b, 0, none⟩), .int .i64 x, v] w fun e w' => e = .returned (.int .i64 (wE d x l.length : Nat)) ∧ w' = w := by
  unfold wE at hz ⊢
  by_cases h1 : rE d x ≠ 0
  · rw [if_pos h1]; exact write_no1 h h1 v
  · rw [if_neg h1] at hz ⊢
    by_cases h2 : l.length ≠ 64
    · rw [if_pos h2]; exact write_no2 h (by omega) hv h2
    · rw [if_neg h2] at hz; exact absurd rfl hz

/-- a disk at a world, reached from w1 -/
structure Stand (w1 : World) (b : Nat) (F : List Nat) (d : Dm) (w : World) : Prop where
  dk : Dk w b F d
  nx : Nx [] w1 F w
theorem Stand.quiet {w1 w w' : World} {b : Nat} {F : List Nat} {d : Dm} (h : Stand w1 b F d w) (hk : Kept [] w w') : Stand w1 b F d w' := ⟨h.dk.keep hk (by simp), h.nx.quiet hk⟩
theorem Stand.away {w1 w : World} {b : Nat} {F : List Nat} {d : Dm} (h : Stand w1 b F d w) {q : Nat} (hq : q < w1.heap.size) : q ∉ F := fun hm => by
  rcases h.nx.sub q hm with h1 | h1
  · cases h1
  · omega
theorem Stand.new {w1 w : World} {b : Nat} {F : List Nat} {d : Dm} (h : Stand w1 b F d w) {q : Nat} (hq : w.heap.size ≤ q) : q ∉ F := fun hm => by
  have := h.dk.lt q hm; omega
theorem sees_image {w : World} {base r cap n : Nat} {s : List Nat} (ho : w.ownsRow base 5 1 (.slice (some ⟨r, 0, none⟩) n cap) n (u8s s)) (hb : ∀ x ∈ s, x < 256) : Sees w (.slice (some ⟨r, 0, none⟩) n cap) s := by
  have hl := own_len_eq ho
  subst hl
  exact Sees.of_own ho hb

theorem sees_sub {w : World} {base r cap n j : Nat} {s : List Nat} (ho : w.ownsRow base 5 1 (.slice (some ⟨r, 0, none⟩) (64 * n) cap) (64 * n) (u8s s)) (hb : ∀ x ∈ s, x < 256) (hj : j < n) :
    Sees w (.slice (some ⟨r, 64 * j, none⟩) 64 (cap - 64 * j)) (sect s j) := by
  have hl := own_len_eq ho
  have hsl := sect_len hl hj
  obtain ⟨g, c, hv, -, h1, h2, h3⟩ := row_of_own ho (by omega)
  injection hv with e1 e2 e3
  injection e1 with e1
  injection e1 with e1
  subst e1
  subst e3
  refine ⟨_, _, by rw [hsl], by rw [hsl]; omega, by unfold maxLen at h3 ⊢; omega, sect_bytes hb, Or.inr ⟨r, 64 * j, rfl, h1, fun i hi => ?_⟩⟩
  rw [hsl] at hi
  rw [own_cell ho (show 64 * j + i < s.length by omega)]
  have h64 : 64 * j + i < s.length := by omega
  simp [sect, hi, List.getElem?_drop, List.getElem?_eq_getElem h64]


theorem add_zero_mid (g k : Nat) : (⟨g, 0, none⟩ : Addr).add k = ⟨g, k, none⟩ := by unfold Addr.add; split <;> simp_all
/-- a row of bytes: of the call's own, or a whole block without room -/
def RowU (w : World) (g c n : Nat) (l : List Nat) : Prop :=
  w.ownsRow 0 5 1 (.slice (some ⟨g, 0, none⟩) n c) n (u8s l) ∨ (c = n ∧ l.length = n ∧ n ≤ 9223372036854775807 ∧ Blk w g (u8s l).toArray 70)
theorem RowU.kept {F : List Nat} {w w' : World} {g c n : Nat} {l : List Nat} (h : RowU w g c n l) (hk : Kept F w w') (hn : g ∉ F) : RowU w' g c n l := by
  rcases h with h | ⟨h1, h2, h3, h4⟩
  · exact Or.inl (own_kept h hk (by intro k e; cases e; exact hn))
  · exact Or.inr ⟨h1, h2, h3, h4.kept hk hn⟩
theorem RowU.alloc {w : World} {g c n : Nat} {l : List Nat} (h : RowU w g c n l) (o : Obj) : RowU (w.alloc o) g c n l := h.kept ((Kept.refl [] w).alloc o) (by simp)
theorem RowU.len {w : World} {g c n : Nat} {l : List Nat} (h : RowU w g c n l) : l.length = n := by
  rcases h with h | ⟨h1, h2, h3, h4⟩
  · exact own_len_eq h
  · exact h2
theorem RowU.lt {w : World} {g c n : Nat} {l : List Nat} (h : RowU w g c n l) : g < w.heap.size := by
  rcases h with h | ⟨h1, h2, h3, h4⟩
  · exact (own_lt h rfl).2
  · exact h4.lt
theorem RowU.cap {w : World} {g c n : Nat} {l : List Nat} (h : RowU w g c n l) : n ≤ c ∧ c ≤ 9223372036854775807 := by
  rcases h with h | ⟨h1, h2, h3, h4⟩
  · rcases h.2 with ⟨h1, _⟩ | ⟨g', cap', cur, hv, hb, hg, hc, hm, _⟩
    · cases h1
    · cases hv; unfold maxLen at hm; exact ⟨hc, by omega⟩
  · omega
theorem RowU.at {w : World} {g c n : Nat} {l : List Nat} (h : RowU w g c n l) {k : Nat} (hk : k < n) : w.cell? ⟨g, k, none⟩ = some (.int .u8 (l.getD k 0 : Nat)) := by
  have hl := h.len
  rcases h with h | ⟨h1, h2, h3, h4⟩
  · exact own_cell h (by omega)
  · rw [h4.cell]; simpa using u8s_at l (j := k) (by omega)
theorem RowU.frozen {w : World} {g c n : Nat} {l : List Nat} (h : RowU w g c n l) (k : Nat) : w.frozen? ⟨g, k, none⟩ = false := by
  rcases h with h | ⟨h1, h2, h3, h4⟩
  · exact own_frozen h k
  · exact h4.frozen k
theorem RowU.set {w : World} {g c n : Nat} {l : List Nat} (h : RowU w g c n l) (k y : Nat) : RowU (w.setCell ⟨g, k, none⟩ (.int .u8 (y : Int))) g c n (l.set k y) := by
  rcases h with h | ⟨h1, h2, h3, h4⟩
  · exact Or.inl (own_set h k y)
  · refine Or.inr ⟨h1, by rw [List.length_set]; exact h2, h3, ?_⟩
    have := h4.set k (.int .u8 (y : Int))
    rw [u8s_set]
    simpa using this
theorem RowU.sees {w : World} {g c n : Nat} {l : List Nat} (h : RowU w g c n l) (hb : ∀ x ∈ l, x < 256) : Sees w (.slice (some ⟨g, 0, none⟩) n c) l := by
  have e := h.len
  have hc := h.cap
  subst e
  refine ⟨_, c, rfl, hc.1, by unfold maxLen; omega, hb, Or.inr ⟨g, 0, rfl, h.lt, fun j hj => ?_⟩⟩
  rw [Nat.zero_add]; exact h.at hj

theorem run_append_rowU {P : Program} (w : World) (t ty : TypeId) (i : TypeInfo) (z : Value) (ht : P.underlying t = some (.slice 5)) (hi : P.info? 5 = some i) (hz : i.zero = some z)
    (hsize : i.size = 1) (hby : i.bytes = 1) (hzs : z.cells.size = 1) {g c n : Nat} {l : List Nat} (h : RowU w g c n l) (a : Addr) (y : Nat) (hnews : ∀ j u, [Value.int .u8 (y : Int)][j]? = some u → w.cell? (a.add j) = some u)
    (h63 : n + 1 ≤ 140737488351232) :
    ∃ g' c' w', (Builtin.append_ #[t, t] ty #[.slice (some ⟨g, 0, none⟩) n c, .slice (some a) 1 1]).run P w = .ok (.slice (some ⟨g', 0, none⟩) (n + 1) c') w' ∧ RowU w' g' c' (n + 1) (l ++ [y]) ∧ w.grownBy w' (some g) ∧ (g' = g ∨ g' = w.heap.size) ∧
      (∀ k, k < n → w'.cell? ⟨g, k, none⟩ = w.cell? ⟨g, k, none⟩) := by
  have hx1 : ∀ u ∈ [Value.int .u8 (y : Int)], u.oneCell' = true := by intro u hu; simp at hu; rw [hu]; rfl
  have hl := h.len
  have hat := fun k (hk : k < n) => h.at hk
  have hgl := h.lt
  have happ : u8s (l ++ [y]) = u8s l ++ [Value.int .u8 (y : Int)] := by rw [u8s_append]; rfl
  have hfull : c < n + 1 → ∃ g' c' w', (Builtin.append_ #[t, t] ty #[.slice (some ⟨g, 0, none⟩) n c, .slice (some a) 1 1]).run P w = .ok (.slice (some ⟨g', 0, none⟩) (n + 1) c') w' ∧ RowU w' g' c' (n + 1) (l ++ [y]) ∧ w.grownBy w' (some g) ∧ (g' = g ∨ g' = w.heap.size) ∧
      (∀ k, k < n → w'.cell? ⟨g, k, none⟩ = w.cell? ⟨g, k, none⟩) := by
    intro hc
    have holds : ∀ j u, (u8s l)[j]? = some u → w.cell? ((⟨g, 0, none⟩ : Addr).add j) = some u := by
      intro j u hu
      have hj : j < l.length := by have := (List.getElem?_eq_some_iff.1 hu).1; rwa [u8s_length] at this
      rw [add_zero_mid, hat j (by omega)]
      rw [u8s_at l hj] at hu
      exact hu
    have hlo : (u8s l).length = n * i.size := by rw [u8s_length, hl, hsize]; omega
    have hr := run_append_grow (P := P) w t ty 5 i z ht hi hz ⟨g, 0, none⟩ n c (u8s l) hlo holds a 1 1 [Value.int .u8 (y : Int)] (by rw [hsize]; rfl) hnews hc (by omega) (growslice_fits hc (by rw [hby]; omega))
    have hge := grownCap_ge w (n + 1) c 5
    have hcm : grownCap w (n + 1) c 5 ≤ maxLen := grownCap_le_maxLen w (n + 1) c 5 (by unfold maxLen; omega)
    refine ⟨_, _, _, hr, Or.inl ⟨by rw [happ, List.length_append, u8s_length, hl]; simp, .inr ⟨w.heap.size, _, _, rfl, Nat.zero_le _, heap_alloc_new w.drew _, hge, hcm, ?_, ?_⟩⟩, ⟨rfl, rfl, rfl, by simp, fun k hk _ => heap_alloc_old w.drew _ hk⟩, Or.inr rfl, fun k hk => World.cell?_of_block (w := w) (heap_alloc_old w.drew _ hgl)⟩
    · simp only [Array.size_append, List.size_toArray, size_zeroCells, hzs, u8s_length, hl, List.length_singleton]
      omega
    · rw [happ]
      simp only [Array.toList_append, List.append_assoc]
      rw [← List.append_assoc]
      have : (n + 1) * 1 = (u8s l ++ [Value.int .u8 (y : Int)]).length := by rw [List.length_append, u8s_length, hl]; simp
      rw [this]
      exact List.take_left
  rcases h with h | ⟨h1, h2, h3, h4⟩
  · by_cases hroom : n + 1 ≤ c
    · obtain ⟨v', w', hr, q2, q3, _, _⟩ := run_append_own_at (P := P) w 0 t ty 5 i z 1 1 ht hi hz hsize hby hzs (by decide) _ n (u8s l) h a 1 1 [Value.int .u8 (y : Int)] rfl hnews hx1 (by unfold maxLen; omega) (by omega) (Nat.zero_le _)
      rcases h.2 with ⟨e, _⟩ | ⟨g2, cap, cur, hv, hbg, hg, hnc, hcm, hcs, htake⟩
      · cases e
      · cases hv
        have hfit : n * i.size + [Value.int .u8 (y : Int)].length ≤ cur.size := by rw [hsize, hcs]; simp; omega
        have hr2 := run_append_room (P := P) w t ty 5 i ht hi g n c cur hg a 1 1 [Value.int .u8 (y : Int)] (by rw [hsize]; rfl) hnews hx1 hroom hfit
        rw [hr] at hr2
        injection hr2 with e1 e2
        subst e1
        refine ⟨g, c, w', hr, Or.inl (by rw [happ]; exact q2), q3, Or.inl rfl, fun k hk => ?_⟩
        rw [hat k hk]
        have := own_cell (bs := l ++ [y]) (by rw [happ]; exact q2) (k := k) (by simp; omega)
        rw [this, List.getD, List.getD, List.getElem?_append_left (by omega)]
    · exact hfull (by omega)
  · exact hfull (by omega)
theorem wpList_append_rowU {P : Program} (w : World) {ops : Array Oper} {rest : List Oper} {o : Oper} {a : Act} {Q : Exit → Act → World → Prop} (hgd : o.guard = none) (s x : Operand) (t : TypeId)
    (ho : o.op = .call { callee := .builtin .append, args := #[s, x], argTypes := #[t, t] })
    (i : TypeInfo) (z : Value) (ht : P.underlying t = some (.slice 5)) (hi : P.info? 5 = some i) (hz : i.zero = some z)
    (hsize : i.size = 1) (hby : i.bytes = 1) (hzs : z.cells.size = 1)
    (g c n : Nat) (l : List Nat) (hs : a.eval s = .slice (some ⟨g, 0, none⟩) n c) (hown : RowU w g c n l) (ad : Addr) (y : Nat) (hxv : a.eval x = .slice (some ad) 1 1) (hnews : ∀ j u, [Value.int .u8 (y : Int)][j]? = some u → w.cell? (ad.add j) = some u)
    (h63 : n + 1 ≤ 140737488351232)
    (h : ∀ g' c' w', RowU w' g' c' (n + 1) (l ++ [y]) → w.grownBy w' (some g) → (g' = g ∨ g' = w.heap.size) → (∀ k, k < n → w'.cell? ⟨g, k, none⟩ = w.cell? ⟨g, k, none⟩) → wpList P ops Q rest (a.put o.dst (.slice (some ⟨g', 0, none⟩) (n + 1) c')) w') :
    wpList P ops Q (o :: rest) a w := by
  refine wpList_plain hgd fun K hK => ?_
  obtain ⟨g', c', w', hr, h2, h3, h4, h5⟩ := run_append_rowU (P := P) w t o.type i z ht hi hz hsize hby hzs hown ad y hnews h63
  unfold Oper.wp execOp
  simp only [ho, resolve, invoke, builtin, Sem.run_bind, Sem.run_pure, Result.andThen_ok, List.map_toArray, List.map_cons, List.map_nil, hs, hxv, hr]
  exact hK _ _ (h g' c' w' h2 h3 h4 h5)

/-- the bytes that are written, and those that are appended -/
def wX (i k : Nat) : Nat := (50 * i + k) % 256
def wY (i k : Nat) : Nat := (100 + i + 5 * k) % 256
theorem wrapX (i k : Nat) : IntKind.u8.wrap (50 * (i : Int) + (k : Int)) = ((wX i k : Nat) : Int) := by
  unfold wX; rw [IntKind.wrap_u8]; omega
theorem wrapY (i k : Nat) : IntKind.u8.wrap (100 + (i : Int) + 5 * (k : Int)) = ((wY i k : Nat) : Int) := by
  unfold wY; rw [IntKind.wrap_u8]; omega
def lX (i n : Nat) : List Nat := (List.range n).map (wX i)
def lY (i j : Nat) : List Nat := (List.range j).map (wY i)
theorem map_len (f : Nat → Nat) (n : Nat) : ((List.range n).map f).length = n := by simp
theorem map_at (f : Nat → Nat) {n k : Nat} (h : k < n) : ((List.range n).map f).getD k 0 = f k := by simp [List.getD, h]
theorem map_more (f : Nat → Nat) (n : Nat) : (List.range (n + 1)).map f = (List.range n).map f ++ [f n] := by simp [List.range_succ]
theorem map_is (f : Nat → Nat) {n : Nat} {l : List Nat} (hl : l.length = n) (h : ∀ k, k < n → l.getD k 0 = f k) : l = (List.range n).map f := by
  apply List.ext_getElem?
  intro j
  by_cases hj : j < n
  · have h1 := h j hj
    rw [List.getD, List.getElem?_eq_getElem (by omega)] at h1
    rw [List.getElem?_eq_getElem (by omega)]
    simp only [Option.getD_some] at h1
    rw [h1]
    simp [hj]
  · rw [List.getElem?_eq_none (by omega), List.getElem?_eq_none (by rw [map_len]; omega)]
theorem lX_len (i n : Nat) : (lX i n).length = n := map_len _ _
theorem lY_len (i n : Nat) : (lY i n).length = n := map_len _ _
theorem lX_at (i : Nat) {n k : Nat} (h : k < n) : (lX i n).getD k 0 = wX i k := map_at _ h
theorem lY_at (i : Nat) {n k : Nat} (h : k < n) : (lY i n).getD k 0 = wY i k := map_at _ h
theorem lY_more (i j : Nat) : lY i (j + 1) = lY i j ++ [wY i j] := map_more _ _
theorem all_is {i n : Nat} {l : List Nat} (hl : l.length = n) (h : ∀ k, k < n → l.getD k 0 = wX i k) : l = lX i n := map_is _ hl h

/-- the five rows while they are written over: those ahead of i are done, of i the first k -/
def Done (w : World) (G C N : Nat → Nat) (i k : Nat) : Prop := ∀ r, r < 5 → ∃ l, RowU w (G r) (C r) (N r) l ∧ (r < i → ∀ j, j < N r → l.getD j 0 = wX r j) ∧ (r = i → ∀ j, j < k → l.getD j 0 = wX r j)
def Sep (G : Nat → Nat) : Prop := ∀ r s, r < 5 → s < 5 → r ≠ s → G r ≠ G s
theorem getD_set (l : List Nat) (i x j : Nat) (h : i < l.length) : (l.set i x).getD j 0 = if i = j then x else l.getD j 0 := by
  simp only [List.getD, List.getElem?_set]
  by_cases e : i = j
  · simp [e]; rw [if_pos (by omega)]; rfl
  · simp [e]
theorem getD_app (l r : List Nat) (j : Nat) : (l ++ r).getD j 0 = if j < l.length then l.getD j 0 else r.getD (j - l.length) 0 := by
  simp only [List.getD, List.getElem?_append]
  split <;> rfl
theorem Done.next {w : World} {G C N : Nat → Nat} {i k : Nat} (h : Done w G C N i k) (hk : k = N i) : Done w G C N (i + 1) 0 := by
  intro r hr
  obtain ⟨l, h1, h2, h3⟩ := h r hr
  refine ⟨l, h1, fun hi j hj => ?_, fun _ j hj => by omega⟩
  by_cases e : r = i
  · subst e
    exact h3 rfl j (by omega)
  · exact h2 (by omega) j hj
theorem Done.put {w : World} {G C N : Nat → Nat} {i k : Nat} (h : Done w G C N i k) (hs : Sep G) (hi : i < 5) (hk : k < N i) : Done (w.setCell ⟨G i, k, none⟩ (.int .u8 (wX i k : Nat))) G C N i (k + 1) := by
  have hK : Kept [G i] w (w.setCell ⟨G i, k, none⟩ (.int .u8 (wX i k : Nat))) := (Kept.refl _ _).setCell (p := ⟨G i, k, none⟩) (Or.inl (by simp)) _
  intro r hr
  obtain ⟨l, h1, h2, h3⟩ := h r hr
  by_cases e : r = i
  · subst e
    refine ⟨l.set k (wX r k), h1.set k _, fun hx => by omega, fun _ j hj => ?_⟩
    have hl := h1.len
    rw [getD_set _ _ _ _ (by omega)]
    split
    · rename_i e; rw [e]
    · exact h3 rfl j (by omega)
  · exact ⟨l, h1.kept hK (by simp; exact hs r i hr hi e), h2, fun x => absurd x e⟩

/-- a row onto which j were appended -/
structure Gr (B : Nat) (w : World) (G N : Nat → Nat) (i j g c : Nat) : Prop where
  own : RowU w g c (N i + j) (lX i (N i) ++ lY i j)
  blk : g = G i ∨ B ≤ g
/-- what stands behind the rows that were appended to: the old rows read as they did, those from i on are whole -/
structure Mid (B : Nat) (W0 w : World) (G C N : Nat → Nat) (i : Nat) : Prop where
  old : ∀ r, r < 5 → ∀ k, k < N r → w.cell? ⟨G r, k, none⟩ = some (.int .u8 (wX r k : Nat))
  un : ∀ r, r < 5 → i ≤ r → RowU w (G r) (C r) (N r) (lX r (N r))
  low : ∀ r, r < 5 → G r < B
  up : B ≤ w.heap.size
  kept : Kept [G 0, G 1, G 2, G 3, G 4] W0 w
theorem in_five {G : Nat → Nat} {r : Nat} (hr : r < 5) : G r ∈ [G 0, G 1, G 2, G 3, G 4] := by
  match r, hr with
  | 0, _ => simp
  | 1, _ => simp
  | 2, _ => simp
  | 3, _ => simp
  | 4, _ => simp
/-- an append to row i -/
theorem mid_grow {B : Nat} {W0 w w' : World} {G C N : Nat → Nat} {i j g c g' c' : Nat} {o : Obj} (hs : Sep G) (hi : i < 5) (hB : W0.heap.size = B) (h : Mid B W0 w G C N (i + 1)) (hg : Gr B w G N i j g c)
    (h1 : RowU w' g' c' (N i + j + 1) (lX i (N i) ++ lY i j ++ [wY i j])) (h2 : (w.alloc o).grownBy w' (some g)) (h3 : g' = g ∨ g' = w.heap.size + 1)
    (h4 : ∀ k, k < N i + j → w'.cell? ⟨g, k, none⟩ = (w.alloc o).cell? ⟨g, k, none⟩) : Mid B W0 w' G C N (i + 1) ∧ Gr B w' G N i (j + 1) g' c' ∧ Kept [g] w w' := by
  have hup := h.up
  have hk : Kept [g] w w' := ((Kept.refl _ w).alloc o).grown h2 (fun k e => Or.inl (by cases e; simp))
  refine ⟨⟨?_, ?_, h.low, Nat.le_trans h.up hk.size, ?_⟩, ⟨?_, ?_⟩, hk⟩
  · intro r hr k hk'
    have hlow := h.low r hr
    by_cases e : g = G r
    · have hri : r = i := by
        by_cases hne : r = i
        · exact hne
        · exfalso
          rcases hg.blk with e2 | e2
          · exact hs r i hr hi hne (by omega)
          · omega
      subst hri
      have h5 := h4 k (by omega)
      rw [e] at h5
      rw [h5, World.cell?_of_block (w := w) (heap_alloc_old w o (show G r < w.heap.size by omega))]
      exact h.old r hr k hk'
    · rw [hk.cell (p := ⟨G r, k, none⟩) (by show G r < _; omega) (fun hm => e (by simp at hm; exact hm.symm))]
      exact h.old r hr k hk'
  · intro r hr hir
    refine (h.un r hr hir).kept hk (fun hm => ?_)
    have hm' : G r = g := by simpa using hm
    have hlow := h.low r hr
    rcases hg.blk with e | e
    · exact hs r i hr hi (by omega) (by omega)
    · omega
  · refine h.kept.trans hk (fun x hx => ?_)
    have hx' : x = g := by simpa using hx
    subst hx'
    rcases hg.blk with e | e
    · exact Or.inl (by rw [e]; exact in_five hi)
    · exact Or.inr (by omega)
  · rw [lY_more, ← List.append_assoc]
    exact h1
  · rcases h3 with h3 | h3
    · rw [h3]; exact hg.blk
    · right; omega
theorem Mid.grown {B : Nat} {W0 w w' : World} {G C N : Nat → Nat} {i : Nat} {F : List Nat} (h : Mid B W0 w G C N i) (hB : W0.heap.size = B) (hk : Kept F w w') (hF : ∀ x, x ∈ F → B ≤ x) : Mid B W0 w' G C N i := by
  have hup := h.up
  refine ⟨fun r hr k hk' => ?_, fun r hr hir => (h.un r hr hir).kept hk (fun hm => ?_), h.low, Nat.le_trans h.up hk.size, h.kept.trans hk (fun x hx => Or.inr (by rw [hB]; exact hF x hx))⟩
  · have hlow := h.low r hr
    rw [hk.cell (p := ⟨G r, k, none⟩) (by show G r < _; omega) (fun hm => by have := hF _ hm; simp only at this; omega)]
    exact h.old r hr k hk'
  · have := hF _ hm
    have hlow := h.low r hr
    omega
/-- the rows appended to so far: their blocks and rooms; apart from each other -/
structure Vs (B : Nat) (w : World) (G N : Nat → Nat) (ps : List (Nat × Nat)) : Prop where
  gr : ∀ (r : Nat) (p : Nat × Nat), ps[r]? = some p → Gr B w G N r 70 p.1 p.2
  ap : ∀ (r s : Nat) (p q : Nat × Nat), ps[r]? = some p → ps[s]? = some q → r ≠ s → p.1 ≠ q.1
def Beside (ps : List (Nat × Nat)) (g : Nat) : Prop := ∀ (r : Nat) (p : Nat × Nat), ps[r]? = some p → p.1 ≠ g
theorem Vs.kept {B : Nat} {w w' : World} {G N : Nat → Nat} {ps : List (Nat × Nat)} {F : List Nat} (h : Vs B w G N ps) (hk : Kept F w w') (hf : ∀ (r : Nat) (p : Nat × Nat), ps[r]? = some p → p.1 ∉ F) : Vs B w' G N ps :=
  ⟨fun r p hp => ⟨(h.gr r p hp).own.kept hk (hf r p hp), (h.gr r p hp).blk⟩, h.ap⟩
theorem Beside.next {B : Nat} {w : World} {G N : Nat → Nat} {ps : List (Nat × Nat)} {g g' : Nat} (h : Beside ps g) (hv : Vs B w G N ps) (h3 : g' = g ∨ g' = w.heap.size + 1) : Beside ps g' := by
  intro r p hp
  rcases h3 with h3 | h3
  · rw [h3]; exact h r p hp
  · have := (hv.gr r p hp).own.lt
    omega
theorem Vs.push {B : Nat} {w : World} {G N : Nat → Nat} {ps : List (Nat × Nat)} {g c : Nat} (h : Vs B w G N ps) (hg : Gr B w G N ps.length 70 g c) (hb : Beside ps g) : Vs B w G N (ps ++ [(g, c)]) := by
  constructor
  · intro r u hu
    rw [List.getElem?_append] at hu
    split at hu
    · exact h.gr r u hu
    · simp only [List.getElem?_singleton] at hu
      split at hu
      · cases hu
        have : r = ps.length := by omega
        rw [this]; exact hg
      · cases hu
  · intro r s u u' hu hu' hrs
    rw [List.getElem?_append] at hu hu'
    split at hu
    · split at hu'
      · exact h.ap r s u u' hu hu' hrs
      · simp only [List.getElem?_singleton] at hu'
        split at hu'
        · cases hu'
          exact hb r u hu
        · cases hu'
    · simp only [List.getElem?_singleton] at hu
      split at hu
      · cases hu
        split at hu'
        · exact (hb s u' hu').symm
        · simp only [List.getElem?_singleton] at hu'
          split at hu'
          · omega
          · cases hu'
      · cases hu
theorem beside_old {B : Nat} {w : World} {G N : Nat → Nat} {ps : List (Nat × Nat)} (h : Vs B w G N ps) (hs : Sep G) (hl : ps.length < 5) (hlow : ∀ r, r < 5 → G r < B) : Beside ps (G ps.length) := by
  intro r u hu e
  have hr : r < ps.length := (List.getElem?_eq_some_iff.1 hu).1
  have := hlow ps.length hl
  rcases (h.gr r u hu).blk with h1 | h1
  · exact hs r ps.length (by omega) hl (by omega) (by omega)
  · omega
/-- slices as cells -/
def sls (N : Nat → Nat) : Nat → List (Nat × Nat) → List Value
  | _, [] => []
  | i, p :: ps => .slice (some ⟨p.1, 0, none⟩) (N i + 70) p.2 :: sls N (i + 1) ps
theorem sls_len (N : Nat → Nat) (ps : List (Nat × Nat)) : ∀ i, (sls N i ps).length = ps.length := by
  induction ps with
  | nil => intro i; rfl
  | cons p ps ih => intro i; simp [sls, ih]
theorem sls_app (N : Nat → Nat) (ps : List (Nat × Nat)) (q : Nat × Nat) : ∀ i, sls N i (ps ++ [q]) = sls N i ps ++ [.slice (some ⟨q.1, 0, none⟩) (N (i + ps.length) + 70) q.2] := by
  induction ps with
  | nil => intro i; rfl
  | cons p ps ih => intro i; simp [sls, ih, Nat.add_assoc, Nat.add_comm 1]
theorem sls_at (N : Nat → Nat) (ps : List (Nat × Nat)) : ∀ (i r : Nat) (p : Nat × Nat), ps[r]? = some p → (sls N i ps)[r]? = some (.slice (some ⟨p.1, 0, none⟩) (N (i + r) + 70) p.2) := by
  induction ps with
  | nil => intro i r p h; simp at h
  | cons q ps ih =>
    intro i r p h
    cases r with
    | zero => simp at h; subst h; rfl
    | succ r =>
      have := ih (i + 1) r p (by simpa using h)
      simp only [sls, List.getElem?_cons_succ]
      rw [this]
      simp [Nat.add_assoc, Nat.add_comm 1]
theorem row_types {w : World} {base : Nat} {v : Value} {n g c m : Nat} {xs : List Value} {l : List Nat} (h : w.ownsRow base 22 1 v n xs) (h' : RowU w g c m l) : v.ownBlock ≠ some g := by
  intro hk
  rcases h.2 with ⟨e1, e2⟩ | ⟨g2, cap, cur, e1, _, hh, _⟩
  · rw [e1] at hk; cases hk
  · rw [e1] at hk
    cases hk
    rcases h' with h' | ⟨_, _, _, h'⟩
    · rcases h'.2 with ⟨d1, d2⟩ | ⟨g', cap', cur', d1, _, hh', _⟩
      · cases d1
      · cases d1
        rw [hh] at hh'
        simp at hh'
    · unfold Blk at h'
      rw [hh] at h'
      simp at h'
theorem infoSb : (Try.prog.info? 22).map (fun i => (i.zero, i.size, i.bytes)) = some (some (.slice none 0 0), 1, 24) := by kernel_rfl
end Go.Proofs.Ytfaoblnghkiibaa
