/- ParcelWriterOwn: the walk. -/
import Derived.Test.YtiabhgkndejigabPWo
import Derived.Deep.DeepCutAuto
namespace Go.Proofs.Ytiabhgkndejigab
open Go.RowKit

/-- A row of the call's own: its bytes; it lies in a block from lo on, below hi. -/
structure Rw where
  v : Value
  l : List Nat
  lo : Nat
  hi : Nat
instance : Inhabited Rw := ⟨⟨.slice none 0 0, [], 0, 0⟩⟩
structure Rw.At (r : Rw) (w : World) : Prop where
  own : w.ownsRow r.lo 5 1 r.v r.l.length (u8s r.l)
  top : ∀ b, r.v.ownBlock = some b → b < r.hi
  in_ : r.hi ≤ w.heap.size
  room : r.l.length ≤ 3000000000
theorem Rw.At.kept {r : Rw} {F : List Nat} {w w' : World} (h : r.At w) (hk : Kept F w w') (hn : ∀ b, r.v.ownBlock = some b → b ∉ F) : r.At w' :=
  ⟨own_kept h.own hk hn, h.top, Nat.le_trans h.in_ hk.size, h.room⟩
theorem Rw.At.low {r : Rw} {w : World} (h : r.At w) {b : Nat} (hb : r.v.ownBlock = some b) : r.lo ≤ b ∧ b < r.hi := ⟨(h.own.lt b hb).1, h.top b hb⟩
theorem Rw.At.sees {r : Rw} {w : World} (h : r.At w) : Sees w r.v r.l := Sees.of_own h.own

/-- Rows that were made one behind the other, the last one first. -/
structure Led (w : World) (rows : List Rw) : Prop where
  at_ : ∀ r ∈ rows, r.At w
  pw : rows.Pairwise fun r s => s.hi ≤ r.lo
theorem Led.kept {w w' : World} {rows : List Rw} (h : Led w rows) (k : Kept [] w w') : Led w' rows := ⟨fun r hr => (h.at_ r hr).kept k (by simp), h.pw⟩
theorem Led.push {w w' : World} {rows : List Rw} (h : Led w rows) (k : Kept [] w w') {v : Value} {l : List Nat} (ho : w'.ownsRow w.heap.size 5 1 v l.length (u8s l)) (hl : l.length ≤ 3000000000) : Led w' (⟨v, l, w.heap.size, w'.heap.size⟩ :: rows) := by
  refine ⟨fun r hr => ?_, List.pairwise_cons.2 ⟨fun s hs => (h.at_ s hs).in_, h.pw⟩⟩
  rcases List.mem_cons.1 hr with rfl | hr
  · exact ⟨ho, fun b hb => (ho.lt b hb).2, Nat.le_refl _, hl⟩
  · exact (h.at_ r hr).kept k (by simp)
/-- The row that was made first is written over. -/
theorem Led.turn {w w' : World} {rows : List Rw} {r r' : Rw} {g : Nat} (h : Led w (rows ++ [r])) (hg : r.v.ownBlock = some g) (k : Kept [g] w w') (hv : r'.v = r.v) (hlo : r'.lo = r.lo) (hhi : r'.hi = r.hi) (ho : w'.ownsRow r'.lo 5 1 r'.v r'.l.length (u8s r'.l)) (hl : r'.l.length ≤ 3000000000) : Led w' (rows ++ [r']) := by
  have hr := h.at_ r (by simp)
  have hgl := hr.low hg
  have hpw := List.pairwise_append.1 h.pw
  refine ⟨fun s hs => ?_, List.pairwise_append.2 ⟨hpw.1, by simp, fun s hs t ht => ?_⟩⟩
  · rcases List.mem_append.1 hs with hs | hs
    · refine (h.at_ s (by simp [hs])).kept k (fun b hb hm => ?_)
      simp at hm; subst hm
      have h1 := (h.at_ s (by simp [hs])).low hb
      have h2 := hpw.2.2 s hs r (by simp)
      omega
    · simp at hs; subst hs
      exact ⟨ho, fun b hb => by rw [hhi]; exact hr.top b (by rw [← hv]; exact hb), by rw [hhi]; exact Nat.le_trans hr.in_ k.size, hl⟩
  · simp at ht; subst ht
    rw [hhi]; exact hpw.2.2 s hs r (by simp)

theorem u8s_b8s (l : List Nat) : u8s l = b8s (l.map fun x : Nat => (x : Int)) := by simp [u8s, b8s]
theorem own_lower {w : World} {base base2 : Nat} {e : TypeId} {s : Nat} {v : Value} {n : Nat} {xs : List Value} (h : w.ownsRow base e s v n xs) (hb : base2 ≤ base) : w.ownsRow base2 e s v n xs := by
  refine ⟨h.1, ?_⟩
  rcases h.2 with h2 | ⟨g, cap, cur, hv, hg, r⟩
  · exact Or.inl h2
  · exact Or.inr ⟨g, cap, cur, hv, by omega, r⟩

/-- apart, over m rows of a ledger, each of another place: pi tells which. -/
theorem apart_led {w : World} {rows : List Rw} (h : Led w rows) (m : Nat) (hm : m ≤ 4194304) (pi : Nat → Nat) (hpi : ∀ i, i < m → pi i < rows.length) (hinj : ∀ i j, i < m → j < m → i ≠ j → pi i ≠ pi j) (cs : Array Value) (hcs : ∀ i, i < m → cs[i]? = some (rows.getD (pi i) default).v) (F : List Nat) (hF : ∀ i, i < m → ∀ b, (rows.getD (pi i) default).v.ownBlock = some b → b ∈ F) (hFl : ∀ x ∈ F, x < w.heap.size) :
    Calls Try.prog 35 #[.slice (some ⟨w.heap.size, 0, none⟩) m m] (w.alloc (.cells cs 22)) fun e w' => e = .returned (.bool true) ∧ Kept F (w.alloc (.cells cs 22)) w' := by
  have hg : ∀ i, i < m → rows.getD (pi i) default ∈ rows := fun i hi => by rw [List.getD, List.getElem?_eq_getElem (hpi i hi)]; exact List.getElem_mem _
  have hkA : Kept [] w (w.alloc (.cells cs 22)) := (Kept.refl [] w).alloc _
  refine apart_any (V := fun i => (rows.getD (pi i) default).v) (N := fun i => (rows.getD (pi i) default).l.length) (base := 0) ⟨hm, by simp, ?_, ?_, ?_, hF, ?_, ?_⟩ (by omega) (fun i => (rows.getD (pi i) default).l.map fun x : Nat => (x : Int)) ?_
  · intro i hi
    rw [(Blk.new w cs 22).cell]
    exact hcs i hi
  · intro i hi; have := (h.at_ _ (hg i hi)).room; omega
  · intro i j hi hj hij b h1 h2
    have a1 := (h.at_ _ (hg i hi)).low h1
    have a2 := (h.at_ _ (hg j hj)).low h2
    have e : ∀ k (hk : k < rows.length), rows.getD k default = rows[k] := fun k hk => by rw [List.getD, List.getElem?_eq_getElem hk]; rfl
    rw [e _ (hpi i hi)] at a1
    rw [e _ (hpi j hj)] at a2
    rcases Nat.lt_or_gt_of_ne (hinj i j hi hj hij) with h3 | h3
    · have := List.pairwise_iff_getElem.1 h.pw (pi i) (pi j) (hpi i hi) (hpi j hj) h3; omega
    · have := List.pairwise_iff_getElem.1 h.pw (pi j) (pi i) (hpi j hj) (hpi i hi) h3; omega
  · intro hmem
    have := hFl _ hmem; omega
  · intro i hi b h1
    have a1 := (h.at_ _ (hg i hi)).low h1
    have a2 := (h.at_ _ (hg i hi)).in_
    simp
    omega
  · intro i hi
    rw [← u8s_b8s]
    exact own_lower (own_kept (h.at_ _ (hg i hi)).own hkA (by simp)) (by omega)

/-- 'append([]byte{}, x...)': a twin in new memory. -/
theorem wpList_twin8 {wx : World} {ops : Array Oper} {rest : List Oper} {o : Oper} {a : Act} {Q : Exit → Act → World → Prop} (hgd : o.guard = none) (s x : Operand)
    (ho : o.op = .call { callee := .builtin .append, args := #[s, x], argTypes := #[22, 22] })
    (hs : a.eval s = .slice (some ⟨wx.heap.size, 0, none⟩) 0 0) (xv : Value) (ys : List Nat) (hxv : a.eval x = xv) (hx : Sees wx xv ys) (L : Nat) (hL : ys.length = L) (hl : L ≤ 1000000000000)
    (h : ∀ a' c' w', w'.ownsRow wx.heap.size 5 1 (.slice a' L c') L (u8s ys) → Kept [] wx w' → wpList Try.prog ops Q rest (a.put o.dst (.slice a' L c')) w') :
    wpList Try.prog ops Q (o :: rest) a (wx.alloc (.cells #[] 5)) := by
  obtain ⟨i0, hi, hz0, hz1, hz2⟩ := info_parts Try.info5
  refine wpList_append_sees (wx.alloc (.cells #[] 5)) hgd s x 22 ho wx.heap.size 5 i0 (.int .u8 0) Try.underlying22 hi hz0 hz1 hz2 rfl _ [] hs (World.ownsRow_made wx #[] 0 (Nat.le_refl _) (Nat.zero_le _) rfl) xv ys hxv (sees_alloc _ hx) (by simp; omega) (by simp) ?_
  intro v' w' hown hg hat
  rw [List.nil_append, hL] at hown
  obtain ⟨a', c', hv⟩ := own_len hown
  subst hv
  exact h a' c' w' hown (((Kept.refl [] wx).alloc _).grown hg (fun k hk => by simp [Value.ownBlock] at hk; right; omega))

/-- A guarded append, its guard being met. -/
theorem wpList_append_met {w : World} {ops : Array Oper} {rest : List Oper} {o : Oper} {a : Act} {Q : Exit → Act → World → Prop} (hgd : Region.wanted o (yielded ops a.tmps) = true) (s x : Operand)
    (ho : o.op = .call { callee := .builtin .append, args := #[s, x], argTypes := #[22, 22] })
    (base : Nat) (v : Value) (xs : List Nat) (hs : a.eval s = v) (hown : w.ownsRow base 5 1 v xs.length (u8s xs)) (xv : Value) (ys : List Nat) (hxv : a.eval x = xv) (hx : Sees w xv ys)
    (h63 : xs.length + ys.length ≤ 140737488355328) (hbase : base ≤ w.heap.size)
    (h : ∀ v' w', w'.ownsRow base 5 1 v' (xs ++ ys).length (u8s (xs ++ ys)) → w.grownBy w' v.ownBlock → wpList Try.prog ops Q rest (a.put o.dst v') w') :
    wpList Try.prog ops Q (o :: rest) a w := by
  obtain ⟨i0, hi, hz0, hz1, hz2⟩ := info_parts Try.info5
  refine wpList_step fun K hK => ?_
  rw [if_pos hgd]
  obtain ⟨v', w', hr, h2, h3, h4⟩ := run_append_sees (P := Try.prog) w base 22 o.type 5 i0 (.int .u8 0) Try.underlying22 hi hz0 hz1 hz2 rfl v xs hown xv ys hx h63 hbase
  unfold Oper.wp execOp
  simp only [ho, resolve, invoke, builtin, Sem.run_bind, Sem.run_pure, Result.andThen_ok, List.map_toArray, List.map_cons, List.map_nil, hs, hxv, hr]
  exact hK _ _ (h v' w' h2 h3)

/-- The blocks of the rows that pi names. -/
def blocksOf (rows : List Rw) (m : Nat) (pi : Nat → Nat) : List Nat := (List.range m).filterMap fun i => (rows.getD (pi i) default).v.ownBlock
theorem blocksOf_mem {rows : List Rw} {m : Nat} {pi : Nat → Nat} {x : Nat} (h : x ∈ blocksOf rows m pi) : ∃ i, i < m ∧ (rows.getD (pi i) default).v.ownBlock = some x := by
  obtain ⟨i, h1, h2⟩ := List.mem_filterMap.1 h
  exact ⟨i, List.mem_range.1 h1, h2⟩
theorem Led.get {w : World} {rows : List Rw} (h : Led w rows) {k : Nat} (hk : k < rows.length) : (rows.getD k default).At w := by
  rw [List.getD, List.getElem?_eq_getElem hk]; exact h.at_ _ (List.getElem_mem _)
theorem Led.order {w : World} {rows : List Rw} (h : Led w rows) {i j : Nat} (hj : j < rows.length) (hij : i < j) : (rows.getD j default).hi ≤ (rows.getD i default).lo := by
  have e : ∀ k (hk : k < rows.length), rows.getD k default = rows[k] := fun k hk => by rw [List.getD, List.getElem?_eq_getElem hk]; rfl
  rw [e j hj, e i (by omega)]
  exact List.pairwise_iff_getElem.1 h.pw i j (by omega) hj hij
/-- A block within row j's bounds that is one of them is row j's. -/
theorem Led.only {w : World} {rows : List Rw} (h : Led w rows) {m : Nat} {pi : Nat → Nat} (hpi : ∀ i, i < m → pi i < rows.length) (j : Nat) (hj : j < rows.length) {x : Nat} (hlo : (rows.getD j default).lo ≤ x) (hhi : x < (rows.getD j default).hi) (hx : x ∈ blocksOf rows m pi) :
    ∃ i, i < m ∧ pi i = j ∧ (rows.getD j default).v.ownBlock = some x := by
  obtain ⟨i, hi, hb⟩ := blocksOf_mem hx
  have hl := (h.get (hpi i hi)).low hb
  rcases Nat.lt_trichotomy (pi i) j with h1 | h1 | h1
  · have := h.order hj h1; omega
  · exact ⟨i, hi, h1, by rw [← h1]; exact hb⟩
  · have := h.order (hpi i hi) h1; omega
theorem Led.above {w : World} {rows : List Rw} (h : Led w rows) {m : Nat} {pi : Nat → Nat} (hpi : ∀ i, i < m → pi i < rows.length) (j : Nat) (hj : j + 1 = rows.length) {base : Nat} (hlo : base ≤ (rows.getD j default).lo) (hhi : base ≤ (rows.getD j default).hi) {x : Nat} (hx : x ∈ blocksOf rows m pi) : base ≤ x := by
  obtain ⟨i, hi, hb⟩ := blocksOf_mem hx
  have hl := (h.get (hpi i hi)).low hb
  have := hpi i hi
  rcases Nat.lt_or_ge (pi i) j with h1 | h1
  · have := h.order (i := pi i) (j := j) (by omega) h1; omega
  · have h2 : pi i = j := by omega
    rw [h2] at hl; omega
theorem apart_blocks {w : World} {rows : List Rw} (h : Led w rows) (m : Nat) (hm : m ≤ 4194304) (pi : Nat → Nat) (hpi : ∀ i, i < m → pi i < rows.length) (hinj : ∀ i j, i < m → j < m → i ≠ j → pi i ≠ pi j) (cs : Array Value) (hcs : ∀ i, i < m → cs[i]? = some (rows.getD (pi i) default).v) :
    Calls Try.prog 35 #[.slice (some ⟨w.heap.size, 0, none⟩) m m] (w.alloc (.cells cs 22)) fun e w' => e = .returned (.bool true) ∧ Kept (blocksOf rows m pi) (w.alloc (.cells cs 22)) w' := by
  refine apart_led h m hm pi hpi hinj cs hcs _ (fun i hi b hb => List.mem_filterMap.2 ⟨i, List.mem_range.2 hi, hb⟩) (fun x hx => ?_)
  obtain ⟨i, hi, hb⟩ := blocksOf_mem hx
  have h1 := (h.get (hpi i hi)).low hb
  have h2 := (h.get (hpi i hi)).in_
  omega
theorem wbyte_inS {w : World} {b : Nat} {F : List Nat} {s : WS} (h : Ws w b F s) (n : Nat) (hn : n < 256) (hl : s.bs.length ≤ 1000000000000) :
    Calls Try.prog 26 #[.pointer (some ⟨b, 0, none⟩), .int .i64 n] w fun e w' => e = .returned (.tuple #[]) ∧ WsP w b F (wLay s [n]) w' := by
  obtain ⟨v, sv, h1, rfl⟩ := h
  refine (wbyte_in h1 n hn hl).mono ?_
  rintro e w' ⟨rfl, hp⟩
  exact ⟨rfl, WsP.of hp⟩

theorem turn_lt (P : List Nat) : ∀ x ∈ turn P, x < 256 := by
  intro x hx
  obtain ⟨y, _, rfl⟩ := List.mem_map.1 hx
  omega

set_option maxRecDepth 100000 in
set_option maxHeartbeats 4000000 in
theorem writerOwn_walk {w : World} {v0 v1 : Value} {P Q : List Nat} (h0 : Wide w v0 P) (hb0 : ∀ x ∈ P, x < 256) (hp0 : P.length ≤ 100000000) (h1 : Wide w v1 Q) (hp1 : Q.length ≤ 100000000) :
    Calls Try.prog 6 #[v0, v1] w fun e w' => e = .returned (.bool true) ∧ Kept [] w w' := by
  have HP0 := hide h0
  have HP1 := hide h1
  have HB0 := hide hb0
  have HTP := hide (twice_len P (by omega))
  have HTQ := hide (twice_len Q (by omega))
  have HTT := hide (twice_len (turn P) (by rw [turn_len]; omega))
  obtain ⟨pa, pc, rfl⟩ := wide_len h0
  obtain ⟨qa, qc, rfl⟩ := wide_len h1
  clear h0 h1 hb0
  obtain ⟨n, hn⟩ : ∃ n, n = P.length := ⟨_, rfl⟩
  rw [← hn] at HP0 hp0 ⊢
  have HN := hide hn
  clear hn
  go_enter Try.func6, Try.ntmps6
  go_wp2_with fail
  refine (awake_any _).mono ?_
  rintro e w1 ⟨rfl, hk1⟩
  have HK := hide hk1
  clear hk1
  go_wp2_with fail
  refine (lent_any (P := P) ((unhide HP0).kept (unhide HK)) (by have := unhide HN; omega)).mono ?_
  rintro e w2 ⟨g, gc, he, hgc, hgo, hk2⟩
  rw [← unhide HN] at he hgc hgo
  subst he
  have hgo' : w2.ownsRow w1.heap.size 5 1 (.slice (some ⟨g, 0, none⟩) P.length gc) P.length (u8s P) := by
    have h9 := own_take (k := n) hgo (by omega)
    have e9 : (u8s (P ++ [201, 77])).take n = u8s P := by rw [u8s_append, List.take_left' (by rw [u8s_length, ← unhide HN])]
    rw [e9] at h9
    rw [← unhide HN]; exact h9
  have hq : w2.cell? ⟨g, n, none⟩ = some (.int .u8 201) ∧ w2.cell? ⟨g, n + 1, none⟩ = some (.int .u8 77) := by
    rw [u8s_b8s] at hgo
    have e1 := ownI_cell hgo (k := n) (by rw [List.length_map, List.length_append, ← unhide HN]; simp)
    have e2 := ownI_cell hgo (k := n + 1) (by rw [List.length_map, List.length_append, ← unhide HN]; simp)
    have f1 : ((P ++ [201, 77]).map fun x : Nat => (x : Int)).getD n 0 = 201 := by
      rw [List.getD, List.getElem?_map, List.getElem?_append_right (by rw [← unhide HN]; omega), ← unhide HN]; simp
    have f2 : ((P ++ [201, 77]).map fun x : Nat => (x : Int)).getD (n + 1) 0 = 77 := by
      rw [List.getD, List.getElem?_map, List.getElem?_append_right (by rw [← unhide HN]; omega), ← unhide HN]; simp
    rw [f1] at e1
    rw [f2] at e2
    exact ⟨e1, e2⟩
  have hgl : g < w2.heap.size := (hgo.lt g rfl).2
  have HQ := hide hq
  have HL1 : Hid (Led w2 [⟨.slice (some ⟨g, 0, none⟩) P.length gc, P, w1.heap.size, w2.heap.size⟩]) := hide (Led.push (rows := []) ⟨by simp, by simp⟩ hk2 hgo' (by have := unhide HN; omega))
  have HK2 := hide ((unhide HK).trans hk2 (by simp))
  clear hgo hgo' hk2 hq
  rw [← unhide HN] at HL1
  go_wp2_with fail
  refine (both_any (P := P) (x := .slice (some ⟨g, 0, none⟩) n gc) (Or.inl ((unhide HL1).at_ _ (List.mem_cons_self ..)).sees) (by have := unhide HN; omega)).mono ?_
  rintro e w3 ⟨b, F, aa, ac, rfl, hw3, hF3, ha3, haF, hk3⟩
  have HW3 := hide (And.intro hw3 (And.intro hF3 haF))
  have HFL := hide hw3.lt
  have hs23 := hk3.size
  have HL3 := hide (Led.push (unhide HL1) hk3 ha3 (by have := unhide HTP; have := unhide HN; omega))
  have HK3 := hide ((unhide HK2).trans hk3 (by simp))
  have hq3 : w3.cell? ⟨g, n, none⟩ = some (.int .u8 201) ∧ w3.cell? ⟨g, n + 1, none⟩ = some (.int .u8 77) := ⟨by rw [hk3.cell (p := ⟨g, n, none⟩) hgl (by simp)]; exact (unhide HQ).1, by rw [hk3.cell (p := ⟨g, n + 1, none⟩) hgl (by simp)]; exact (unhide HQ).2⟩
  have HQ3 := hide hq3
  clear hw3 hF3 ha3 haF hk3 hq3 HQ HL1 HK2
  obtain ⟨T, hT⟩ : ∃ T, T = (twice P).length := ⟨_, rfl⟩
  have hTb : 2 * n + 2 ≤ T ∧ T ≤ 2 * n + 20 := by have := unhide HTP; have := unhide HN; omega
  simp only [← hT] at HL3
  have HT := hide hT
  rw [← hT]
  clear hT
  obtain ⟨hTb1, hTb2⟩ := hTb
  obtain ⟨ga, hga, hac⟩ : ∃ ga, aa = some ⟨ga, 0, none⟩ ∧ T ≤ ac ∧ ac ≤ maxLen := by
    have h9 := ((unhide HL3).at_ _ (List.mem_cons_self ..)).own
    rcases h9.2 with ⟨_, h2⟩ | ⟨g', cap', cur, hv, _, _, hc, hm, _⟩
    · simp only at h2; have := unhide HT; omega
    · simp only [Value.slice.injEq] at hv
      obtain ⟨e1, _, e3⟩ := hv
      subst e3
      exact ⟨g', e1, by rw [unhide HT]; exact hc, hm⟩
  subst hga
  obtain ⟨hac1, hac2⟩ := hac
  have hac3 : ac ≤ 9223372036854775807 := by unfold maxLen at hac2; omega
  have HSA : Hid (Sees w3 (.slice (some ⟨ga, 0, none⟩) T ac) (twice P)) := hide ((unhide HL3).at_ _ (List.mem_cons_self ..)).sees
  have HSG : Hid (Sees w3 (.slice (some ⟨g, 0, none⟩) n gc) P) := hide ((unhide HL3).at_ _ (List.mem_cons_of_mem _ (List.mem_cons_self ..))).sees
  have hA1 : Sees w3 (.slice (some ⟨ga, 0, none⟩) n ac) P := by
    have h9 := Sees.part (unhide HSA) 0 n 0 ac (by have := unhide HT; omega) (by omega) (Nat.le_refl _) (Or.inl rfl)
    have e9 : ((twice P).drop 0).take n = P := by rw [List.drop_zero, twice, unhide HN, List.take_left' rfl]
    rw [e9] at h9; exact h9
  have hA2 : ∀ off' cap', (n ≤ cap' ∧ cap' ≤ ac ∧ (off' = T - n ∨ n = 0)) → Sees w3 (.slice (some ⟨ga, off', none⟩) n cap') P := by
    rintro off' cap' ⟨h1, h2, h3⟩
    have h9 := Sees.part (unhide HSA) (T - n) n off' cap' (by have := unhide HT; omega) h1 h2 (by rcases h3 with h3 | h3; left; omega; exact Or.inr h3)
    have e9 : ((twice P).drop (T - n)).take n = P := by
      have h8 : twice P = (P ++ (form (form P.length ++ P).length ++ form P.length)) ++ P := by simp [twice, List.append_assoc]
      have h7 : T - n = (P ++ (form (form P.length ++ P).length ++ form P.length)).length := by
        have h6 := congrArg List.length h8
        rw [List.length_append (bs := P)] at h6
        have := unhide HT; have := unhide HN
        omega
      rw [h7, h8, List.drop_left' rfl, unhide HN, List.take_length]
    rw [e9] at h9; exact h9
  have HA1 := hide hA1
  have HA2 := hide hA2
  clear hA1 hA2
  have HPW := hide ((unhide HP0).kept (unhide HK3))
  have HKP := hide (kept_yes (unhide HN) (by omega) hgc (unhide HSG) (unhide HPW) (unhide HQ3).1 (unhide HQ3).2)
  have hlen1 : ((T : Int) < 2 * (n : Int) + 2) = False := by simp; omega
  have hsub : (T : Int) - (n : Int) = ((T - n : Nat) : Int) := by omega
  have hTn : T - n ≤ T := by omega
  have hTT : T - (T - n) = n := by omega
  have k3 : Hid (∀ m, Kept [] w3 (w3.drewN m)) := hide fun m => (Kept.refl [] w3).drewN m
  go_upto_region 5 with fail
  go_cut [67] (fun t wc => t = .bool false ∧ ∃ m, Hid (w3.drewN m = wc))
  case first =>
    by_cases hz : ac = T - n
    · have hz' : (ac = T - n) = True := by simp [hz]
      have HZ := hide (show n = 0 by omega)
      have HZ2 := hide (show 0 ≤ ac by omega)
      clear hz
      go_wp2_with (first | (go_at_call 33; refine (unhide HKP).mono ?_; rintro e w' ⟨rfl, m3, rfl⟩))
      refine (same_yesE ((unhide HA1).kept (unhide k3 m3) (by simp)) ((unhide HPW).kept (unhide k3 m3)) (by have := unhide HN; omega)).mono ?_
      rintro e w' ⟨rfl, m4, rfl⟩
      go_wp2_with fail
      refine (same_yesE ((unhide HA2 0 (ac - (T - n)) ⟨by have := unhide HZ; omega, by omega, Or.inr (unhide HZ)⟩).kept (unhide k3 (m3 + m4)) (by simp)) ((unhide HPW).kept (unhide k3 (m3 + m4))) (by have := unhide HN; omega)).mono ?_
      rintro e w' ⟨rfl, m5, rfl⟩
      go_wp2_with fail
      go_meet
      exact ⟨rfl, _, hide rfl⟩
    · have hz' : (ac = T - n) = False := by simp [hz]
      clear hz
      go_wp2_with (first | (go_at_call 33; refine (unhide HKP).mono ?_; rintro e w' ⟨rfl, m3, rfl⟩))
      refine (same_yesE ((unhide HA1).kept (unhide k3 m3) (by simp)) ((unhide HPW).kept (unhide k3 m3)) (by have := unhide HN; omega)).mono ?_
      rintro e w' ⟨rfl, m4, rfl⟩
      go_wp2_with fail
      refine (same_yesE ((unhide HA2 (T - n) (ac - (T - n)) ⟨by omega, by omega, Or.inl rfl⟩).kept (unhide k3 (m3 + m4)) (by simp)) ((unhide HPW).kept (unhide k3 (m3 + m4))) (by have := unhide HN; omega)).mono ?_
      rintro e w' ⟨rfl, m5, rfl⟩
      go_wp2_with fail
      go_meet
      exact ⟨rfl, _, hide rfl⟩
  case rest =>
  obtain ⟨rfl, m3, HWC⟩ := hcut
  have hWC := unhide HWC
  have k34 : Kept [] w3 wc := by rw [← hWC]; exact unhide k3 m3
  have HL4 := hide ((unhide HL3).kept k34)
  have HK4 := hide ((unhide HK3).trans k34 (by simp))
  have HW4 := hide (And.intro ((unhide HW3).1.kept k34 (by simp)) (And.intro (unhide HW3).2.1 (unhide HW3).2.2))
  have hs34 : w3.heap.size ≤ wc.heap.size := k34.size
  clear HWC hWC k3 k34 HL3 HK3 HW3 HPW HKP HA1 HA2 HSA HSG HQ3 hlen1 hsub hTn hTT
  -- want
  go_wp2_with (at_builtin; refine wpList_twin8 (wx := wc) rfl _ _ rfl rfl _ (twice P) rfl ((unhide HL4).at_ _ (List.mem_cons_self ..)).sees T (unhide HT).symm (by omega) ?_)
  intro wa wac w5 hw5 hk5
  have HL5 := hide (Led.push (unhide HL4) hk5 (l := twice P) (v := .slice wa T wac) (by rw [← unhide HT]; exact hw5) (by have := unhide HT; omega))
  have HK5 := hide ((unhide HK4).trans hk5 (by simp))
  have HW5 := hide (And.intro ((unhide HW4).1.kept hk5 (by simp)) (unhide HW4).2)
  have HSC := hide hk5.size
  clear hw5 hk5 HL4 HK4 HW4
  -- other
  go_wp2_with fail
  refine (both_any (P := Q) ((unhide HP1).kept (unhide HK5)) (by omega)).mono ?_
  rintro e w6 ⟨b6, F6, oa, oc, rfl, _, _, ho6, _, hk6⟩
  have HL6 := hide (Led.push (unhide HL5) hk6 ho6 (by have := unhide HTQ; omega))
  have HK6 := hide ((unhide HK5).trans hk6 (by simp))
  have HW6 := hide (And.intro ((unhide HW5).1.kept hk6 (by simp)) (unhide HW5).2)
  clear ho6 hk6 HL5 HK5 HW5
  obtain ⟨TQ, hTQ⟩ : ∃ TQ, TQ = (twice Q).length := ⟨_, rfl⟩
  have hTQb : TQ ≤ 200000020 := by have := unhide HTQ; omega
  simp only [← hTQ] at HL6
  have HTQ' := hide hTQ
  rw [← hTQ]
  clear hTQ
  -- keep
  go_wp2_with (at_builtin; refine wpList_twin8 (wx := w6) rfl _ _ rfl rfl _ (twice Q) rfl ((unhide HL6).at_ _ (List.mem_cons_self ..)).sees TQ (unhide HTQ').symm (by omega) ?_)
  intro ka kc w7 hw7 hk7
  have HL7 := hide (Led.push (unhide HL6) hk7 (l := twice Q) (v := .slice ka TQ kc) (by rw [← unhide HTQ']; exact hw7) (by have := unhide HTQ'; omega))
  have HK7 := hide ((unhide HK6).trans hk7 (by simp))
  have HW7 := hide (And.intro ((unhide HW6).1.kept hk7 (by simp)) (unhide HW6).2)
  clear hw7 hk7 HL6 HK6 HW6
  -- again
  go_wp2_with fail
  refine (both_any (P := P) (x := .slice (some ⟨g, 0, none⟩) n gc) (Or.inl ((unhide HL7).at_ ⟨.slice (some ⟨g, 0, none⟩) n gc, P, w1.heap.size, w2.heap.size⟩ (by simp)).sees) (by have := unhide HN; omega)).mono ?_
  rintro e w8 ⟨b8, F8, na, nc, rfl, _, _, hn8, _, hk8⟩
  have HL8 := hide (Led.push (unhide HL7) hk8 hn8 (by have := unhide HTP; have := unhide HN; omega))
  have HK8 := hide ((unhide HK7).trans hk8 (by simp))
  have HW8 := hide (And.intro ((unhide HW7).1.kept hk8 (by simp)) (unhide HW7).2)
  clear hn8 hk8 HL7 HK7 HW7
  simp only [← unhide HT] at HL8 ⊢
  -- b
  go_wp2_with fail
  refine (wdone_okS (unhide HW8).1 rfl rfl).mono ?_
  rintro e w9 ⟨ba, bc, rfl, hb9, hk9⟩
  have HL9 := hide (Led.push (unhide HL8) hk9 (l := twice P) hb9 (by have := unhide HTP; have := unhide HN; omega))
  have HK9 := hide ((unhide HK8).trans hk9 (by simp))
  have HW9 := hide (And.intro ((unhide HW8).1.kept hk9 (by simp)) (unhide HW8).2)
  clear hb9 hk9 HL8 HK8 HW8
  simp only [← unhide HT] at HL9 ⊢
  have hTl : T ≤ 140737488355328 := by omega
  have HSM : Hid (∀ m, Calls Try.prog 17 #[.slice na T nc, .slice wa T wac] (w9.drewN m) fun e w' => e = .returned (.bool true) ∧ ∃ m', w' = (w9.drewN m).drewN m') := hide fun m => by
    have k9 : Kept [] w9 (w9.drewN m) := (Kept.refl [] w9).drewN m
    have h1 := (((unhide HL9).at_ ⟨.slice na T nc, twice P, w7.heap.size, w8.heap.size⟩ (by simp)).sees).kept k9 (by simp)
    have h2 := (((unhide HL9).at_ ⟨.slice wa T wac, twice P, wc.heap.size, w5.heap.size⟩ (by simp)).sees).kept k9 (by simp)
    exact same_yesE h1 (Or.inl h2) (by show (twice P).length ≤ _; have := unhide HT; omega)
  have HSM2 : Hid (∀ m, Calls Try.prog 17 #[.slice ba T bc, .slice wa T wac] (w9.drewN m) fun e w' => e = .returned (.bool true) ∧ ∃ m', w' = (w9.drewN m).drewN m') := hide fun m => by
    have k9 : Kept [] w9 (w9.drewN m) := (Kept.refl [] w9).drewN m
    have h1 := (((unhide HL9).at_ ⟨.slice ba T bc, twice P, w8.heap.size, w9.heap.size⟩ (by simp)).sees).kept k9 (by simp)
    have h2 := (((unhide HL9).at_ ⟨.slice wa T wac, twice P, wc.heap.size, w5.heap.size⟩ (by simp)).sees).kept k9 (by simp)
    exact same_yesE h1 (Or.inl h2) (by show (twice P).length ≤ _; have := unhide HT; omega)
  have HSM3 : Hid (∀ m, Calls Try.prog 17 #[.slice oa TQ oc, .slice ka TQ kc] (w9.drewN m) fun e w' => e = .returned (.bool true) ∧ ∃ m', w' = (w9.drewN m).drewN m') := hide fun m => by
    have k9 : Kept [] w9 (w9.drewN m) := (Kept.refl [] w9).drewN m
    have h1 := (((unhide HL9).at_ ⟨.slice oa TQ oc, twice Q, w5.heap.size, w6.heap.size⟩ (by simp)).sees).kept k9 (by simp)
    have h2 := (((unhide HL9).at_ ⟨.slice ka TQ kc, twice Q, w6.heap.size, w7.heap.size⟩ (by simp)).sees).kept k9 (by simp)
    exact same_yesE h1 (Or.inl h2) (by show (twice Q).length ≤ _; have := unhide HTQ'; omega)
  go_wp2_with fail
  refine (unhide HSM 0).mono ?_
  rintro e w' ⟨rfl, m9, rfl⟩
  go_wp2_with fail
  refine (unhide HSM2 _).mono ?_
  rintro e w' ⟨rfl, m9b, rfl⟩
  go_wp2_with fail
  refine (unhide HSM3 _).mono ?_
  rintro e w' ⟨rfl, m9c, rfl⟩
  have k910 : Kept [] w9 ((w9.drewN (m9 + m9b)).drewN m9c) := ((Kept.refl [] w9).drewN _).drewN _
  have HL10 := hide ((unhide HL9).kept k910)
  have HK10 := hide ((unhide HK9).trans k910 (by simp))
  have HW10 := hide (And.intro ((unhide HW9).1.kept k910 (by simp)) (unhide HW9).2)
  clear k910 HL9 HK9 HW9 HSM HSM2 HSM3
  generalize (w9.drewN (m9 + m9b)).drewN m9c = w10 at *
  have hs10 : w2.heap.size ≤ w10.heap.size := ((unhide HL10).at_ ⟨.slice (some ⟨g, 0, none⟩) n gc, P, w1.heap.size, w2.heap.size⟩ (by simp)).in_
  -- spoil
  have hgr := ((unhide HL10).at_ ⟨.slice (some ⟨g, 0, none⟩) n gc, P, w1.heap.size, w2.heap.size⟩ (by simp)).own
  simp only at hgr
  rw [← unhide HN] at hgr
  have HGR := hide hgr
  clear hgr
  go_wp2_with fail
  refine (spoil_any (unhide HB0) (by omega) (unhide HGR)).mono ?_
  rintro e w11 ⟨rfl, hg11, hk11⟩
  have hk11' : Kept [] w w11 := (unhide HK10).trans hk11 (fun x hx => Or.inr (by simp at hx; subst hx; have := (hg11.lt x rfl).1; have := (unhide HK).size; omega))
  have HL11 := hide (Led.turn (rows := [⟨.slice ba T bc, twice P, w8.heap.size, w9.heap.size⟩, ⟨.slice na T nc, twice P, w7.heap.size, w8.heap.size⟩, ⟨.slice ka TQ kc, twice Q, w6.heap.size, w7.heap.size⟩, ⟨.slice oa TQ oc, twice Q, w5.heap.size, w6.heap.size⟩, ⟨.slice wa T wac, twice P, wc.heap.size, w5.heap.size⟩, ⟨.slice (some ⟨ga, 0, none⟩) T ac, twice P, w2.heap.size, w3.heap.size⟩]) (r := ⟨.slice (some ⟨g, 0, none⟩) n gc, P, w1.heap.size, w2.heap.size⟩) (r' := ⟨.slice (some ⟨g, 0, none⟩) n gc, turn P, w1.heap.size, w2.heap.size⟩) (unhide HL10) rfl hk11 rfl rfl rfl (by show w11.ownsRow w1.heap.size 5 1 (.slice (some ⟨g, 0, none⟩) n gc) (turn P).length (u8s (turn P)); rw [turn_len, ← unhide HN]; exact hg11) (by show (turn P).length ≤ _; rw [turn_len, ← unhide HN]; omega))
  have HW11 := hide (And.intro ((unhide HW10).1.kept hk11 (fun x hx hm => by simp at hm; subst hm; have := (unhide HW10).2.1 x hx; omega)) (unhide HW10).2)
  have HK11 := hide hk11'
  clear hg11 hk11 hk11' HL10 HK10 HW10 HGR
  simp only [List.cons_append, List.nil_append] at HL11
  -- turned
  go_wp2_with fail
  refine (both_any (P := turn P) (x := .slice (some ⟨g, 0, none⟩) n gc) (Or.inl ((unhide HL11).at_ ⟨.slice (some ⟨g, 0, none⟩) n gc, turn P, w1.heap.size, w2.heap.size⟩ (by simp)).sees) (by rw [turn_len]; have := unhide HN; omega)).mono ?_
  rintro e w12 ⟨b12, F12, ua, uc, rfl, _, _, hu12, _, hk12⟩
  have HL12 := hide (Led.push (unhide HL11) hk12 hu12 (by have := unhide HTT; rw [turn_len] at this; have := unhide HN; omega))
  have HK12 := hide ((unhide HK11).trans hk12 (by simp))
  have HW12 := hide (And.intro ((unhide HW11).1.kept hk12 (by simp)) (unhide HW11).2)
  clear hu12 hk12 HL11 HK11 HW11
  obtain ⟨TT, hTT⟩ : ∃ TT, TT = (twice (turn P)).length := ⟨_, rfl⟩
  have hTTb : TT ≤ 200000020 := by have := unhide HTT; rw [turn_len] at this; have := unhide HN; omega
  simp only [← hTT] at HL12
  have HTT' := hide hTT
  rw [← hTT]
  clear hTT
  -- fresh
  have HTN := hide (show (turn P).length = n by rw [turn_len, ← unhide HN])
  go_wp2_with (at_builtin; refine wpList_twin8 (wx := w12) rfl _ _ rfl rfl _ (turn P) rfl ((unhide HL12).at_ ⟨.slice (some ⟨g, 0, none⟩) n gc, turn P, w1.heap.size, w2.heap.size⟩ (by simp)).sees n (unhide HTN) (by omega) ?_)
  intro fa fc w13 hw13 hk13
  have HL13 := hide (Led.push (unhide HL12) hk13 (l := turn P) (v := .slice fa n fc) (by rw [unhide HTN]; exact hw13) (by have := unhide HTN; omega))
  have HK13 := hide ((unhide HK12).trans hk13 (by simp))
  have HW13 := hide (And.intro ((unhide HW12).1.kept hk13 (by simp)) (unhide HW12).2)
  clear hw13 hk13 HL12 HK12 HW12
  -- due
  go_wp2_with fail
  refine (both_any (P := turn P) (x := .slice fa n fc) (Or.inl ((unhide HL13).at_ _ (List.mem_cons_self ..)).sees) (by rw [turn_len]; have := unhide HN; omega)).mono ?_
  rintro e w14 ⟨b14, F14, da, dc, rfl, _, _, hd14, _, hk14⟩
  have HL14 := hide (Led.push (unhide HL13) hk14 hd14 (by have := unhide HTT'; omega))
  have HK14 := hide ((unhide HK13).trans hk14 (by simp))
  have HW14 := hide (And.intro ((unhide HW13).1.kept hk14 (by simp)) (unhide HW13).2)
  clear hd14 hk14 HL13 HK13 HW13
  simp only [← unhide HTT'] at HL14 ⊢
  go_wp2_with fail
  have hsA := ((unhide HL14).at_ ⟨.slice ua TT uc, twice (turn P), w11.heap.size, w12.heap.size⟩ (by simp)).sees
  have hsB := ((unhide HL14).at_ ⟨.slice da TT dc, twice (turn P), w13.heap.size, w14.heap.size⟩ (by simp)).sees
  refine (same_yesE hsA (Or.inl hsB) (by show (twice (turn P)).length ≤ _; have := unhide HTT'; omega)).mono ?_
  rintro e w' ⟨rfl, m14, rfl⟩
  have k1415 : Kept [] w14 (w14.drewN m14) := (Kept.refl [] w14).drewN _
  have HL15 := hide ((unhide HL14).kept k1415)
  have HK15 := hide ((unhide HK14).trans k1415 (by simp))
  have HW15 := hide (And.intro ((unhide HW14).1.kept k1415 (by simp)) (unhide HW14).2)
  have hs15 : w14.heap.size ≤ (w14.drewN m14).heap.size := k1415.size
  clear k1415 HL14 HK14 HW14 hsA hsB
  generalize w14.drewN m14 = w15 at *
  -- c
  go_wp2_with fail
  refine (wdone_okS (unhide HW15).1 rfl rfl).mono ?_
  rintro e w16 ⟨ca, cc, rfl, hc16, hk16⟩
  have HL16 := hide (Led.push (unhide HL15) hk16 (l := twice P) hc16 (by have := unhide HTP; have := unhide HN; omega))
  have HK16 := hide ((unhide HK15).trans hk16 (by simp))
  have HW16 := hide (And.intro ((unhide HW15).1.kept hk16 (by simp)) (unhide HW15).2)
  clear hc16 hk16 HL15 HK15 HW15
  simp only [← unhide HT] at HL16 ⊢
  have HSM : Hid (∀ m, Calls Try.prog 17 #[.slice ca T cc, .slice wa T wac] (w16.drewN m) fun e w' => e = .returned (.bool true) ∧ ∃ m', w' = (w16.drewN m).drewN m') := hide fun m => by
    have k9 : Kept [] w16 (w16.drewN m) := (Kept.refl [] w16).drewN m
    have h1 := (((unhide HL16).at_ ⟨.slice ca T cc, twice P, w15.heap.size, w16.heap.size⟩ (by simp)).sees).kept k9 (by simp)
    have h2 := (((unhide HL16).at_ ⟨.slice wa T wac, twice P, wc.heap.size, w5.heap.size⟩ (by simp)).sees).kept k9 (by simp)
    exact same_yesE h1 (Or.inl h2) (by show (twice P).length ≤ _; have := unhide HT; omega)
  have HSM2 : Hid (∀ m, Calls Try.prog 17 #[.slice (some ⟨ga, 0, none⟩) T ac, .slice wa T wac] (w16.drewN m) fun e w' => e = .returned (.bool true) ∧ ∃ m', w' = (w16.drewN m).drewN m') := hide fun m => by
    have k9 : Kept [] w16 (w16.drewN m) := (Kept.refl [] w16).drewN m
    have h1 := (((unhide HL16).at_ ⟨.slice (some ⟨ga, 0, none⟩) T ac, twice P, w2.heap.size, w3.heap.size⟩ (by simp)).sees).kept k9 (by simp)
    have h2 := (((unhide HL16).at_ ⟨.slice wa T wac, twice P, wc.heap.size, w5.heap.size⟩ (by simp)).sees).kept k9 (by simp)
    exact same_yesE h1 (Or.inl h2) (by show (twice P).length ≤ _; have := unhide HT; omega)
  go_wp2_with fail
  refine (unhide HSM 0).mono ?_
  rintro e w' ⟨rfl, m16, rfl⟩
  go_wp2_with fail
  refine (unhide HSM2 _).mono ?_
  rintro e w' ⟨rfl, m16b, rfl⟩
  have k1617 : Kept [] w16 ((w16.drewN m16).drewN m16b) := ((Kept.refl [] w16).drewN _).drewN _
  have HL17 := hide ((unhide HL16).kept k1617)
  have HK17 := hide ((unhide HK16).trans k1617 (by simp))
  have HW17 := hide (And.intro ((unhide HW16).1.kept k1617 (by simp)) (unhide HW16).2)
  clear k1617 HL16 HK16 HW16 HSM HSM2
  generalize (w16.drewN m16).drewN m16b = w17 at *
  have hpi : ∀ i, i < 9 → [9, 4, 0, 5, 7, 3, 1, 10, 2].getD i 0 < 11 := by decide
  have hinj : ∀ i, i < 9 → ∀ j, j < 9 → i ≠ j → [9, 4, 0, 5, 7, 3, 1, 10, 2].getD i 0 ≠ [9, 4, 0, 5, 7, 3, 1, 10, 2].getD j 0 := by decide
  have hnot : ∀ i, i < 9 → [9, 4, 0, 5, 7, 3, 1, 10, 2].getD i 0 ≠ 8 := by decide
  have HAP := hide (apart_blocks (unhide HL17) 9 (by omega) (fun i => [9, 4, 0, 5, 7, 3, 1, 10, 2].getD i 0) hpi (fun i j hi hj => hinj i hi j hj) #[.slice (some ⟨ga, 0, none⟩) T ac, .slice ba T bc, .slice ca T cc, .slice na T nc, .slice oa TQ oc, .slice ua TT uc, .slice da TT dc, .slice (some ⟨g, 0, none⟩) n gc, .slice fa n fc] (fun i hi => by
    match i, hi with
    | 0, _ => rfl
    | 1, _ => rfl
    | 2, _ => rfl
    | 3, _ => rfl
    | 4, _ => rfl
    | 5, _ => rfl
    | 6, _ => rfl
    | 7, _ => rfl
    | 8, _ => rfl))
  have hbase : w.heap.size ≤ w1.heap.size := (unhide HK).size
  have hg12 : w1.heap.size ≤ w2.heap.size := by
    have := ((unhide HL17).at_ ⟨.slice (some ⟨g, 0, none⟩) n gc, turn P, w1.heap.size, w2.heap.size⟩ (by simp)).low (b := g) rfl
    simp only at this; omega
  have HB1 := hide (fun x hx => (unhide HL17).above (m := 9) (pi := fun i => [9, 4, 0, 5, 7, 3, 1, 10, 2].getD i 0) hpi 10 rfl (base := w.heap.size) hbase (Nat.le_trans hbase hg12) (x := x) hx)
  have HB2 := hide (show ∀ x ∈ F, x ∉ blocksOf _ 9 (fun i => [9, 4, 0, 5, 7, 3, 1, 10, 2].getD i 0) from fun x hx hm => by
    obtain ⟨i, _, _, hb⟩ := (unhide HL17).only (m := 9) (pi := fun i => [9, 4, 0, 5, 7, 3, 1, 10, 2].getD i 0) hpi 9 (by simp) (x := x) ((unhide HW17).2.1 x hx) (unhide HFL x hx) hm
    exact (unhide HW17).2.2 x hb hx)
  have HB3 := hide (show ∀ x, (Value.slice wa T wac).ownBlock = some x → x ∉ blocksOf _ 9 (fun i => [9, 4, 0, 5, 7, 3, 1, 10, 2].getD i 0) from fun x hx hm => by
    have hlw := ((unhide HL17).get (k := 8) (by simp)).low hx
    obtain ⟨i, hi, he, hb⟩ := (unhide HL17).only (m := 9) (pi := fun i => [9, 4, 0, 5, 7, 3, 1, 10, 2].getD i 0) hpi 8 (by simp) (x := x) hlw.1 hlw.2 hm
    exact hnot i hi he)
  have HWT : Hid (w17.ownsRow wc.heap.size 5 1 (.slice wa T wac) T (u8s (twice P))) := hide (by
    have h9 : w17.ownsRow wc.heap.size 5 1 (.slice wa T wac) (twice P).length (u8s (twice P)) := ((unhide HL17).get (k := 8) (by simp)).own
    rw [← unhide HT] at h9; exact h9)
  have hs5 : w5.heap.size ≤ w17.heap.size := ((unhide HL17).get (k := 8) (by simp)).in_
  have hs3c : ∀ x, (Value.slice wa T wac).ownBlock = some x → wc.heap.size ≤ x ∧ x < w5.heap.size := fun x hx => ((unhide HL17).get (k := 8) (by simp)).low hx
  have HWL := hide hs3c
  clear hs3c
  generalize blocksOf _ 9 (fun i => [9, 4, 0, 5, 7, 3, 1, 10, 2].getD i 0) = F9 at *
  clear hpi hinj hnot HL17
  go_wp2_with fail
  refine (unhide HAP).mono ?_
  rintro e w18 ⟨rfl, hk18⟩
  have hkA : Kept [] w17 (w17.alloc (.cells #[.slice (some ⟨ga, 0, none⟩) T ac, .slice ba T bc, .slice ca T cc, .slice na T nc, .slice oa TQ oc, .slice ua TT uc, .slice da TT dc, .slice (some ⟨g, 0, none⟩) n gc, .slice fa n fc] 22)) := (Kept.refl [] w17).alloc _
  have HK18 := hide (((unhide HK17).trans hkA (by simp)).trans hk18 (fun x hx => Or.inr (unhide HB1 x hx)))
  have HW18 := hide (((unhide HW17).1.kept hkA (by simp)).kept hk18 (unhide HB2))
  have HWT18 := hide (own_kept (own_kept (unhide HWT) hkA (by simp)) hk18 (unhide HB3))
  have hs18 : w17.heap.size ≤ w18.heap.size := Nat.le_trans hkA.size hk18.size
  have HFW := hide (fun x hx => (unhide HW17).2.1 x hx)
  clear hkA hk18 HK17 HW17 HWT HB1 HB2 HB3 HAP
  -- Byte
  go_wp2_with fail
  refine (wbyte_inS (unhide HW18) 7 (by omega) (by have := unhide HT; show (twice P).length ≤ _; omega)).mono ?_
  rintro e w19 ⟨rfl, F2, hw19, hk19, hF19⟩
  have hst : wLay ⟨2 * P.length + 30, twice P, [], 0⟩ [7] = ⟨2 * P.length + 30, twice P ++ [7], [], 0⟩ := by
    have := unhide HTP; have := unhide HN
    simp only [wLay]; rw [if_neg (by simp), if_pos (by simp only [List.length_cons, List.length_nil]; omega)]
  rw [hst] at hw19
  have HW19 := hide hw19
  have HK19 := hide ((unhide HK18).trans hk19 (fun x hx => Or.inr (by have := unhide HFW x hx; omega)))
  have HWT19 := hide (own_kept (unhide HWT18) hk19 (fun x hx hf => by have := unhide HFL x hf; have := (unhide HWL x hx).1; omega))
  have hs19 : w18.heap.size ≤ w19.heap.size := hk19.size
  clear hst hw19 hk19 hF19 HK18 HW18 HWT18
  -- d
  go_wp2_with fail
  refine (wdone_okS (unhide HW19) rfl rfl).mono ?_
  rintro e w20 ⟨xa, xc, rfl, hd20, hk20⟩
  have hT1 : (twice P ++ [7]).length = T + 1 := by rw [List.length_append, ← unhide HT]; rfl
  simp only [hT1] at hd20 ⊢
  have HT1 := hide hT1
  have HD20 := hide hd20
  have HK20 := hide ((unhide HK19).trans hk20 (by simp))
  have HWT20 := hide (own_kept (unhide HWT19) hk20 (by simp))
  have hs20 : w19.heap.size ≤ w20.heap.size := hk20.size
  clear hd20 hk20 HK19 HW19 HWT19 hT1
  have HO7 : Hid (Sees (w20.alloc (.cells #[.int .u8 7] 5)) (.slice (some ⟨w20.heap.size, 0, none⟩) 1 1) [7]) := hide (by
    refine Or.inr ⟨w20.heap.size, 0, 1, rfl, by simp, by unfold maxLen; omega, by simp, fun j hj => ?_⟩
    rw [(Blk.new w20 _ _).cell]
    match j, hj with
    | 0, _ => rfl)
  have hc20 : wc.heap.size ≤ (w20.alloc (.cells #[.int .u8 7] 5)).heap.size := by
    have := ((Kept.refl [] w20).alloc (.cells #[.int .u8 7] 5)).size
    have := unhide HSC; omega
  go_wp2_with (at_builtin; refine wpList_append_met (w := w20.alloc (.cells #[.int .u8 7] 5)) rfl _ _ rfl wc.heap.size _ (twice P) rfl (by rw [← unhide HT]; exact own_kept (unhide HWT20) ((Kept.refl [] w20).alloc _) (by simp)) _ [7] rfl (unhide HO7) (by have := unhide HT; simp; omega) hc20 ?_)
  intro v21 w21 hown hg
  rw [← unhide HT] at hown
  obtain ⟨ya, yc, hv⟩ := own_len hown
  subst hv
  have hkA : Kept [] w20 (w20.alloc (.cells #[.int .u8 7] 5)) := (Kept.refl [] w20).alloc _
  have hkG : Kept (Value.slice wa T wac).ownBlock.toList (w20.alloc (.cells #[.int .u8 7] 5)) w21 := (Kept.refl _ _).grown hg (fun k hk => Or.inl (by rw [hk]; simp))
  have hd21 := own_kept (own_kept (unhide HD20) hkA (by simp)) hkG (fun x hx hm => by
    have h1 : (Value.slice wa T wac).ownBlock = some x := by simpa using hm
    have h2 := (unhide HWL x h1).2
    have h3 := ((unhide HD20).lt x hx).1
    omega)
  have HSY := hide (same_yesE (Sees.of_own (bs := twice P ++ [7]) (by rw [unhide HT1]; exact hd21)) (Or.inl (Sees.of_own (bs := twice P ++ [7]) (by rw [unhide HT1]; exact hown))) (by rw [unhide HT1]; omega))
  have HK21 : Hid (Kept [] w w21) := hide (((unhide HK20).trans hkA (by simp)).trans hkG (fun x hx => Or.inr (by
    have h1 : (Value.slice wa T wac).ownBlock = some x := by simpa using hx
    have h2 := (unhide HWL x h1).1
    omega)))
  clear hown hg hkA hkG hd21
  go_wp2_with (first | (go_at_call 17; refine (unhide HSY).mono ?_; rintro e w' ⟨rfl, m21, rfl⟩))
  go_ret
  exact ⟨rfl, (unhide HK21).drewN _⟩
end Go.Proofs.Ytiabhgkndejigab
