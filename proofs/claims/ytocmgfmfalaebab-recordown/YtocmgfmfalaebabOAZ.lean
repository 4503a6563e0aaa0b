/- Rows of bytes of the call's own, none of them twice; bytes that are turned. -/
import Derived.Test.YtocmgfmfalaebabPkW
import Derived.Test.YtocmgfmfalaebabOBZ
namespace Go.Proofs.Ytocmgfmfalaebab
open Go.RowKit

/-- Rows made since base, no two in one block. -/
structure Pool (base : Nat) (w : World) (rows : List (Value × List Nat)) : Prop where
  own : ∀ r ∈ rows, w.ownsRow base 5 1 r.1 r.2.length (u8s r.2)
  pw : rows.Pairwise fun r s => ∀ b, r.1.ownBlock = some b → s.1.ownBlock ≠ some b
  room : ∀ r ∈ rows, r.2.length ≤ 3000000000
theorem Pool.kept {base : Nat} {w w' : World} {rows : List (Value × List Nat)} (h : Pool base w rows) (k : Kept [] w w') : Pool base w' rows := ⟨fun r hr => own_kept (h.own r hr) k (by simp), h.pw, h.room⟩
theorem Pool.lt {base : Nat} {w : World} {rows : List (Value × List Nat)} (h : Pool base w rows) {r : Value × List Nat} (hr : r ∈ rows) {b : Nat} (hb : r.1.ownBlock = some b) : base ≤ b ∧ b < w.heap.size := (h.own r hr).lt b hb
theorem Pool.nil (base : Nat) (w : World) : Pool base w [] := ⟨fun r hr => (by cases hr), List.Pairwise.nil, fun r hr => (by cases hr)⟩
theorem Pool.join {base : Nat} {w w' : World} {rows news : List (Value × List Nat)} (h : Pool base w rows) (hb : base ≤ w.heap.size) (k : Kept [] w w') (hn : Pool w.heap.size w' news) : Pool base w' (news ++ rows) := by
  refine ⟨fun r hr => ?_, List.pairwise_append.2 ⟨hn.pw, h.pw, fun r hr s hs b h1 h2 => ?_⟩, fun r hr => ?_⟩
  · rcases List.mem_append.1 hr with hr | hr
    · exact own_down (hn.own r hr) hb
    · exact own_kept (h.own r hr) k (by simp)
  · have := (hn.lt hr h1).1; have := (h.lt hs h2).2; omega
  · rcases List.mem_append.1 hr with hr | hr
    · exact hn.room r hr
    · exact h.room r hr
theorem Pool.one {base : Nat} {w : World} {v : Value} {l : List Nat} (ho : w.ownsRow base 5 1 v l.length (u8s l)) (hl : l.length ≤ 3000000000) : Pool base w [(v, l)] := ⟨fun r hr => (by simp at hr; subst hr; exact ho), List.pairwise_singleton _ _, fun r hr => (by simp at hr; subst hr; exact hl)⟩
theorem Pool.push {base : Nat} {w w' : World} {rows : List (Value × List Nat)} (h : Pool base w rows) (hb : base ≤ w.heap.size) (k : Kept [] w w') {v : Value} {l : List Nat} (ho : w'.ownsRow w.heap.size 5 1 v l.length (u8s l)) (hl : l.length ≤ 3000000000) : Pool base w' ((v, l) :: rows) := h.join hb k (Pool.one ho hl)
theorem Pool.three {base : Nat} {w : World} {v1 v2 v3 : Value} {l1 l2 l3 : List Nat} (o1 : w.ownsRow base 5 1 v1 l1.length (u8s l1)) (o2 : w.ownsRow base 5 1 v2 l2.length (u8s l2)) (o3 : w.ownsRow base 5 1 v3 l3.length (u8s l3)) (h12 : ∀ b, v1.ownBlock = some b → v2.ownBlock ≠ some b) (h13 : ∀ b, v1.ownBlock = some b → v3.ownBlock ≠ some b) (h23 : ∀ b, v2.ownBlock = some b → v3.ownBlock ≠ some b) (z1 : l1.length ≤ 3000000000) (z2 : l2.length ≤ 3000000000) (z3 : l3.length ≤ 3000000000) : Pool base w [(v1, l1), (v2, l2), (v3, l3)] := by
  refine ⟨fun r hr => ?_, ?_, fun r hr => ?_⟩
  · simp at hr; rcases hr with rfl | rfl | rfl; exact o1; exact o2; exact o3
  · refine List.pairwise_cons.2 ⟨fun s hs => ?_, List.pairwise_cons.2 ⟨fun s hs => ?_, List.pairwise_singleton _ _⟩⟩
    · simp at hs; rcases hs with rfl | rfl; exact h12; exact h13
    · simp at hs; subst hs; exact h23
  · simp at hr; rcases hr with rfl | rfl | rfl; exact z1; exact z2; exact z3
/-- A row written over where it lies. -/
theorem Pool.turn {base : Nat} {w w' : World} {A B : List (Value × List Nat)} {v : Value} {l l' : List Nat} {g : Nat} (h : Pool base w (A ++ (v, l) :: B)) (hg : v.ownBlock = some g) (k : Kept [g] w w') (ho : w'.ownsRow base 5 1 v l'.length (u8s l')) (hl : l'.length = l.length) : Pool base w' (A ++ (v, l') :: B) := by
  obtain ⟨p1, p2, p3⟩ := List.pairwise_append.1 h.pw
  obtain ⟨p4, p5⟩ := List.pairwise_cons.1 p2
  have hA : ∀ r ∈ A, r.1.ownBlock ≠ some g := fun r hr e => p3 r hr (v, l) (by simp) g e hg
  have hB : ∀ r ∈ B, r.1.ownBlock ≠ some g := fun r hr => p4 r hr g hg
  refine ⟨fun r hr => ?_, List.pairwise_append.2 ⟨p1, List.pairwise_cons.2 ⟨p4, p5⟩, fun r hr s hs => ?_⟩, fun r hr => ?_⟩
  · rcases List.mem_append.1 hr with hr | hr
    · exact own_kept (h.own r (by simp [hr])) k (fun b hb hm => hA r hr (by simp at hm; rw [← hm]; exact hb))
    · rcases List.mem_cons.1 hr with rfl | hr
      · exact ho
      · exact own_kept (h.own r (by simp [hr])) k (fun b hb hm => hB r hr (by simp at hm; rw [← hm]; exact hb))
  · rcases List.mem_cons.1 hs with rfl | hs
    · exact p3 r hr (v, l) (by simp)
    · exact p3 r hr s (by simp [hs])
  · rcases List.mem_append.1 hr with hr | hr
    · exact h.room r (by simp [hr])
    · rcases List.mem_cons.1 hr with rfl | hr
      · have := h.room (v, l) (by simp); simpa [hl] using this
      · exact h.room r (by simp [hr])
/-- A block of another type is none of theirs. -/
theorem own_type {w : World} {base : Nat} {v : Value} {n : Nat} {xs : List Value} (h : w.ownsRow base 5 1 v n xs) {b : Nat} {cs : Array Value} {t : TypeId} (hb : Blk w b cs t) (ht : t ≠ 5) : v.ownBlock ≠ some b := by
  intro e
  rcases h.2 with ⟨h1, _⟩ | ⟨g, cap, cur, hv, _, hg, _⟩
  · rw [h1] at e; cases e
  · rw [hv] at e
    simp [Value.ownBlock] at e
    subst e
    have := hb.symm.trans hg
    simp at this
    exact ht this.2
def blocks (rows : List (Value × List Nat)) : List Nat := rows.filterMap fun r => r.1.ownBlock
instance : Inhabited (Value × List Nat) := ⟨(.slice none 0 0, [])⟩
theorem apart_pool {base : Nat} {w : World} {rows : List (Value × List Nat)} (h : Pool base w rows) (hbase : base ≤ w.heap.size) {m mc ab : Nat} (hm : m ≤ 4194304) (pi : Nat → Nat) (hpi : ∀ i, i < m → pi i < rows.length) (hinj : ∀ i j, i < m → j < m → i ≠ j → pi i ≠ pi j) {cs : Array Value} (hab : Blk w ab cs 22) (hcs : ∀ i, i < m → cs[i]? = some (rows.getD (pi i) default).1) :
    Calls Try.prog 14 #[.slice (some ⟨ab, 0, none⟩) m mc] w fun e w' => e = .returned (.bool true) ∧ Kept (blocks rows) w w' := by
  have e : ∀ k (hk : k < rows.length), rows.getD k default = rows[k] := fun k hk => by rw [List.getD, List.getElem?_eq_getElem hk]; rfl
  have hg : ∀ i, i < m → rows.getD (pi i) default ∈ rows := fun i hi => by rw [e _ (hpi i hi)]; exact List.getElem_mem _
  refine apart_any (V := fun i => (rows.getD (pi i) default).1) (N := fun i => (rows.getD (pi i) default).2.length) (base := base) ⟨hm, hab.lt, ?_, ?_, ?_, ?_, ?_, ?_⟩ hbase (fun i => (rows.getD (pi i) default).2.map fun x : Nat => (x : Int)) ?_
  · intro i hi
    rw [hab.cell]
    exact hcs i hi
  · intro i hi; have := h.room _ (hg i hi); omega
  · intro i j hi hj hij b h1 h2
    have h3 := e _ (hpi i hi)
    have h4 := e _ (hpi j hj)
    simp only [h3, h4] at h1 h2
    rcases Nat.lt_or_gt_of_ne (hinj i j hi hj hij) with h5 | h5
    · exact List.pairwise_iff_getElem.1 h.pw (pi i) (pi j) (hpi i hi) (hpi j hj) h5 b h1 h2
    · exact List.pairwise_iff_getElem.1 h.pw (pi j) (pi i) (hpi j hj) (hpi i hi) h5 b h2 h1
  · intro i hi b hb
    exact List.mem_filterMap.2 ⟨_, hg i hi, hb⟩
  · intro hmem
    obtain ⟨r, hr, hb⟩ := List.mem_filterMap.1 hmem
    exact own_type (h.own r hr) hab (by decide) hb
  · intro i hi b hb
    exact (h.lt (hg i hi) hb).2
  · intro i hi
    have := h.own _ (hg i hi)
    rw [show ∀ l : List Nat, u8s l = b8s (l.map fun x : Nat => (x : Int)) from fun l => by simp [u8s, b8s]] at this
    exact this

/-- Bytes turned. -/
def trn (P : List Nat) : List Nat := P.map fun x => x ^^^ 85
theorem trn_len (P : List Nat) : (trn P).length = P.length := by simp [trn]
theorem xor85 (x : Nat) (h : x < 256) : bits .xor .u8 (x : Int) 85 = ((x ^^^ 85 : Nat) : Int) := by
  have : ∀ m : Nat, m < 256 → bits .xor .u8 (m : Int) 85 = ((m ^^^ 85 : Nat) : Int) := by decide +kernel
  exact this x h
theorem trn_by {P : List Nat} (h : ∀ x ∈ P, x < 256) : ∀ x ∈ trn P, x < 256 := by
  intro x hx
  obtain ⟨y, hy, rfl⟩ := List.mem_map.1 hx
  have := h y hy
  exact Nat.xor_lt_two_pow (n := 8) this (by omega)
set_option maxRecDepth 100000 in
set_option maxHeartbeats 1000000 in
theorem turn_any {w : World} {base g cap n : Nat} {P : List Nat} (hb : ∀ x ∈ P, x < 256) (hl : n ≤ 140737488355328) (h : w.ownsRow base 5 1 (.slice (some ⟨g, 0, none⟩) n cap) n (u8s P)) :
    Calls Try.prog 12 #[.slice (some ⟨g, 0, none⟩) n cap] w fun e w' => e = .returned (.tuple #[]) ∧ w'.ownsRow base 5 1 (.slice (some ⟨g, 0, none⟩) n cap) n (u8s (trn P)) ∧ Kept [g] w w' := by
  have hPl : P.length = n := by have := h.1; rw [u8s_length] at this; omega
  have HPL := hide hPl
  have HB := hide hb
  have HO := hide h
  have conv : ∀ l : List Nat, u8s l = b8s (l.map fun x : Nat => (x : Int)) := fun l => by simp [u8s, b8s]
  have HCV := hide conv
  clear h hb hPl conv
  go_enter Try.func12, Try.ntmps12
  go_wp2
  go_loopw [2] (fun i wr => ∃ (k : Nat), k ≤ n ∧ i = .int .i64 k ∧ Hid (wr.ownsRow base 5 1 (.slice (some ⟨g, 0, none⟩) n cap) n (u8s (trn (P.take k) ++ P.drop k)) ∧ Kept [g] w wr)) (fun i _ => n - (intOf i).toNat)
  case atStart => exact ⟨0, by omega, rfl, hide ⟨by simpa [trn] using unhide HO, Kept.refl _ _⟩⟩
  case round =>
    clear HO
    obtain ⟨k, hk, rfl, HI⟩ := hrel
    by_cases hlt : k < n
    · have hkl : k < P.length := by rw [unhide HPL]; exact hlt
      have hx : P[k] < 256 := unhide HB _ (List.getElem_mem hkl)
      have ho := (unhide HI).1
      rw [unhide HCV] at ho
      have hc := ownI_cell ho (k := k) (by simp [trn]; omega)
      have hgd : ((trn (P.take k) ++ P.drop k).map fun x : Nat => (x : Int)).getD k 0 = ((P[k] : Nat) : Int) := by
        have e1 : (trn (P.take k)).length = k := by rw [trn_len]; simp; omega
        have e2 : (trn (P.take k) ++ P.drop k)[k]? = some P[k] := by
          rw [List.getElem?_append_right (by omega), e1, Nat.sub_self, List.getElem?_drop, Nat.add_zero]
          exact List.getElem?_eq_getElem hkl
        rw [List.getD, List.getElem?_map, e2]; rfl
      rw [hgd] at hc
      have hf := ownI_frozen ho k
      have hset := ownI_set ho k ((P[k] ^^^ 85 : Nat) : Int)
      have hlist : ((trn (P.take k) ++ P.drop k).map fun x : Nat => (x : Int)).set k ((P[k] ^^^ 85 : Nat) : Int) = (trn (P.take (k + 1)) ++ P.drop (k + 1)).map fun x : Nat => (x : Int) := by
        have e1 : (trn (P.take k)).length = k := by rw [trn_len]; simp; omega
        have e3 : P.drop k = P[k] :: P.drop (k + 1) := (List.getElem_cons_drop hkl).symm
        have e4 : trn (P.take (k + 1)) = trn (P.take k) ++ [P[k] ^^^ 85] := by rw [List.take_succ_eq_append_getElem hkl, trn, List.map_append]; rfl
        rw [e3, e4, List.map_append, List.set_append_right _ _ (by rw [List.length_map]; omega), List.length_map, e1, Nat.sub_self]
        simp only [List.map_cons, List.set_cons_zero, List.map_append, List.append_assoc, List.cons_append, List.nil_append]
      rw [hlist, ← unhide HCV] at hset
      have hxr := xor85 P[k] hx
      have HST := hide hset
      have HKI := hide (unhide HI).2
      clear ho hgd hset hlist HI
      generalize P[k] = x at *
      generalize hy : x ^^^ 85 = y at *
      clear hy
      go_wp2
      go_roundw
      case rel => exact ⟨k + 1, by omega, by go_num, hide ⟨unhide HST, (unhide HKI).setCell (Or.inl (by simp)) _⟩⟩
      case measure => simp [intOf]; omega
    · have hk2 : k = n := by omega
      subst hk2
      go_wp2
      go_end0
      have h9 := unhide HI
      rw [← unhide HPL, List.take_length, List.drop_length, List.append_nil] at h9
      rw [unhide HPL] at h9
      exact ⟨rfl, h9⟩

/-- 'append([]byte{}, x...)': a twin in new memory. -/
theorem wpList_twin8 {wx : World} {ops : Array Oper} {rest : List Oper} {o : Oper} {a : Act} {Q : Exit → Act → World → Prop} (hgd : o.guard = none) (s x : Operand)
    (ho : o.op = .call { callee := .builtin .append, args := #[s, x], argTypes := #[22, 22] })
    (hs : a.eval s = .slice (some ⟨wx.heap.size, 0, none⟩) 0 0) (xv : Value) (ys : List Nat) (hxv : a.eval x = xv) (hx : Sees wx xv ys) (L : Nat) (hL : ys.length = L) (hl : L ≤ 1000000000000)
    (h : ∀ a' c' w', w'.ownsRow wx.heap.size 5 1 (.slice a' L c') L (u8s ys) → Kept [] wx w' → wpList Try.prog ops Q rest (a.put o.dst (.slice a' L c')) w') :
    wpList Try.prog ops Q (o :: rest) a (wx.alloc (.cells #[] 5)) := by
  obtain ⟨i0, hi, hz0, hz1, hz2⟩ := info_parts Try.info5
  refine wpList_append_sees (wx.alloc (.cells #[] 5)) hgd s x 22 ho wx.heap.size 5 i0 (.int .u8 0) Try.underlying22 hi hz0 hz1 hz2 rfl _ [] hs (World.ownsRow_made wx #[] 0 (Nat.le_refl _) (Nat.zero_le _) rfl) xv ys hxv (sees_alloc _ hx) (by simp; omega) (by simp) ?_
  intro v' w' hown hg hat
  rw [List.nil_append, hL] at hown
  obtain ⟨a', c', hv⟩ := own_len hown
  subst hv
  exact h a' c' w' hown (((Kept.refl [] wx).alloc _).grown hg (fun k hk => by simp [Value.ownBlock] at hk; right; omega))

end Go.Proofs.Ytocmgfmfalaebab
