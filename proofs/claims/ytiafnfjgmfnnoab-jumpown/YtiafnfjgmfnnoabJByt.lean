/- Slices of bytes as lists; the mark of parts; rows of bytes of the call's own. -/
import Derived.Test.YtiafnfjgmfnnoabJKit
import Derived.OwnWalk
import Derived.BigQuiet
namespace Go.Proofs.Ytiafnfjgmfnnoab
open Go.RowKit

/-- The slice v reads as the bytes bs. -/
def Sees (w : World) (v : Value) (bs : List Nat) : Prop :=
  ∃ a cap, v = .slice a bs.length cap ∧ bs.length ≤ cap ∧ cap ≤ maxLen ∧ (∀ b ∈ bs, b < 256) ∧
    (bs = [] ∨ ∃ b off, a = some ⟨b, off, none⟩ ∧ b < w.heap.size ∧ ∀ j, j < bs.length → w.cell? ⟨b, off + j, none⟩ = some (.int .u8 (bs.getD j 0 : Nat)))

theorem Sees.kept {F : List Nat} {w w' : World} {v : Value} {bs : List Nat} (h : Sees w v bs) (hk : Kept F w w') (hn : bs = [] ∨ ∀ k, v.ownBlock = some k → k ∉ F) : Sees w' v bs := by
  obtain ⟨a, cap, rfl, h1, h2, h3, h4⟩ := h
  refine ⟨a, cap, rfl, h1, h2, h3, ?_⟩
  rcases h4 with h4 | ⟨b, off, rfl, h5, h6⟩
  · exact Or.inl h4
  · rcases hn with hn | hn
    · exact Or.inl hn
    · refine Or.inr ⟨b, off, rfl, Nat.lt_of_lt_of_le h5 hk.size, fun j hj => ?_⟩
      rw [hk.cell (p := ⟨b, off + j, none⟩) h5 (hn b rfl)]
      exact h6 j hj

theorem Sees.nil (w : World) : Sees w (.slice none 0 0) [] := ⟨none, 0, rfl, by simp, by simp [maxLen], by simp, Or.inl rfl⟩

/-- a mark takes a byte; bytes -/
def mark1 (h b : Nat) : Nat := (h ^^^ b) * 1099511628211 % 18446744073709551616
def marks (h : Nat) (bs : List Nat) : Nat := bs.foldl mark1 h
theorem mark1_lt (h b : Nat) : mark1 h b < 18446744073709551616 := Nat.mod_lt _ (by omega)
theorem marks_nil (v : Nat) : marks v [] = v := rfl
theorem marks_cons (v b : Nat) (bs : List Nat) : marks v (b :: bs) = marks (mark1 v b) bs := rfl
theorem marks_append (v : Nat) (a b : List Nat) : marks v (a ++ b) = marks (marks v a) b := List.foldl_append ..
theorem marks_lt {v : Nat} (hv : v < 18446744073709551616) (bs : List Nat) : marks v bs < 18446744073709551616 := by
  induction bs generalizing v with
  | nil => rw [marks_nil]; exact hv
  | cons x bs ih => rw [marks_cons]; exact ih (mark1_lt _ _)
theorem marks_succ (v : Nat) (bs : List Nat) (k : Nat) (hk : k < bs.length) : marks v (bs.take (k + 1)) = mark1 (marks v (bs.take k)) (bs.getD k 0) := by
  rw [List.take_add_one, marks_append, List.getElem?_eq_getElem hk, List.getD, List.getElem?_eq_getElem hk, Option.toList_some, marks_cons, marks_nil, Option.getD_some]
def fnv0 : Nat := 14695981039346656037

/-- the slice v holds these slices, which read as these bytes -/
def Parts (w : World) (v : Value) (ps : List (Value × List Nat)) : Prop :=
  ∃ a cap, v = .slice a ps.length cap ∧ ps.length ≤ cap ∧ cap ≤ maxLen ∧ (∀ p ∈ ps, Sees w p.1 p.2) ∧
    (ps = [] ∨ ∃ b off, a = some ⟨b, off, none⟩ ∧ b < w.heap.size ∧ ∀ j p, ps[j]? = some p → w.cell? ⟨b, off + j, none⟩ = some p.1)
def catP (ps : List (Value × List Nat)) : List Nat := (ps.map (·.2)).flatten
theorem catP_succ (ps : List (Value × List Nat)) (k : Nat) (hk : k < ps.length) : catP (ps.take (k + 1)) = catP (ps.take k) ++ ps[k].2 := by
  unfold catP
  rw [List.take_add_one, List.getElem?_eq_getElem hk, Option.toList_some, List.map_append, List.flatten_append]
  simp only [List.map_cons, List.map_nil, List.flatten_cons, List.flatten_nil, List.append_nil]

theorem Parts.nil (w : World) : Parts w (.slice none 0 0) [] := ⟨none, 0, rfl, by simp, by simp [maxLen], by simp, Or.inl rfl⟩

theorem at_sees {w : World} {a : Option Addr} {L : Nat} {bs : List Nat} (hL : bs.length = L) (h : bs = [] ∨ ∃ b off, a = some ⟨b, off, none⟩ ∧ b < w.heap.size ∧ ∀ j, j < bs.length → w.cell? ⟨b, off + j, none⟩ = some (.int .u8 (bs.getD j 0 : Nat))) {k : Nat} (hk : k < L) :
    ∃ b off, a = some ⟨b, off, none⟩ ∧ w.cell? ⟨b, off + k, none⟩ = some (.int .u8 (bs.getD k 0 : Nat)) := by
  rcases h with h | ⟨b, off, h1, _, h3⟩
  · subst h; simp at hL; omega
  · exact ⟨b, off, h1, h3 k (by omega)⟩

theorem getD_lt {bs : List Nat} (h : ∀ b ∈ bs, b < 256) {k : Nat} (hk : k < bs.length) : bs.getD k 0 < 256 := by
  rw [List.getD, List.getElem?_eq_getElem hk]
  exact h _ (List.getElem_mem hk)

set_option maxRecDepth 100000 in
set_option maxHeartbeats 1000000 in
theorem fnv_any {w : World} {v : Value} {ps : List (Value × List Nat)} (hs : Parts w v ps) :
    Calls Try.prog 24 #[v] w fun e w' => e = .returned (.int .u64 (marks fnv0 (catP ps) : Nat)) ∧ w' = w := by
  obtain ⟨a, cap, rfl, h1, h2, h3, h4⟩ := hs
  have hml : ps.length ≤ 9223372036854775807 := by unfold maxLen at h2; omega
  have H3 := hide h3
  have H4 := hide h4
  clear h3 h4
  generalize hL : ps.length = L at *
  have HL := hide hL
  clear hL
  go_enter Try.func24, Try.ntmps24
  go_wp2_with fail
  go_loop [3, 10] (fun r i => ∃ k : Nat, k ≤ L ∧ i = .int .i64 k ∧ r = .int .u64 (marks fnv0 (catP (ps.take k)) : Nat)) (fun _ i => L - (intOf i).toNat)
  case atStart => exact ⟨0, by omega, rfl, rfl⟩
  case round =>
    obtain ⟨k, hk, rfl, rfl⟩ := hrel
    have hlt : marks fnv0 (catP (ps.take k)) < 18446744073709551616 := marks_lt (by unfold fnv0; omega) _
    by_cases hkl : k < L
    · have hk2 : k < ps.length := by rw [unhide HL]; exact hkl
      obtain ⟨b, off, hc⟩ : ∃ b off, a = some ⟨b, off, none⟩ ∧ w.cell? ⟨b, off + k, none⟩ = some (ps[k].1) := by
        rcases unhide H4 with h | ⟨b, off, q1, _, q3⟩
        · subst h; simp at hk2
        · exact ⟨b, off, q1, q3 k ps[k] (List.getElem?_eq_getElem hk2)⟩
      obtain ⟨rfl, hc⟩ := hc
      obtain ⟨pa, pc, hpv, g1, g2, g3, g4⟩ := unhide H3 ps[k] (List.getElem_mem hk2)
      rw [hpv] at hc
      have HE : Hid (marks fnv0 (catP (ps.take (k + 1))) = marks (marks fnv0 (catP (ps.take k))) ps[k].2) := by
        have := catP_succ ps k hk2
        unfold Hid
        rw [this, marks_append]
      clear hpv
      generalize ps[k].2 = bs at hc HE g1 g3 g4
      generalize hml2 : bs.length = M at hc g1
      have hM : M ≤ 9223372036854775807 := by unfold maxLen at g2; omega
      generalize marks fnv0 (catP (ps.take k)) = m0 at hlt HE
      have HM := hide hml2
      have G3 := hide g3
      have G4 := hide g4
      clear g3 g4 hml2
      go_wp2_with fail
      go_loop [3, 16] (fun r i => ∃ j : Nat, j ≤ M ∧ i = .int .i64 j ∧ r = .int .u64 (marks m0 (bs.take j) : Nat)) (fun _ i => M - (intOf i).toNat)
      case atStart => exact ⟨0, by omega, rfl, rfl⟩
      case round =>
        obtain ⟨j, hj, rfl, rfl⟩ := hrel
        have hl2 := marks_lt hlt (bs.take j)
        by_cases hjl : j < M
        · obtain ⟨pb, poff, rfl, hpc⟩ := at_sees (unhide HM) (unhide G4) hjl
          have hx := getD_lt (unhide G3) (show j < bs.length by rw [unhide HM]; exact hjl)
          have HS := hide (marks_succ m0 bs j (by rw [unhide HM]; exact hjl))
          generalize bs.getD j 0 = x at hpc hx HS
          generalize marks m0 (bs.take j) = r at hl2 HS
          have e1 := u64_xor_nat r x hl2 (by omega)
          have HS2 : Hid (marks m0 (bs.take (j + 1)) = (r ^^^ x) * 1099511628211 % 18446744073709551616) := by
            have := unhide HS
            unfold mark1 at this
            exact this
          clear HS
          generalize r ^^^ x = y at e1 HS2
          go_wp2
          exact ⟨⟨j + 1, by omega, by simp, by rw [unhide HS2]; exact congrArg (Value.int .u64) (wrap_mul y 1099511628211)⟩, by simp [intOf]; omega⟩
        · obtain rfl : j = M := by omega
          have hfull : bs.take j = bs := by rw [← unhide HM, List.take_length]
          rw [hfull]
          go_wp2
          exact ⟨⟨k + 1, by omega, by simp, by rw [unhide HE]⟩, by simp [intOf]; omega⟩
    · obtain rfl : k = L := by omega
      have hfull : ps.take k = ps := by rw [← unhide HL, List.take_length]
      rw [hfull]
      go_wp2
      go_ret
      exact ⟨rfl, rfl⟩

def u8s (l : List Nat) : List Value := l.map fun b : Nat => Value.int .u8 (b : Int)
theorem u8s_length (l : List Nat) : (u8s l).length = l.length := by simp [u8s]
theorem u8s_at (l : List Nat) {j : Nat} (hj : j < l.length) : (u8s l)[j]? = some (.int .u8 (l.getD j 0 : Nat)) := by
  simp [u8s, List.getElem?_eq_getElem hj]

theorem Sees.of_blk {w : World} {b : Nat} {t : TypeId} {bs : List Nat} {n : Nat} (hn : bs.length = n) (h : Blk w b (u8s bs).toArray t) (hb : ∀ x ∈ bs, x < 256) (cap : Nat) (h1 : n ≤ cap) (h2 : cap ≤ 9223372036854775807) :
    Sees w (.slice (some ⟨b, 0, none⟩) n cap) bs := by
  subst hn
  refine ⟨_, cap, rfl, h1, by unfold maxLen; omega, hb, Or.inr ⟨b, 0, rfl, h.lt, fun j hj => ?_⟩⟩
  rw [h.cell, Nat.zero_add]
  simpa using u8s_at bs hj

theorem u8s_append (l m : List Nat) : u8s (l ++ m) = u8s l ++ u8s m := by simp [u8s]
theorem u8s_one (l : List Nat) : ∀ u ∈ u8s l, u.oneCell' = true := by
  intro u hu; obtain ⟨_, _, rfl⟩ := List.mem_map.1 hu; rfl

theorem Sees.of_own {w : World} {base : Nat} {v : Value} {bs : List Nat} (h : w.ownsRow base 5 1 v bs.length (u8s bs)) (hb : ∀ x ∈ bs, x < 256) : Sees w v bs := by
  rcases h.2 with ⟨h1, h2⟩ | ⟨g, cap, cur, hv, hg0, hg, hc, hm, hs, ht⟩
  · have : bs = [] := List.eq_nil_of_length_eq_zero h2
    subst this
    rw [h1]; exact Sees.nil w
  · refine ⟨some ⟨g, 0, none⟩, cap, hv, hc, hm, hb, Or.inr ⟨g, 0, rfl, (Array.getElem?_eq_some_iff.1 hg).1, fun j hj => ?_⟩⟩
    have := h.cells (g := g) (by rw [hv]; rfl) j (.int .u8 (bs.getD j 0 : Nat)) (u8s_at bs hj)
    have hadd : (⟨g, 0, none⟩ : Addr).add j = ⟨g, j, none⟩ := by unfold Addr.add; split <;> simp_all
    rw [hadd] at this
    simpa using this

theorem own_nil (w : World) (base : Nat) : w.ownsRow base 5 1 (.slice none 0 0) ([] : List Nat).length (u8s []) := by
  refine ⟨by simp [u8s], Or.inl ⟨rfl, rfl⟩⟩

/-- 'append(dst, src...)' of bytes: dst is owned, src is any slice that reads as bytes. -/
theorem run_append_sees {P : Program} (w : World) (base : Nat) (t ty e : TypeId) (i : TypeInfo) (z : Value) (ht : P.underlying t = some (.slice e)) (hi : P.info? e = some i) (hz : i.zero = some z)
    (hsize : i.size = 1) (hby : i.bytes = 1) (hzs : z.cells.size = 1)
    (v : Value) (xs : List Nat) (hown : w.ownsRow base e 1 v xs.length (u8s xs)) (x : Value) (ys : List Nat) (hx : Sees w x ys)
    (h63 : xs.length + ys.length ≤ 140737488355328) (hbase : base ≤ w.heap.size) :
    ∃ v' w', (Builtin.append_ #[t, t] ty #[v, x]).run P w = .ok v' w' ∧ w'.ownsRow base e 1 v' (xs ++ ys).length (u8s (xs ++ ys)) ∧ w.grownBy w' v.ownBlock ∧ (v'.ownBlock = v.ownBlock ∨ v'.ownBlock = some w.heap.size) := by
  have hmx : xs.length + ys.length ≤ maxLen := by unfold maxLen; omega
  obtain ⟨a, cap, rfl, _, _, _, h⟩ := hx
  rcases h with rfl | ⟨b, off, rfl, _, hc⟩
  · refine ⟨v, w, ?_, by simpa using hown, ⟨rfl, rfl, rfl, Nat.le_refl _, fun _ _ _ => rfl⟩, Or.inl rfl⟩
    rcases hown.2 with ⟨rfl, h0⟩ | ⟨g, cap, cur, rfl, hbg, hg, hnc, hcm, hcs, htake⟩
    · cases a <;> simp [Builtin.append_, run_underlying ht, sizeOf, typeInfo, hi, Builtin.lenOf, Builtin.firstCells, loadCells, loadCellsFrom]
    · have : xs.length ≤ cap := hnc
      cases a <;> simp [Builtin.append_, run_underlying ht, sizeOf, typeInfo, hi, Builtin.lenOf, Builtin.firstCells, this, storeCells, loadCells, loadCellsFrom]
  · obtain ⟨v', w', hr, h2, h3, _, h5⟩ := run_append_own_at (P := P) w base t ty e i z 1 1 ht hi hz hsize hby hzs (by decide) v xs.length (u8s xs) hown ⟨b, off, none⟩ ys.length cap (u8s ys) (by simp [u8s]) (by
      intro j u hu
      have hj : j < ys.length := by
        have := (List.getElem?_eq_some_iff.1 hu).1; simpa [u8s] using this
      have hadd : (⟨b, off, none⟩ : Addr).add j = ⟨b, off + j, none⟩ := by unfold Addr.add; split <;> simp_all
      rw [hadd, hc j hj]
      simp [u8s, List.getElem?_eq_getElem hj] at hu
      rw [← hu]; simp [List.getElem?_eq_getElem hj]) (u8s_one ys) hmx (by omega) hbase
    refine ⟨v', w', hr, ?_, h3, h5⟩
    rw [u8s_append, List.length_append]; exact h2

theorem wpList_append_sees {P : Program} (w : World) {ops : Array Oper} {rest : List Oper} {o : Oper} {a : Act} {Q : Exit → Act → World → Prop} (hgd : o.guard = none) (s x : Operand) (t : TypeId)
    (ho : o.op = .call { callee := .builtin .append, args := #[s, x], argTypes := #[t, t] })
    (base : Nat) (e : TypeId) (i : TypeInfo) (z : Value) (ht : P.underlying t = some (.slice e)) (hi : P.info? e = some i) (hz : i.zero = some z)
    (hsize : i.size = 1) (hby : i.bytes = 1) (hzs : z.cells.size = 1)
    (v : Value) (xs : List Nat) (hs : a.eval s = v) (hown : w.ownsRow base e 1 v xs.length (u8s xs)) (xv : Value) (ys : List Nat) (hxv : a.eval x = xv) (hx : Sees w xv ys)
    (h63 : xs.length + ys.length ≤ 140737488355328) (hbase : base ≤ w.heap.size)
    (h : ∀ v' w', w'.ownsRow base e 1 v' (xs ++ ys).length (u8s (xs ++ ys)) → w.grownBy w' v.ownBlock → (v'.ownBlock = v.ownBlock ∨ v'.ownBlock = some w.heap.size) → wpList P ops Q rest (a.put o.dst v') w') :
    wpList P ops Q (o :: rest) a w := by
  refine wpList_plain hgd fun K hK => ?_
  obtain ⟨v', w', hr, h2, h3, h4⟩ := run_append_sees (P := P) w base t o.type e i z ht hi hz hsize hby hzs v xs hown xv ys hx h63 hbase
  unfold Oper.wp execOp
  simp only [ho, resolve, invoke, builtin, Sem.run_bind, Sem.run_pure, Result.andThen_ok, List.map_toArray, List.map_cons, List.map_nil, hs, hxv, hr]
  exact hK _ _ (h v' w' h2 h3 h4)

theorem info5p : (Try.prog.info? 5).map (fun i => (i.zero, i.size, i.bytes)) = some (some (.int .u8 0), 1, 1) := by kernel_rfl

theorem row_of_own {w : World} {base n : Nat} {v : Value} {bs : List Nat} (h : w.ownsRow base 5 1 v n (u8s bs)) (hn : 0 < n) :
    ∃ g cap, v = .slice (some ⟨g, 0, none⟩) n cap ∧ base ≤ g ∧ g < w.heap.size ∧ n ≤ cap ∧ cap ≤ maxLen := by
  rcases h.2 with ⟨_, h2⟩ | ⟨g, cap, cur, hv, hb, hg, hc, hm, _⟩
  · omega
  · exact ⟨g, cap, hv, hb, (Array.getElem?_eq_some_iff.1 hg).1, hc, hm⟩

theorem own_cell {w : World} {base n g cap : Nat} {bs : List Nat} (h : w.ownsRow base 5 1 (.slice (some ⟨g, 0, none⟩) n cap) n (u8s bs)) {k : Nat} (hk : k < bs.length) :
    w.cell? ⟨g, k, none⟩ = some (.int .u8 (bs.getD k 0 : Nat)) := by
  have := h.cells (g := g) rfl k (.int .u8 (bs.getD k 0 : Nat)) (u8s_at bs hk)
  have hadd : (⟨g, 0, none⟩ : Addr).add k = ⟨g, k, none⟩ := by unfold Addr.add; split <;> simp_all
  rw [hadd] at this
  simpa using this

theorem own_frozen {w : World} {base n g cap : Nat} {xs : List Value} (h : w.ownsRow base 5 1 (.slice (some ⟨g, 0, none⟩) n cap) n xs) (k : Nat) : w.frozen? ⟨g, k, none⟩ = false := by
  rcases h.2 with ⟨h1, _⟩ | ⟨g', cap', cur, hv, hb, hg, _⟩
  · cases h1
  · cases hv
    exact Blk.frozen hg k

theorem u8s_set (bs : List Nat) (k y : Nat) : u8s (bs.set k y) = (u8s bs).set k (.int .u8 (y : Int)) := by
  simp [u8s, List.map_set]

theorem own_set {w : World} {base n g cap : Nat} {bs : List Nat} (h : w.ownsRow base 5 1 (.slice (some ⟨g, 0, none⟩) n cap) n (u8s bs)) (k y : Nat) :
    (w.setCell ⟨g, k, none⟩ (.int .u8 (y : Int))).ownsRow base 5 1 (.slice (some ⟨g, 0, none⟩) n cap) n (u8s (bs.set k y)) := by
  refine ⟨by rw [u8s_length, List.length_set, ← u8s_length]; exact h.1, ?_⟩
  rcases h.2 with ⟨h1, _⟩ | ⟨g', cap', cur, hv, hb, hg, hc, hm, hs, ht⟩
  · cases h1
  · cases hv
    refine Or.inr ⟨g, cap, cur.setIfInBounds k (.int .u8 (y : Int)), rfl, hb, Blk.set hg k _, hc, hm, by simpa using hs, ?_⟩
    rw [u8s_set, ← ht]
    rw [Array.toList_setIfInBounds, List.take_set]

theorem own_len_eq {w : World} {base n : Nat} {v : Value} {bs : List Nat} (h : w.ownsRow base 5 1 v n (u8s bs)) : bs.length = n := by
  have := h.1
  rw [u8s_length] at this
  omega

theorem set_bytes {bs : List Nat} (h : ∀ b ∈ bs, b < 256) {k y : Nat} (hy : y < 256) : ∀ b ∈ bs.set k y, b < 256 := by
  intro b hb
  rcases List.mem_or_eq_of_mem_set hb with h1 | h1
  · exact h b h1
  · omega
end Go.Proofs.Ytiafnfjgmfnnoab
