/- The document's sketch: entries of four cells; New, Count, Size; appends of entries. -/
import Derived.Test.YtgiifedljebclaaRKit
import Derived.Maps.AppendAt
namespace Go.Proofs.Ytgiifedljebclaa.ref
open Go.RowKit

abbrev Wc := Nat × Int
def gtC (a b : Wc) : Bool := decide (b.2 < a.2)
theorem behindC : Behind gtC := ⟨fun a b c h1 h2 => by simp [gtC] at *; omega, fun a b h => by simp [gtC] at *; omega⟩
def ecells (e : En Wc) : List Value := [.int .i64 (e.v.1 : Int), .int .i64 e.v.2, .int .i64 (e.g : Int), .int .i64 (e.d : Int)]
def flatR (es : List (En Wc)) : List Value := es.flatMap ecells
theorem flatR_cons (e : En Wc) (es : List (En Wc)) : flatR (e :: es) = .int .i64 (e.v.1 : Int) :: .int .i64 e.v.2 :: .int .i64 (e.g : Int) :: .int .i64 (e.d : Int) :: flatR es := rfl
theorem flatR_len (es : List (En Wc)) : (flatR es).length = es.length * 4 := by
  induction es with
  | nil => rfl
  | cons e es ih => rw [flatR_cons]; simp [ih]; omega
theorem flatR_app (a b : List (En Wc)) : flatR (a ++ b) = flatR a ++ flatR b := by simp [flatR]
theorem flatR_take (es : List (En Wc)) (i : Nat) (hi : i ≤ es.length) : (flatR es).take (i * 4) = flatR (es.take i) := by
  conv => lhs; rw [← List.take_append_drop i es, flatR_app]
  rw [List.take_append_of_le_length (by rw [flatR_len, List.length_take]; omega), List.take_of_length_le (by rw [flatR_len, List.length_take]; omega)]
theorem flatR_drop (es : List (En Wc)) (i : Nat) (hi : i ≤ es.length) : (flatR es).drop (i * 4) = flatR (es.drop i) := by
  conv => lhs; rw [← List.take_append_drop i es, flatR_app]
  rw [List.drop_append_of_le_length (by rw [flatR_len, List.length_take]; omega), List.drop_of_length_le (by rw [flatR_len, List.length_take]; omega), List.nil_append]
theorem flatR_at {es : List (En Wc)} {i : Nat} {e : En Wc} (h : es[i]? = some e) : (flatR es)[i * 4]? = some (.int .i64 (e.v.1 : Int)) ∧ (flatR es)[i * 4 + 1]? = some (.int .i64 e.v.2) ∧ (flatR es)[i * 4 + 2]? = some (.int .i64 (e.g : Int)) ∧ (flatR es)[i * 4 + 3]? = some (.int .i64 (e.d : Int)) := by
  induction es generalizing i with
  | nil => simp at h
  | cons x es ih =>
    cases i with
    | zero => simp at h; subst h; simp [flatR_cons]
    | succ i =>
      have := ih (by simpa using h)
      rw [flatR_cons, show (i + 1) * 4 = i * 4 + 1 + 1 + 1 + 1 by omega]
      simpa using this
theorem oneR (es : List (En Wc)) : ∀ u ∈ flatR es, u.oneCell' = true := by
  intro u hu
  obtain ⟨e, _, he⟩ := List.mem_flatMap.1 hu
  simp [ecells] at he
  rcases he with rfl | rfl | rfl | rfl <;> rfl
theorem infoR : (Try.prog.info? 85).map (fun i => (i.zero, i.size, i.bytes)) = some (some (.agg #[.int .i64 0, .int .i64 0, .int .i64 0, .int .i64 0]), 4, 32) := by kernel_rfl

/-- a slice that reads as these entries -/
def Reads (w : World) (v : Value) (es : List (En Wc)) : Prop :=
  ∃ a cap, v = .slice a es.length cap ∧ es.length ≤ cap ∧ (es = [] ∨ ∃ g off, a = some ⟨g, off, none⟩ ∧ g < w.heap.size ∧ ∀ j u, (flatR es)[j]? = some u → w.cell? ⟨g, off + j, none⟩ = some u)
theorem Reads.keep {F : List Nat} {w w' : World} {v : Value} {es : List (En Wc)} (h : Reads w v es) (hk : Kept F w w') (hn : ∀ k, v.ownBlock = some k → k ∉ F) : Reads w' v es := by
  obtain ⟨a, cap, rfl, h1, h2⟩ := h
  refine ⟨a, cap, rfl, h1, ?_⟩
  rcases h2 with h2 | ⟨g, off, rfl, hg, hc⟩
  · exact Or.inl h2
  · exact Or.inr ⟨g, off, rfl, Nat.lt_of_lt_of_le hg hk.size, fun j u hj => (hk.cell (p := ⟨g, off + j, none⟩) hg (hn g rfl)).trans (hc j u hj)⟩

/-- 'append(dst, src...)' of entries: dst is owned, src reads as entries -/
theorem run_app {w : World} (base : Nat) (ty : TypeId) (v : Value) (xs : List (En Wc)) (hown : w.ownsRow base 85 4 v xs.length (flatR xs)) (x : Value) (ys : List (En Wc)) (hx : Reads w x ys)
    (h63 : xs.length + ys.length ≤ 1099511627776) (hbase : base ≤ w.heap.size) :
    ∃ v' w', (Builtin.append_ #[76, 76] ty #[v, x]).run Try.prog w = .ok v' w' ∧ w'.ownsRow base 85 4 v' (xs ++ ys).length (flatR (xs ++ ys)) ∧ w.grownBy w' v.ownBlock ∧ (v'.ownBlock = v.ownBlock ∨ v'.ownBlock = some w.heap.size) := by
  obtain ⟨i0, hi, hz0, hz1, hz2⟩ := info_parts infoR
  obtain ⟨a, cap, rfl, hcap, h⟩ := hx
  rcases h with rfl | ⟨b, off, rfl, _, hc⟩
  · refine ⟨v, w, ?_, by simpa using hown, ⟨rfl, rfl, rfl, Nat.le_refl _, fun _ _ _ => rfl⟩, Or.inl rfl⟩
    rcases hown.2 with ⟨rfl, h0⟩ | ⟨g, cap, cur, rfl, hbg, hg, hnc, hcm, hcs, htake⟩
    · cases a <;> simp [Builtin.append_, run_underlying Try.underlying76, sizeOf, typeInfo, hi, Builtin.lenOf, Builtin.firstCells, loadCells, loadCellsFrom]
    · have : xs.length ≤ cap := hnc
      cases a <;> simp [Builtin.append_, run_underlying Try.underlying76, sizeOf, typeInfo, hi, Builtin.lenOf, Builtin.firstCells, this, storeCells, loadCells, loadCellsFrom]
  · obtain ⟨v', w', hr, h2, h3, _, h5⟩ := run_append_own_at (P := Try.prog) w base 76 ty 85 i0 _ 4 32 Try.underlying76 hi hz0 hz1 hz2 rfl (by decide) v xs.length (flatR xs) hown ⟨b, off, none⟩ ys.length cap (flatR ys) (flatR_len ys) (fun j u hu => by
      have hadd : (⟨b, off, none⟩ : Addr).add j = ⟨b, off + j, none⟩ := by unfold Addr.add; split <;> simp_all
      rw [hadd]; exact hc j u hu) (oneR ys) (by unfold maxLen; omega) (by omega) hbase
    refine ⟨v', w', hr, ?_, h3, h5⟩
    rw [flatR_app, List.length_append]; exact h2

theorem wpList_app {w0 : World} (w : World) {ops : Array Oper} {rest : List Oper} {o : Oper} {a : Act} {Q : Exit → Act → World → Prop} (hgd : o.guard = none) (s x : Operand)
    (ho : o.op = .call { callee := .builtin .append, args := #[s, x], argTypes := #[76, 76] })
    {va : Option Addr} {vn vc : Nat} {xs ys : List (En Wc)} (hs : a.eval s = .slice va vn vc) {F : List Nat} (hk : Hid (Kept F w0 w)) (hown : Hid (w.ownsRow w0.heap.size 85 4 (.slice va vn vc) vn (flatR xs))) (hvn : Hid (xs.length = vn)) {xv : Value} (hxv : a.eval x = xv) (hx : Hid (Reads w xv ys))
    (N : Nat) (hN : Hid (vn + ys.length = N)) (hl : Hid (N ≤ 1099511627776))
    (h : ∀ va' vc' w', Hid (w'.ownsRow w0.heap.size 85 4 (.slice va' N vc') N (flatR (xs ++ ys))) → Hid (Kept F w0 w') → Hid (w.grownBy w' (Value.slice va vn vc).ownBlock) → wpList Try.prog ops Q rest (a.put o.dst (.slice va' N vc')) w') :
    wpList Try.prog ops Q (o :: rest) a w := by
  have hvn' : xs.length = vn := hvn
  have hN' : vn + ys.length = N := hN
  have hl' : N ≤ 1099511627776 := hl
  have hown' : w.ownsRow w0.heap.size 85 4 (.slice va vn vc) vn (flatR xs) := hown
  have hk' : Kept F w0 w := hk
  obtain ⟨v', w', hr, h1, h3, h4⟩ := run_app (w := w) w0.heap.size o.type (.slice va vn vc) xs (by rw [hvn']; exact hown') xv ys hx (by omega) hk'.size
  have hlen : (xs ++ ys).length = N := by rw [List.length_append]; omega
  rw [hlen] at h1
  obtain ⟨a', c', rfl⟩ := own_len h1
  refine wpList_plain hgd fun K hK => ?_
  unfold Oper.wp execOp
  simp only [ho, resolve, invoke, builtin, Sem.run_bind, Sem.run_pure, Result.andThen_ok, List.map_toArray, List.map_cons, List.map_nil, hs, hxv, hr]
  exact hK _ _ (h a' c' w' h1 (hk'.grown h3 (fun k hkk => Or.inr (hown'.lt k hkk).1)) h3)

/-- the document's sketch in memory -/
structure Rf (w : World) (b inv n : Nat) (es : List (En Wc)) (v : Value) : Prop where
  blk : Blk w b #[.int .i64 (inv : Int), .int .i64 (n : Int), v] 78
  row : w.ownsRow 0 85 4 v es.length (flatR es)
theorem Rf.keep {w w' : World} {b inv n : Nat} {es : List (En Wc)} {v : Value} {F : List Nat} (h : Rf w b inv n es v) (hk : Kept F w w') (hb : b ∉ F) (hv : ∀ k, v.ownBlock = some k → k ∉ F) : Rf w' b inv n es v := ⟨h.blk.kept hk hb, own_kept h.row hk hv⟩
theorem blk_type {w : World} {b : Nat} {c d : Array Value} {t u : TypeId} (h : Blk w b c t) (k : Blk w b d u) : t = u := by
  unfold Blk at h k; rw [h] at k; cases k; rfl
theorem own_weak {w : World} {base e s n : Nat} {v : Value} {xs : List Value} (h : w.ownsRow base e s v n xs) : w.ownsRow 0 e s v n xs := by
  refine ⟨h.1, ?_⟩
  rcases h.2 with h2 | ⟨g, cap, cur, hv, _, r⟩
  · exact Or.inl h2
  · exact Or.inr ⟨g, cap, cur, hv, Nat.zero_le _, r⟩
theorem Rf.apart {w : World} {b inv n : Nat} {es : List (En Wc)} {v : Value} (h : Rf w b inv n es v) {c : Nat} {cs : Array Value} (hc : Blk w c cs 78) : v.ownBlock ≠ some c := by
  intro he
  rcases h.row.2 with ⟨h1, _⟩ | ⟨g, cap, cur, hv, _, hg, _⟩
  · rw [h1] at he; cases he
  · rw [hv] at he; cases he
    exact absurd (blk_type hg hc) (by decide)
theorem Reads.of_own {w : World} {base : Nat} {v : Value} {es : List (En Wc)} (h : w.ownsRow base 85 4 v es.length (flatR es)) : Reads w v es := by
  rcases h.2 with ⟨h1, h2⟩ | ⟨g, cap, cur, hv, _, hg, hc, _⟩
  · exact ⟨none, 0, by rw [h1, h2], by omega, Or.inl (List.eq_nil_of_length_eq_zero h2)⟩
  · refine ⟨_, cap, hv, hc, Or.inr ⟨g, 0, rfl, (Array.getElem?_eq_some_iff.1 hg).1, fun j u hj => ?_⟩⟩
    have := h.cells (g := g) (by rw [hv]; rfl) j u hj
    have hadd : (⟨g, 0, none⟩ : Addr).add j = ⟨g, j, none⟩ := by unfold Addr.add; split <;> simp_all
    rw [hadd] at this
    rwa [Nat.zero_add]
/-- parts of a row -/
theorem reads_take {w : World} {base g L cap : Nat} {es : List (En Wc)} (hL : es.length = L) (h : w.ownsRow base 85 4 (.slice (some ⟨g, 0, none⟩) L cap) L (flatR es)) (i : Nat) (hi : i ≤ L) : Reads w (.slice (some ⟨g, 0, none⟩) i cap) (es.take i) := by
  have hl : (es.take i).length = i := by simp; omega
  rw [← hL] at h
  obtain ⟨a, c, hv, hc, hh⟩ := Reads.of_own h
  cases hv
  refine ⟨_, cap, by rw [hl], by omega, ?_⟩
  rcases hh with rfl | ⟨g', off, ha, hg, hcs⟩
  · exact Or.inl (by simp)
  · cases ha
    refine Or.inr ⟨g, 0, rfl, hg, fun j u hj => hcs j u ?_⟩
    rw [← flatR_take es i (by omega), List.getElem?_take] at hj
    split at hj
    · exact hj
    · cases hj
theorem reads_drop {w : World} {base g L cap c2 : Nat} {es : List (En Wc)} (hL : es.length = L) (h : w.ownsRow base 85 4 (.slice (some ⟨g, 0, none⟩) L cap) L (flatR es)) (i : Nat) (hi : i < L) (hc2 : L - i ≤ c2) : Reads w (.slice (some ⟨g, i * 4, none⟩) (L - i) c2) (es.drop i) := by
  have hl : (es.drop i).length = L - i := by simp; omega
  rw [← hL] at h
  obtain ⟨a, c, hv, hc, hh⟩ := Reads.of_own h
  cases hv
  refine ⟨_, c2, by rw [hl], by omega, ?_⟩
  rcases hh with rfl | ⟨g', off, ha, hg, hcs⟩
  · exact Or.inl (by simp)
  · cases ha
    refine Or.inr ⟨g, i * 4, rfl, hg, fun j u hj => ?_⟩
    rw [← flatR_drop es i (by omega), List.getElem?_drop] at hj
    have := hcs _ u hj
    rwa [Nat.zero_add] at this
theorem reads_none {w : World} (a : Option Addr) (c : Nat) : Reads w (.slice a 0 c) [] := ⟨a, c, rfl, by simp, Or.inl rfl⟩

set_option maxRecDepth 100000 in
theorem rnew_no {w : World} {inv : Int} (h : inv < 2 ∨ 1024 < inv) : Calls Try.prog 10 #[.int .i64 inv] w fun x w' => x = .returned (.pointer none) ∧ w' = w := by
  rcases h with h | h
  · go_enter Try.func10, Try.ntmps10
    go_wp2
    go_ret
    exact ⟨rfl, rfl⟩
  · have t : ¬ inv < 2 := by omega
    go_enter Try.func10, Try.ntmps10
    go_wp2
    go_ret
    exact ⟨rfl, rfl⟩
set_option maxRecDepth 100000 in
theorem rnew_yes {w : World} {inv : Nat} (h2 : 2 ≤ inv) (hi : inv ≤ 1024) : Calls Try.prog 10 #[.int .i64 (inv : Int)] w fun x w' => x = .returned (.pointer (some ⟨w.heap.size, 0, none⟩)) ∧ Rf w' w.heap.size inv 0 [] (.slice none 0 0) ∧ Kept [] w w' := by
  go_enter Try.func10, Try.ntmps10
  go_wp2
  go_ret
  exact ⟨rfl, ⟨Blk.new w _ _, World.ownsRow_nil _ _ _ _⟩, (Kept.refl _ _).alloc _⟩
set_option maxRecDepth 100000 in
theorem rcount_any {w : World} {b inv n : Nat} {es : List (En Wc)} {v : Value} (hs : Rf w b inv n es v) : Calls Try.prog 13 #[.pointer (some ⟨b, 0, none⟩)] w fun e w' => e = .returned (.int .i64 (n : Int)) ∧ w' = w := by
  have c1 := hs.blk.cell 1
  simp at c1
  clear hs
  go_enter Try.func13, Try.ntmps13
  go_wp2
  go_ret
  exact ⟨rfl, rfl⟩
set_option maxRecDepth 100000 in
theorem rsize_any {w : World} {b inv n : Nat} {es : List (En Wc)} {v : Value} (hs : Rf w b inv n es v) : Calls Try.prog 15 #[.pointer (some ⟨b, 0, none⟩)] w fun e w' => e = .returned (.int .i64 (es.length : Int)) ∧ w' = w := by
  obtain ⟨a, cap, rfl⟩ := own_len hs.row
  have c2 := hs.blk.cell 2
  simp at c2
  clear hs
  go_enter Try.func15, Try.ntmps15
  go_wp2
  go_ret
  exact ⟨rfl, rfl⟩
set_option maxRecDepth 100000 in
theorem radd_nil {w : World} (x : Value) : Calls Try.prog 18 #[.pointer none, x] w fun e w' => e = .returned (.int .i64 1) ∧ w' = w := by
  go_enter Try.func18, Try.ntmps18
  go_wp2
  go_ret
  exact ⟨rfl, rfl⟩
end Go.Proofs.Ytgiifedljebclaa.ref
