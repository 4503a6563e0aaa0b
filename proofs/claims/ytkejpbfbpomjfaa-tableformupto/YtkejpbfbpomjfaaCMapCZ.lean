/- The law's rows in memory; which key comes first. -/
import Derived.Test.YtkejpbfbpomjfaaCMapPZ
import Derived.Test.YtkejpbfbpomjfaaCPlcRZ
import Derived.Test.YtkejpbfbpomjfaaPkBL
namespace Go.Proofs.Ytkejpbfbpomjfaa.tre
open Go.RowKit
set_option linter.unusedVariables false

def mec (r : Me) : List Value := [r.ks, r.vs, .int .i64 r.rev]
def flatM (l : List Me) : List Value := l.flatMap mec
theorem flatM_app (l m : List Me) : flatM (l ++ m) = flatM l ++ flatM m := by simp [flatM]
theorem flatM_len (l : List Me) : (flatM l).length = l.length * 3 := by
  induction l with
  | nil => rfl
  | cons e l ih => simp only [flatM, List.flatMap_cons, List.length_append, List.length_cons] at *; simp [mec] at *; omega
theorem flatM_get : ∀ {l : List Me} {k j : Nat} {e : Me}, l[k]? = some e → j < 3 → (flatM l)[k * 3 + j]? = (mec e)[j]?
  | x :: l, 0, j, e, h, hj => by
    simp at h
    subst h
    have hf : flatM (x :: l) = mec x ++ flatM l := rfl
    rw [hf, Nat.zero_mul, Nat.zero_add, List.getElem?_append_left (by simp [mec]; omega)]
  | x :: l, k + 1, j, e, h, hj => by
    have hf : flatM (x :: l) = mec x ++ flatM l := rfl
    have hl : (mec x).length = 3 := rfl
    rw [hf, List.getElem?_append_right (by rw [hl]; omega), hl, show (k + 1) * 3 + j - 3 = k * 3 + j by omega]
    exact flatM_get (by simpa using h) hj
theorem flatM_set (l : List Me) {k : Nat} (hk : k < l.length) (x : Me) : flatM (l.set k x) = (((flatM l).set (k * 3) x.ks).set (k * 3 + 1) x.vs).set (k * 3 + 2) (.int .i64 x.rev) := by
  induction l generalizing k with
  | nil => simp at hk
  | cons y r ih =>
    cases k with
    | zero => rfl
    | succ k =>
      have h1 : flatM ((y :: r).set (k + 1) x) = mec y ++ flatM (r.set k x) := rfl
      rw [h1, ih (by simpa using hk)]
      show mec y ++ _ = List.set (List.set (List.set (_ :: _ :: _ :: flatM r) _ _) _ _) _ _
      rw [show (k + 1) * 3 = k * 3 + 1 + 1 + 1 by omega]
      rfl
theorem flatM_set2 (l : List Me) {k : Nat} {y : Me} (hk : l[k]? = some y) (x : Int) : flatM (l.set k { y with rev := x }) = (flatM l).set (k * 3 + 2) (.int .i64 x) := by
  have hl : k < l.length := (List.getElem?_eq_some_iff.1 hk).1
  have h0 : (flatM l)[k * 3 + 0]? = some y.ks := by rw [flatM_get hk (by omega)]; rfl
  have h1 : (flatM l)[k * 3 + 1]? = some y.vs := by rw [flatM_get hk (by omega)]; rfl
  rw [flatM_set l hl]
  simp only
  have e0 : (flatM l).set (k * 3) y.ks = flatM l := by
    refine List.ext_getElem? fun j => ?_
    rw [List.getElem?_set]
    split
    · rename_i e; subst e
      rw [Nat.add_zero] at h0
      rw [h0, if_pos (List.getElem?_eq_some_iff.1 h0).1]
    · rfl
  rw [e0]
  have e1 : (flatM l).set (k * 3 + 1) y.vs = flatM l := by
    refine List.ext_getElem? fun j => ?_
    rw [List.getElem?_set]
    split
    · rename_i e; subst e
      rw [h1, if_pos (List.getElem?_eq_some_iff.1 h1).1]
    · rfl
  rw [e1]
theorem own_set3 {w : World} {base g cap : Nat} {l : List Me} (h : w.ownsRow base 44 3 (.slice (some ⟨g, 0, none⟩) l.length cap) l.length (flatM l)) {k : Nat} (hk : k < l.length) (x : Me) :
    (((w.setCell ⟨g, k * 3, none⟩ x.ks).setCell ⟨g, k * 3 + 1, none⟩ x.vs).setCell ⟨g, k * 3 + 2, none⟩ (.int .i64 x.rev)).ownsRow base 44 3 (.slice (some ⟨g, 0, none⟩) (l.set k x).length cap) (l.set k x).length (flatM (l.set k x)) := by
  refine ⟨by rw [flatM_len], ?_⟩
  rcases h.2 with ⟨h0, _⟩ | ⟨g', cap', cur, hv, hg, hh, h1, h2, h3, h4⟩
  · cases h0
  · cases hv
    have hb : Blk w g cur 44 := hh
    have hb' := ((hb.set (k * 3) x.ks).set (k * 3 + 1) x.vs).set (k * 3 + 2) (.int .i64 x.rev)
    refine Or.inr ⟨g, cap, _, rfl, hg, hb', by simpa using h1, h2, by simpa using h3, ?_⟩
    rw [flatM_set l hk, ← h4]
    simp only [Array.toList_setIfInBounds, List.length_set, List.take_set]
theorem own_set1 {w : World} {base g cap : Nat} {l : List Me} (h : w.ownsRow base 44 3 (.slice (some ⟨g, 0, none⟩) l.length cap) l.length (flatM l)) {k : Nat} {y : Me} (hk : l[k]? = some y) (x : Int) :
    (w.setCell ⟨g, k * 3 + 2, none⟩ (.int .i64 x)).ownsRow base 44 3 (.slice (some ⟨g, 0, none⟩) (l.set k { y with rev := x }).length cap) (l.set k { y with rev := x }).length (flatM (l.set k { y with rev := x })) := by
  refine ⟨by rw [flatM_len], ?_⟩
  rcases h.2 with ⟨h0, _⟩ | ⟨g', cap', cur, hv, hg, hh, h1, h2, h3, h4⟩
  · cases h0
  · cases hv
    have hb : Blk w g cur 44 := hh
    have hb' := hb.set (k * 3 + 2) (.int .i64 x)
    refine Or.inr ⟨g, cap, _, rfl, hg, hb', by simpa using h1, h2, by simpa using h3, ?_⟩
    rw [flatM_set2 l hk, ← h4]
    simp only [Array.toList_setIfInBounds, List.length_set, List.take_set]
theorem own_frozen {w : World} {base g cap m n : Nat} {e : TypeId} {s : Nat} {xs : List Value} (h : w.ownsRow base e s (.slice (some ⟨g, 0, none⟩) m cap) n xs) (o : Nat) : w.frozen? ⟨g, o, none⟩ = false := by
  rcases h.2 with ⟨h0, _⟩ | ⟨g', cap', cur, hv, _, hh, _⟩
  · cases h0
  · cases hv
    exact Blk.frozen (cs := cur) (t := e) hh o
theorem mrow_at {X : World} {B n : Nat} {qa : Option Addr} {N qc : Nat} {R : List Me} (h : X.ownsRow B 44 3 (.slice qa N qc) n (flatM R)) {r : Nat} {a : Me} (hr : R[r]? = some a) : ∃ g, qa = some ⟨g, 0, none⟩ ∧ X.cell? ⟨g, r * 3, none⟩ = some a.ks ∧ X.cell? ⟨g, r * 3 + 1, none⟩ = some a.vs ∧ X.cell? ⟨g, r * 3 + 2, none⟩ = some (.int .i64 a.rev) := by
  have hfl : (flatM R)[r * 3 + 0]? = some a.ks := by rw [flatM_get hr (by omega)]; rfl
  rcases h.2 with ⟨e1, h0⟩ | ⟨g, cap, cur, e1, hb, hh, _⟩
  · exfalso
    have hlen := h.1
    rw [h0] at hlen
    simp at hlen
    rw [hlen] at hfl
    cases hfl
  · cases e1
    have hc : ∀ j u, j < 3 → (mec a)[j]? = some u → X.cell? ⟨g, r * 3 + j, none⟩ = some u := fun j u hj hu => by
      have := h.cells (g := g) rfl (r * 3 + j) u (by rw [flatM_get hr hj]; exact hu)
      rw [addN] at this
      simpa using this
    exact ⟨g, rfl, hc 0 _ (by omega) rfl, hc 1 _ (by omega) rfl, hc 2 _ (by omega) rfl⟩
/-- a row's lists as they came in -/
def MeP (w : World) (r : Me) : Prop := Wide w r.ks r.key ∧ Wide w r.vs r.val ∧ r.key.length ≤ 65 ∧ r.val.length ≤ 256
/-- a table and the law's rows -/
structure Mm (w X : World) (b : Nat) (T : Tb) (rv : Value) (R : List Me) : Prop where
  tab : Tab X b T
  r : X.ownsRow w.heap.size 44 3 rv R.length (flatM R)
  tx : ∀ r ∈ R, MeP w r
  kp : Kept [] w X
  hb : w.heap.size ≤ b
theorem Mm.kept {w X Y : World} {b : Nat} {T : Tb} {rv : Value} {R : List Me} (h : Mm w X b T rv R) (hk : Kept [] X Y) : Mm w Y b T rv R := ⟨h.tab.kept hk, own_kept h.r hk (by simp), h.tx, h.kp.step hk, h.hb⟩
theorem Mm.did {w X Y : World} {b : Nat} {T T' : Tb} {rv : Value} {R : List Me} (h : Mm w X b T rv R) (hk : Kept [b] X Y) (ht : Tab Y b T') : Mm w Y b T' rv R := by
  obtain ⟨q, hbb, -⟩ := h.tab
  have n1 := typed_ne h.r hbb (by decide)
  exact ⟨ht, own_kept h.r hk (fun k hv => by simp; rintro rfl; exact n1 hv), h.tx, h.kp.trans hk (by simp; exact h.hb), h.hb⟩
theorem Mm.moreR {w X Y : World} {b : Nat} {T : Tb} {rv rv' : Value} {R : List Me} (h : Mm w X b T rv R) {r : Me} (hr : MeP w r) (ho : Y.ownsRow w.heap.size 44 3 rv' (R.length + 1) (flatM R ++ mec r)) (hg : X.grownBy Y rv.ownBlock) : Mm w Y b T rv' (R ++ [r]) := by
  obtain ⟨F, hk, hF⟩ := grown_kept hg
  obtain ⟨q, hbb, hq⟩ := h.tab
  have n1 := typed_ne h.r hbb (by decide)
  have hbF : b ∉ F := fun hm => n1 (hF b hm)
  have hoff : Off X F := fun x hx cs => ⟨fun hb => typed_ne h.r hb (by decide) (hF x hx), fun hb => typed_ne h.r hb (by decide) (hF x hx)⟩
  refine ⟨Tab.keep ⟨q, hbb, hq⟩ hk hbF hoff, ?_, fun x hx => ?_, h.kp.trans hk (fun x hx => Or.inr (h.r.lt x (hF x hx)).1), h.hb⟩
  · rw [List.length_append, flatM_app]
    have : flatM [r] = mec r := by simp [flatM]
    rw [this]
    exact ho
  · rcases List.mem_append.1 hx with hx | hx
    · exact h.tx x hx
    · simp at hx; subst hx; exact hr
/-- the law's rows written over -/
theorem Mm.turn {w X Y : World} {b g cap : Nat} {T : Tb} {R R' : List Me} {n : Nat} (h : Mm w X b T (.slice (some ⟨g, 0, none⟩) n cap) R) (hk : Kept [g] X Y) (ho : Y.ownsRow w.heap.size 44 3 (.slice (some ⟨g, 0, none⟩) n cap) R'.length (flatM R')) (ht : ∀ r ∈ R', MeP w r) : Mm w Y b T (.slice (some ⟨g, 0, none⟩) n cap) R' := by
  obtain ⟨q, hbb, hq⟩ := h.tab
  have n1 := typed_ne h.r hbb (by decide)
  have hne : b ≠ g := fun e => n1 (by rw [e]; rfl)
  have hoff : Off X [g] := fun x hx cs => by
    simp at hx
    subst hx
    exact ⟨fun hb => typed_ne h.r hb (by decide) rfl, fun hb => typed_ne h.r hb (by decide) rfl⟩
  exact ⟨Tab.keep ⟨q, hbb, hq⟩ hk (by simpa using hne) hoff, ho, ht, h.kp.trans hk (by simp; exact (h.r.lt g rfl).1), h.hb⟩
/-- 'append(rows, row)' -/
theorem wpList_push_row {w X : World} {ops : Array Oper} {rest : List Oper} {o : Oper} {a : Act} {Q : Exit → Act → World → Prop} (hgd : o.guard = none) (s x : Operand)
    (ho : o.op = .call { callee := .builtin .append, args := #[s, x], argTypes := #[41, 41] })
    {va : Option Addr} {n vc : Nat} {l : List Me} (hs : a.eval s = .slice va n vc) (hown : Hid (X.ownsRow w.heap.size 44 3 (.slice va n vc) n (flatM l))) (e : Me) (h1k : e.ks.oneCell' = true) (h1v : e.vs.oneCell' = true) {g : Nat} (hxv : a.eval x = .slice (some ⟨g, 0, none⟩) 1 1) (hb : Hid (Blk X g (mec e).toArray 44)) (hn : n ≤ 1099511627776) (hsz : w.heap.size ≤ X.heap.size)
    (h : ∀ va' vc' Y, Hid (Y.ownsRow w.heap.size 44 3 (.slice va' (n + 1) vc') (n + 1) (flatM l ++ mec e) ∧ X.grownBy Y (Value.slice va n vc).ownBlock) → wpList Try.prog ops Q rest (a.put o.dst (.slice va' (n + 1) vc')) Y) :
    wpList Try.prog ops Q (o :: rest) a X := by
  obtain ⟨i0, hi, hz0, hz1, hz2⟩ := info_parts2 infoRow
  refine wpList_append_own_at X hgd s x 41 ho w.heap.size 44 i0 _ 3 56 Try.underlying41 hi hz0 hz1 hz2 rfl (by decide) _ n (flatM l) hs (unhide hown) ⟨g, 0, none⟩ 1 1 (mec e) hxv rfl (fun j u hj => ?_) (fun u hu => ?_) (by unfold maxLen; omega) (by omega) hsz ?_
  · rw [addN, Nat.zero_add, (unhide hb).cell]
    simpa using hj
  · simp [mec] at hu
    rcases hu with rfl | rfl | rfl
    · exact h1k
    · exact h1v
    · rfl
  · intro v' Y h1 h2 h3 h4
    obtain ⟨a', c', rfl⟩ := own_len h1
    exact h a' c' Y ⟨h1, h2⟩
/-- keys in their order -/
theorem bl_first : ∀ (x y : List UInt8) (k : Nat), (∀ j, j < k → x[j]? = y[j]?) → k ≤ x.length → k ≤ y.length → Op.bytesLess x y = Op.bytesLess (x.drop k) (y.drop k)
  | x, y, 0, _, _, _ => rfl
  | [], _, k + 1, _, h, _ => by simp at h
  | _ :: _, [], k + 1, _, _, h => by simp at h
  | a :: x, b :: y, k + 1, hj, h1, h2 => by
    have h0 := hj 0 (by omega)
    simp at h0
    subst h0
    rw [List.drop_succ_cons, List.drop_succ_cons, ← bl_first x y k (fun j hjk => by have := hj (j + 1) (by omega); simpa using this) (by simpa using h1) (by simpa using h2)]
    simp [Op.bytesLess, UInt8.lt_irrefl]
end Go.Proofs.Ytkejpbfbpomjfaa.tre
