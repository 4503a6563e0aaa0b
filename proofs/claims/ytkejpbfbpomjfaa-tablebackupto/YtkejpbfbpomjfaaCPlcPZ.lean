/- An answer has its place among the writes: the plain part, and rows of ops and answers. -/
import Derived.Test.YtkejpbfbpomjfaaCAppZ
import Derived.Test.YtkejpbfbpomjfaaCAwkZ
import Derived.Test.YtkejpbfbpomjfaaCSwPZ
namespace Go.Proofs.Ytkejpbfbpomjfaa.tre
open Go.RowKit

theorem mkT_rev (a : List Opm) : (mkT a).rev ≤ a.length := by have := fold_rev a ⟨.nil, 0⟩; unfold mkT; simpa using this
theorem read_nxt {T : Tb} {o : Opm} (h : wrs o = false) : nxt T o = T := by
  have hk : o.kind = 1 ∨ o.kind = 5 := by unfold wrs at h; simp at h; omega
  have h1 : ¬ (o.kind = 2 ∨ o.kind = 4) := by omega
  have h2 : ¬ o.kind = 3 := by omega
  unfold nxt rvn chg
  rw [h, if_neg h1, if_neg h2]
  simp
theorem read_rvn {T : Tb} {o : Opm} (h : wrs o = false) : rvn T o = T.rev := by unfold rvn; rw [h]; rfl
theorem write_rvn {T : Tb} {o : Opm} (h : wrs o = true) : rvn T o = T.rev + 1 := by unfold rvn; rw [h]; rfl
theorem snoc_mk (D : List Opm) (o : Opm) : mkT (D ++ [o]) = stp (mkT D) o := by unfold mkT; rw [List.foldl_append]; rfl
theorem rfs_no {T : Tb} {o : Opm} (hr : T.rev < 1099511627776) (h : rfs T o ≠ 0) : rfs T o = 131 ∧ rgt o = false := by
  unfold rfs at h ⊢
  cases hg : rgt o with
  | false => simp
  | true =>
    exfalso
    rw [hg] at h
    apply h
    simp
    intro _
    omega
theorem rfs_yes {T : Tb} {o : Opm} (h : rfs T o = 0) : rgt o = true := by
  unfold rfs at h
  cases hg : rgt o with
  | true => rfl
  | false => rw [hg] at h; simp at h
theorem rgt_wrs {o : Opm} (h : rgt o = true) : decide (o.kind = 2 ∨ o.kind = 3 ∨ o.kind = 4) = wrs o := by
  unfold rgt at h
  unfold wrs
  rw [decide_eq_decide]
  split at h
  · omega
  · split at h
    · omega
    · split at h
      · omega
      · split at h
        · omega
        · cases h
/-- what was asked, on which table; the writes so far -/
structure PlI (T : Tb) (D : List Opm) (Q : List (Tb × Opm)) : Prop where
  t : T = mkT D
  rev : T.rev = D.length
  q : ∀ x ∈ Q, ∃ m, m ≤ D.length ∧ x.1 = mkT (D.take m) ∧ x.1.rev = m ∧ rfs x.1 x.2 = 0 ∧ rvn x.1 x.2 ≤ D.length
  nn : Q = [] → D = []
theorem PlI.write {T : Tb} {D : List Opm} {Q : List (Tb × Opm)} (h : PlI T D Q) {o : Opm} (hr : rfs T o = 0) (hw : wrs o = true) : PlI (nxt T o) (D ++ [o]) (Q ++ [(T, o)]) := by
  refine ⟨?_, ?_, fun x hx => ?_, fun hq => by simp at hq⟩
  · rw [snoc_mk, ← h.t]; unfold stp; rw [if_pos hr]
  · show rvn T o = _
    rw [write_rvn hw, h.rev, List.length_append]; rfl
  · rcases List.mem_append.1 hx with hx | hx
    · obtain ⟨m, h1, h2, h3, h4, h5⟩ := h.q x hx
      exact ⟨m, by rw [List.length_append]; omega, by rw [List.take_append_of_le_length h1]; exact h2, h3, h4, by rw [List.length_append]; omega⟩
    · rw [List.mem_singleton] at hx
      subst hx
      exact ⟨D.length, by rw [List.length_append]; omega, by rw [List.take_append_of_le_length (Nat.le_refl _), List.take_length]; exact h.t, h.rev, hr, by simp only; rw [write_rvn hw, h.rev, List.length_append]; simp⟩
theorem PlI.read {T : Tb} {D : List Opm} {Q : List (Tb × Opm)} (h : PlI T D Q) {o : Opm} (hr : rfs T o = 0) (hw : wrs o = false) : PlI (nxt T o) D (Q ++ [(T, o)]) := by
  refine ⟨by rw [read_nxt hw]; exact h.t, by rw [read_nxt hw]; exact h.rev, fun x hx => ?_, fun hq => by simp at hq⟩
  rcases List.mem_append.1 hx with hx | hx
  · exact h.q x hx
  · rw [List.mem_singleton] at hx
    subst hx
    exact ⟨D.length, Nat.le_refl _, by rw [List.take_length]; exact h.t, h.rev, hr, by simp only; rw [read_rvn hw, h.rev]; exact Nat.le_refl _⟩
/-- an answer with its lists -/
structure Ae where
  T : Tb
  o : Opm
  ks : Value
  vs : Value
def akey (T : Tb) (o : Opm) : List Nat := if (fnd T o).isSome then byts (fk (fnd T o)) else []
def aval (T : Tb) (o : Opm) : List Nat := if (fnd T o).isSome then byts (fv (fnd T o)).1 else []
def arev (T : Tb) (o : Opm) : Int := if (fnd T o).isSome then (fv (fnd T o)).2 else 0
def aec (a : Ae) : List Value := [.bool (dn a.T a.o), a.ks, a.vs, .int .i64 (arev a.T a.o), .int .i64 (rvn a.T a.o : Int)]
def flatA (l : List Ae) : List Value := l.flatMap aec
theorem flatA_app (l m : List Ae) : flatA (l ++ m) = flatA l ++ flatA m := by simp [flatA]
theorem flatA_get : ∀ {l : List Ae} {k j : Nat} {e : Ae}, l[k]? = some e → j < 5 → (flatA l)[k * 5 + j]? = (aec e)[j]?
  | x :: l, 0, j, e, h, hj => by
    simp at h
    subst h
    have hf : flatA (x :: l) = aec x ++ flatA l := rfl
    rw [hf, Nat.zero_mul, Nat.zero_add, List.getElem?_append_left (by simp [aec]; omega)]
  | x :: l, k + 1, j, e, h, hj => by
    have hf : flatA (x :: l) = aec x ++ flatA l := rfl
    have hl : (aec x).length = 5 := rfl
    rw [hf, List.getElem?_append_right (by rw [hl]; omega), hl, show (k + 1) * 5 + j - 5 = k * 5 + j by omega]
    exact flatA_get (by simpa using h) hj
theorem infoAns5 : (Try.prog.info? 29).map (fun i => (i.zero, i.size, i.bytes)) = some (some (.agg #[.bool false, .slice none 0 0, .slice none 0 0, .int .i64 0, .int .i64 0]), 5, 72) := by kernel_rfl
/-- blocks in which an answer's lists may not lie -/
def Out (b : Nat) (dv av sv : Value) (k : Nat) : Prop := k ≠ b ∧ dv.ownBlock ≠ some k ∧ av.ownBlock ≠ some k ∧ sv.ownBlock ≠ some k
structure TxA (X : World) (b : Nat) (dv av sv : Value) (r : Ae) : Prop where
  k : Sees X r.ks (akey r.T r.o)
  v : Sees X r.vs (aval r.T r.o)
  ko : ∀ k, r.ks.ownBlock = some k → Out b dv av sv k
  vo : ∀ k, r.vs.ownBlock = some k → Out b dv av sv k
/-- a table, the writes, the answers, what was asked, in memory -/
structure Pm (w X : World) (b : Nat) (T : Tb) (dv av sv : Value) (D S : List Oe) (A : List Ae) : Prop where
  tab : Tab X b T
  d : X.ownsRow w.heap.size 34 4 dv D.length (flatO D)
  a : X.ownsRow w.heap.size 29 5 av A.length (flatA A)
  s : X.ownsRow w.heap.size 34 4 sv S.length (flatO S)
  ds : ∀ k, dv.ownBlock = some k → sv.ownBlock ≠ some k
  tx : ∀ r ∈ A, TxA X b dv av sv r
  kp : Kept [] w X
  od : ∀ e ∈ D, OeP w e
  os : ∀ e ∈ S, OeP w e
  hb : w.heap.size ≤ b
theorem typed_ne {X : World} {B e s n : Nat} {v : Value} {xs : List Value} (h : X.ownsRow B e s v n xs) {g : Nat} {cs : Array Value} {t : TypeId} (hb : Blk X g cs t) (hne : t ≠ e) : v.ownBlock ≠ some g := by
  intro hg
  rcases h.2 with ⟨e1, _⟩ | ⟨g', cap', cur, e1, hb', hh, _⟩
  · rw [e1] at hg; cases hg
  · rw [e1] at hg
    cases hg
    unfold Blk at hb
    rw [hb] at hh
    cases hh
    exact hne rfl
theorem rows_ne {X : World} {B B' e e' s s' n n' : Nat} {v v' : Value} {xs xs' : List Value} (h : X.ownsRow B e s v n xs) (h' : X.ownsRow B' e' s' v' n' xs') (hne : e ≠ e') : ∀ k, v.ownBlock = some k → v'.ownBlock ≠ some k := by
  intro k hk hk'
  rcases h.2 with ⟨e1, _⟩ | ⟨g, cap, cur, e1, hb, hh, _⟩
  · rw [e1] at hk; cases hk
  · rcases h'.2 with ⟨e1', _⟩ | ⟨g', cap', cur', e1', hb', hh', _⟩
    · rw [e1'] at hk'; cases hk'
    · rw [e1] at hk; rw [e1'] at hk'
      cases hk
      cases hk'
      rw [hh] at hh'
      cases hh'
      exact hne rfl
theorem Pm.kept {w X Y : World} {b : Nat} {T : Tb} {dv av sv : Value} {D S : List Oe} {A : List Ae} (h : Pm w X b T dv av sv D S A) (hk : Kept [] X Y) : Pm w Y b T dv av sv D S A :=
  ⟨h.tab.kept hk, own_kept h.d hk (by simp), own_kept h.a hk (by simp), own_kept h.s hk (by simp), h.ds, fun r hr => ⟨(h.tx r hr).k.kept hk (by simp), (h.tx r hr).v.kept hk (by simp), (h.tx r hr).ko, (h.tx r hr).vo⟩, h.kp.step hk, h.od, h.os, h.hb⟩
/-- a call of the table's -/
theorem Pm.did {w X Y : World} {b : Nat} {T T' : Tb} {dv av sv : Value} {D S : List Oe} {A : List Ae} (h : Pm w X b T dv av sv D S A) (hk : Kept [b] X Y) (ht : Tab Y b T') : Pm w Y b T' dv av sv D S A := by
  obtain ⟨q, hbb, -⟩ := h.tab
  have n1 := typed_ne h.d hbb (by decide)
  have n2 := typed_ne h.a hbb (by decide)
  have n3 := typed_ne h.s hbb (by decide)
  refine ⟨ht, own_kept h.d hk (fun k hv => ?_), own_kept h.a hk (fun k hv => ?_), own_kept h.s hk (fun k hv => ?_), h.ds, fun r hr => ?_, h.kp.trans hk (by simp; exact h.hb), h.od, h.os, h.hb⟩
  · simp; rintro rfl; exact n1 hv
  · simp; rintro rfl; exact n2 hv
  · simp; rintro rfl; exact n3 hv
  · have t := h.tx r hr
    exact ⟨t.k.kept hk (fun k hv => by simpa using (t.ko k hv).1), t.v.kept hk (fun k hv => by simpa using (t.vo k hv).1), t.ko, t.vo⟩
theorem grown_kept {X Y : World} {v : Value} (h : X.grownBy Y v.ownBlock) : ∃ F : List Nat, Kept F X Y ∧ ∀ k ∈ F, v.ownBlock = some k := by
  cases hv : v.ownBlock with
  | none => exact ⟨[], ⟨h.os, h.tape, h.output, h.size, fun k hk _ => h.block k hk (by rw [hv]; simp)⟩, fun k hk => by cases hk⟩
  | some g => exact ⟨[g], ⟨h.os, h.tape, h.output, h.size, fun k hk hn => h.block k hk (by rw [hv]; intro e; cases e; exact hn (by simp))⟩, fun k hk => by simp at hk; subst hk; rfl⟩
theorem Out.turn {b : Nat} {dv av sv dv' av' sv' : Value} {k n : Nat} (h : Out b dv av sv k) (hn : k < n) (h1 : dv'.ownBlock = dv.ownBlock ∨ dv'.ownBlock = some n) (h2 : av'.ownBlock = av.ownBlock ∨ av'.ownBlock = some n) (h3 : sv'.ownBlock = sv.ownBlock ∨ sv'.ownBlock = some n) : Out b dv' av' sv' k := by
  have hne : some n ≠ some k := fun e => by cases e; omega
  refine ⟨h.1, ?_, ?_, ?_⟩
  · rcases h1 with e | e <;> rw [e]; exact h.2.1; exact hne
  · rcases h2 with e | e <;> rw [e]; exact h.2.2.1; exact hne
  · rcases h3 with e | e <;> rw [e]; exact h.2.2.2; exact hne
/-- a write more -/
theorem Pm.moreD {w X Y : World} {b : Nat} {T : Tb} {dv av sv dv' : Value} {D S : List Oe} {A : List Ae} (h : Pm w X b T dv av sv D S A) {e : Oe} (he : OeP w e) (ho : Y.ownsRow w.heap.size 34 4 dv' (D.length + 1) (flatO D ++ oec e)) (hg : X.grownBy Y dv.ownBlock) (hat : dv'.ownBlock = dv.ownBlock ∨ dv'.ownBlock = some X.heap.size) : Pm w Y b T dv' av sv (D ++ [e]) S A := by
  obtain ⟨F, hk, hF⟩ := grown_kept hg
  obtain ⟨q, hbb, hq⟩ := h.tab
  have n1 := typed_ne h.d hbb (by decide)
  have hbF : b ∉ F := fun hm => n1 (hF b hm)
  have hoff : Off X F := fun x hx cs => ⟨fun hb => typed_ne h.d hb (by decide) (hF x hx), fun hb => typed_ne h.d hb (by decide) (hF x hx)⟩
  have h3 := rows_ne h.a h.d (by decide)
  refine ⟨Tab.keep ⟨q, hbb, hq⟩ hk hbF hoff, ?_, own_kept h.a hk (fun k hv hm => h3 k hv (hF k hm)), own_kept h.s hk (fun k hv hm => h.ds k (hF k hm) hv), fun k hv => ?_, fun r hr => ?_, h.kp.trans hk (fun x hx => Or.inr (h.d.lt x (hF x hx)).1), fun x hx => ?_, h.os, h.hb⟩
  · rw [List.length_append, flatO_app]
    have : flatO [e] = oec e := by simp [flatO]
    rw [this]
    exact ho
  · rcases hat with hat | hat
    · exact h.ds k (hat ▸ hv)
    · rw [hat] at hv
      cases hv
      intro hs
      have := (own_lt h.s hs).2
      omega
  · have t := h.tx r hr
    exact ⟨t.k.kept hk (fun k hv hm => (t.ko k hv).2.1 (hF k hm)), t.v.kept hk (fun k hv hm => (t.vo k hv).2.1 (hF k hm)), fun k hv => (t.ko k hv).turn (t.k.lt hv) hat (Or.inl rfl) (Or.inl rfl), fun k hv => (t.vo k hv).turn (t.v.lt hv) hat (Or.inl rfl) (Or.inl rfl)⟩
  · rcases List.mem_append.1 hx with hx | hx
    · exact h.od x hx
    · simp at hx; subst hx; exact he
/-- one more that was asked -/
theorem Pm.moreS {w X Y : World} {b : Nat} {T : Tb} {dv av sv sv' : Value} {D S : List Oe} {A : List Ae} (h : Pm w X b T dv av sv D S A) {e : Oe} (he : OeP w e) (ho : Y.ownsRow w.heap.size 34 4 sv' (S.length + 1) (flatO S ++ oec e)) (hg : X.grownBy Y sv.ownBlock) (hat : sv'.ownBlock = sv.ownBlock ∨ sv'.ownBlock = some X.heap.size) : Pm w Y b T dv av sv' D (S ++ [e]) A := by
  obtain ⟨F, hk, hF⟩ := grown_kept hg
  obtain ⟨q, hbb, hq⟩ := h.tab
  have n1 := typed_ne h.s hbb (by decide)
  have hbF : b ∉ F := fun hm => n1 (hF b hm)
  have hoff : Off X F := fun x hx cs => ⟨fun hb => typed_ne h.s hb (by decide) (hF x hx), fun hb => typed_ne h.s hb (by decide) (hF x hx)⟩
  have h3 := rows_ne h.a h.s (by decide)
  refine ⟨Tab.keep ⟨q, hbb, hq⟩ hk hbF hoff, own_kept h.d hk (fun k hv hm => h.ds k hv (hF k hm)), own_kept h.a hk (fun k hv hm => h3 k hv (hF k hm)), ?_, fun k hv => ?_, fun r hr => ?_, h.kp.trans hk (fun x hx => Or.inr (h.s.lt x (hF x hx)).1), h.od, fun x hx => ?_, h.hb⟩
  · rw [List.length_append, flatO_app]
    have : flatO [e] = oec e := by simp [flatO]
    rw [this]
    exact ho
  · rcases hat with hat | hat
    · rw [hat]; exact h.ds k hv
    · rw [hat]
      intro hs
      cases hs
      have := (own_lt h.d hv).2
      omega
  · have t := h.tx r hr
    exact ⟨t.k.kept hk (fun k hv hm => (t.ko k hv).2.2.2 (hF k hm)), t.v.kept hk (fun k hv hm => (t.vo k hv).2.2.2 (hF k hm)), fun k hv => (t.ko k hv).turn (t.k.lt hv) (Or.inl rfl) (Or.inl rfl) hat, fun k hv => (t.vo k hv).turn (t.v.lt hv) (Or.inl rfl) (Or.inl rfl) hat⟩
  · rcases List.mem_append.1 hx with hx | hx
    · exact h.os x hx
    · simp at hx; subst hx; exact he
/-- an answer more -/
theorem Pm.moreA {w X Y : World} {b : Nat} {T : Tb} {dv av sv av' : Value} {D S : List Oe} {A : List Ae} (h : Pm w X b T dv av sv D S A) {r : Ae} (hr : TxA X b dv av sv r) (ho : Y.ownsRow w.heap.size 29 5 av' (A.length + 1) (flatA A ++ aec r)) (hg : X.grownBy Y av.ownBlock) (hat : av'.ownBlock = av.ownBlock ∨ av'.ownBlock = some X.heap.size) : Pm w Y b T dv av' sv D S (A ++ [r]) := by
  obtain ⟨F, hk, hF⟩ := grown_kept hg
  obtain ⟨q, hbb, hq⟩ := h.tab
  have n1 := typed_ne h.a hbb (by decide)
  have hbF : b ∉ F := fun hm => n1 (hF b hm)
  have hoff : Off X F := fun x hx cs => ⟨fun hb => typed_ne h.a hb (by decide) (hF x hx), fun hb => typed_ne h.a hb (by decide) (hF x hx)⟩
  have h3 := rows_ne h.d h.a (by decide)
  have h4 := rows_ne h.s h.a (by decide)
  have tk : ∀ r, TxA X b dv av sv r → TxA Y b dv av' sv r := fun r t =>
    ⟨t.k.kept hk (fun k hv hm => (t.ko k hv).2.2.1 (hF k hm)), t.v.kept hk (fun k hv hm => (t.vo k hv).2.2.1 (hF k hm)), fun k hv => (t.ko k hv).turn (t.k.lt hv) (Or.inl rfl) hat (Or.inl rfl), fun k hv => (t.vo k hv).turn (t.v.lt hv) (Or.inl rfl) hat (Or.inl rfl)⟩
  refine ⟨Tab.keep ⟨q, hbb, hq⟩ hk hbF hoff, own_kept h.d hk (fun k hv hm => h3 k hv (hF k hm)), ?_, own_kept h.s hk (fun k hv hm => h4 k hv (hF k hm)), h.ds, fun x hx => ?_, h.kp.trans hk (fun x hx => Or.inr (h.a.lt x (hF x hx)).1), h.od, h.os, h.hb⟩
  · rw [List.length_append, flatA_app]
    have : flatA [r] = aec r := by simp [flatA]
    rw [this]
    exact ho
  · rcases List.mem_append.1 hx with hx | hx
    · exact tk x (h.tx x hx)
    · simp at hx; subst hx; exact tk x hr
/-- no op, no answer so far -/
theorem Pm.none {w X : World} {b : Nat} {T : Tb} (ht : Tab X b T) (hk : Kept [] w X) (hb : w.heap.size ≤ b) : Pm w X b T (.slice none 0 0) (.slice none 0 0) (.slice none 0 0) [] [] [] :=
  ⟨ht, ⟨rfl, Or.inl ⟨rfl, rfl⟩⟩, ⟨rfl, Or.inl ⟨rfl, rfl⟩⟩, ⟨rfl, Or.inl ⟨rfl, rfl⟩⟩, (fun k hk => by cases hk), (fun r hr => by cases hr), hk, (fun e he => by cases he), (fun e he => by cases he), hb⟩
/-- the first writes -/
theorem ops_first {w X : World} {v : Value} {l : List Oe} (ho : X.ownsRow w.heap.size 34 4 v l.length (flatO l)) (he : ∀ e ∈ l, OeP w e) (hk : Kept [] w X) {a : Option Addr} {n c m : Nat} (hv : v = .slice a n c) (hm : m ≤ l.length) (hl : l.length ≤ 1099511627776) : OpsIn X (.slice a m c) ((l.map (·.o)).take m) := by
  have h := ops_own ho rfl he hk
  obtain ⟨a', c', hv', h1, h2⟩ := h
  rw [hv] at hv'
  cases hv'
  have hlen : ((l.map (·.o)).take m).length = m := by rw [List.length_take, List.length_map]; omega
  refine ⟨a, c, by rw [hlen], by rw [hlen]; omega, fun k o hko => ?_⟩
  rw [List.getElem?_take] at hko
  split at hko
  · exact h2 k o hko
  · cases hko
end Go.Proofs.Ytkejpbfbpomjfaa.tre
