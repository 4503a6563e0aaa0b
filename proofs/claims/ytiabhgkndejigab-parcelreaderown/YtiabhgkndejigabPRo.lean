/- ParcelReaderOwn: the walk. -/
import Derived.Test.YtiabhgkndejigabPWoW
import Derived.Deep.DeepCutAuto
namespace Go.Proofs.Ytiabhgkndejigab
open Go.RowKit

theorem rraw_new {w : World} {b : Nat} {F : List Nat} {s : RS} (h : Rs w b F s) (hf : s.fault = 0) (m : Nat) (hm : m ≤ s.left.length) :
    Calls Try.prog 23 #[.pointer (some ⟨b, 0, none⟩), .int .i64 (m : Int)] w fun e w' => ∃ a cap, e = .returned (.slice a m cap) ∧ w'.ownsRow w.heap.size 5 1 (.slice a m cap) m (u8s (s.left.take m)) ∧ Rs w' b F ⟨0, s.left.drop m, s.behind⟩ ∧ Kept F w w' := by
  have h0 := h
  rcases h with ⟨h1, _⟩ | ⟨h1, h3, h4, lv, bv, hs, D, h2, rfl⟩
  · exact absurd hf h1
  · refine (rraw_ok h2.rd m (by omega)).mono ?_
    rintro e w' ⟨a, cap, rfl, ho, hr, hk⟩
    have htl : (s.left.take m).length = m := by simp; omega
    rw [htl] at ho
    obtain ⟨lv', r1, r2⟩ := hr
    refine ⟨a, cap, rfl, ho, Or.inr ⟨rfl, fun y hy => h3 y (List.mem_of_mem_drop hy), h4, lv', bv, hs, D, h2.step r1 r2 hk, rfl⟩, hk.mono (fun x hx => Or.inl (by simp at hx; subst hx; exact h0.mem))⟩

theorem rtext_new {w : World} {b : Nat} {F : List Nat} {s : RS} (h : Rs w b F s) (hf : s.fault = 0) (n most : Nat) (r : List Nat) (hr : readNum 0 0 s.left = .inr (n, r)) (hm : n ≤ most) (hm9 : most ≤ 9223372036854775807) (hn : n ≤ r.length) :
    Calls Try.prog 36 #[.pointer (some ⟨b, 0, none⟩), .int .i64 (most : Int)] w fun e w' => ∃ a cap, e = .returned (.slice a n cap) ∧ w'.ownsRow w.heap.size 5 1 (.slice a n cap) n (u8s (r.take n)) ∧ Rs w' b F ⟨0, r.drop n, s.behind⟩ ∧ Kept F w w' := by
  have h0 := h
  rcases h with ⟨h1, _⟩ | ⟨h1, h3, h4, lv, bv, hs, D, h2, rfl⟩
  · exact absurd hf h1
  · refine (rtext_ok h2.rd h3 n most (by omega) hr (by omega) hn).mono ?_
    rintro e w' ⟨a, cap, rfl, ho, hrd, hk⟩
    have htl : (r.take n).length = n := by simp; omega
    rw [htl] at ho
    obtain ⟨lv', r1, r2⟩ := hrd
    refine ⟨a, cap, rfl, ho, Or.inr ⟨rfl, fun y hy => (readNum_lt _ 0 0 (by omega) (by simp) h3 hr).2.1 y (List.mem_of_mem_drop hy), h4, lv', bv, hs, D, h2.step r1 r2 hk, rfl⟩, hk.mono (fun x hx => Or.inl (by simp at hx; subst hx; exact h0.mem))⟩

/-- A thing in memory: its blocks, and what it is. -/
structure Ob where
  foot : List Nat
  is : World → Prop
def Ob.stays (o : Ob) : Prop := ∀ (G : List Nat) (w w' : World), o.is w → Kept G w w' → (∀ x ∈ o.foot, x ∉ G) → o.is w'
/-- Things made since w0, each apart from the others. -/
structure Good (w0 w : World) (os : List Ob) : Prop where
  is_ : ∀ o ∈ os, o.is w
  st : ∀ o ∈ os, o.stays
  lo : ∀ o ∈ os, ∀ x ∈ o.foot, w0.heap.size ≤ x ∧ x < w.heap.size
  dis : os.Pairwise fun o p => ∀ x ∈ o.foot, x ∉ p.foot
  kp : Kept [] w0 w
theorem Good.nil {w0 w : World} (k : Kept [] w0 w) : Good w0 w [] := ⟨by simp, by simp, by simp, by simp, k⟩
theorem Good.kept {w0 w w' : World} {os : List Ob} (h : Good w0 w os) (k : Kept [] w w') : Good w0 w' os :=
  ⟨fun o ho => h.st o ho _ _ _ (h.is_ o ho) k (by simp), h.st, fun o ho x hx => ⟨(h.lo o ho x hx).1, Nat.lt_of_lt_of_le (h.lo o ho x hx).2 k.size⟩, h.dis, h.kp.trans k (by simp)⟩
theorem Good.push {w0 w w' : World} {os : List Ob} (h : Good w0 w os) (k : Kept [] w w') (o : Ob) (hs : o.stays) (ho : o.is w') (hf : ∀ x ∈ o.foot, w.heap.size ≤ x ∧ x < w'.heap.size) : Good w0 w' (os ++ [o]) := by
  have h' := h.kept k
  have h0 := h.kp.size
  refine ⟨fun p hp => ?_, fun p hp => ?_, fun p hp x hx => ?_, List.pairwise_append.2 ⟨h.dis, by simp, fun p hp q hq x hx hy => ?_⟩, h'.kp⟩
  · rcases List.mem_append.1 hp with hp | hp
    · exact h'.is_ p hp
    · simp at hp; subst hp; exact ho
  · rcases List.mem_append.1 hp with hp | hp
    · exact h.st p hp
    · simp at hp; subst hp; exact hs
  · rcases List.mem_append.1 hp with hp | hp
    · exact h'.lo p hp x hx
    · simp at hp; subst hp; have := hf x hx; omega
  · simp at hq; subst hq
    have h1 := (h.lo p hp x hx).2
    have h2 := (hf x hy).1
    omega
/-- A call on one of them, o, that makes it o'. -/
theorem Good.turn {w0 w w' : World} (l : List Ob) (o : Ob) (r : List Ob) (h : Good w0 w (l ++ o :: r)) (k : Kept o.foot w w') (o' : Ob) (hs : o'.stays) (ho : o'.is w') (hf : ∀ x ∈ o'.foot, (x ∈ o.foot ∨ w.heap.size ≤ x) ∧ x < w'.heap.size) : Good w0 w' (l ++ o' :: r) := by
  have hp := List.pairwise_append.1 h.dis
  have hq := List.pairwise_cons.1 hp.2.1
  have hkp : Kept [] w0 w' := h.kp.trans k (fun x hx => Or.inr (h.lo o (by simp) x hx).1)
  have h0 := h.kp.size
  have hap : ∀ p, p ∈ l ∨ p ∈ r → ∀ x ∈ p.foot, x ∉ o.foot := by
    rintro p (hp1 | hp1) x hx hy
    · exact hp.2.2 p hp1 o (by simp) x hx hy
    · exact hq.1 p hp1 x hy hx
  have hap' : ∀ p, p ∈ l ∨ p ∈ r → ∀ x ∈ p.foot, x ∉ o'.foot := by
    intro p hp1 x hx hy
    have hm : p ∈ l ++ o :: r := by rcases hp1 with h | h <;> simp [h]
    rcases (hf x hy).1 with h1 | h1
    · exact hap p hp1 x hx h1
    · have := (h.lo p hm x hx).2; omega
  have part : ∀ p, p ∈ l ++ o' :: r → p = o' ∨ p ∈ l ∨ p ∈ r := fun p hp => by
    simp only [List.mem_append, List.mem_cons] at hp
    rcases hp with h | h | h
    · exact Or.inr (Or.inl h)
    · exact Or.inl h
    · exact Or.inr (Or.inr h)
  have mem : ∀ p, p ∈ l ∨ p ∈ r → p ∈ l ++ o :: r := fun p hp1 => by rcases hp1 with h | h <;> simp [h]
  refine ⟨fun p hp1 => ?_, fun p hp1 => ?_, fun p hp1 x hx => ?_, ?_, hkp⟩
  · rcases part p hp1 with rfl | h1
    · exact ho
    · exact h.st p (mem p h1) _ _ _ (h.is_ p (mem p h1)) k (hap p h1)
  · rcases part p hp1 with rfl | h1
    · exact hs
    · exact h.st p (mem p h1)
  · rcases part p hp1 with rfl | h1
    · rcases (hf x hx).1 with h2 | h2
      · exact ⟨(h.lo o (by simp) x h2).1, (hf x hx).2⟩
      · exact ⟨by omega, (hf x hx).2⟩
    · exact ⟨(h.lo p (mem p h1) x hx).1, Nat.lt_of_lt_of_le (h.lo p (mem p h1) x hx).2 k.size⟩
  · refine List.pairwise_append.2 ⟨hp.1, List.pairwise_cons.2 ⟨fun p hp1 x hx hy => hap' p (Or.inr hp1) x hy hx, hq.2⟩, fun p hp1 q hq1 x hx hy => ?_⟩
    rcases List.mem_cons.1 hq1 with rfl | hq1
    · exact hap' p (Or.inl hp1) x hx hy
    · exact hp.2.2 p hp1 q (by simp [hq1]) x hx hy
/-- The same, where the call answers something new besides. -/
theorem Good.turnNew {w0 w w' : World} (l : List Ob) (o : Ob) (r : List Ob) (h : Good w0 w (l ++ o :: r)) (k : Kept o.foot w w') (o' : Ob) (hs : o'.stays) (ho : o'.is w') (hf : ∀ x ∈ o'.foot, x ∈ o.foot) (n : Ob) (ns : n.stays) (hn : n.is w') (nf : ∀ x ∈ n.foot, w.heap.size ≤ x ∧ x < w'.heap.size) : Good w0 w' (l ++ o' :: (r ++ [n])) := by
  have h1 := Good.turn l o r h k o' hs ho (fun x hx => ⟨Or.inl (hf x hx), Nat.lt_of_lt_of_le (h.lo o (by simp) x (hf x hx)).2 k.size⟩)
  have h0 := h.kp.size
  have e : l ++ o' :: (r ++ [n]) = (l ++ o' :: r) ++ [n] := by simp
  rw [e]
  have old : ∀ p ∈ l ++ o' :: r, ∀ x ∈ p.foot, x < w.heap.size := fun p hp x hx => by
    simp only [List.mem_append, List.mem_cons] at hp
    rcases hp with h2 | rfl | h2
    · exact (h.lo p (by simp [h2]) x hx).2
    · exact (h.lo o (by simp) x (hf x hx)).2
    · exact (h.lo p (by simp [h2]) x hx).2
  refine ⟨fun p hp => ?_, fun p hp => ?_, fun p hp x hx => ?_, List.pairwise_append.2 ⟨h1.dis, by simp, fun p hp q hq x hx hy => ?_⟩, h1.kp⟩
  · rcases List.mem_append.1 hp with hp | hp
    · exact h1.is_ p hp
    · simp at hp; subst hp; exact hn
  · rcases List.mem_append.1 hp with hp | hp
    · exact h1.st p hp
    · simp at hp; subst hp; exact ns
  · rcases List.mem_append.1 hp with hp | hp
    · exact h1.lo p hp x hx
    · simp at hp; subst hp; have := nf x hx; omega
  · simp at hq; subst hq
    have h2 := old p hp x hx
    have h3 := (nf x hy).1
    omega

def obR (b : Nat) (F : List Nat) (s : RS) : Ob := ⟨F, fun w => Rs w b F s⟩
theorem obR_stays (b : Nat) (F : List Nat) (s : RS) : (obR b F s).stays := fun _ _ _ h k hn => Rs.kept h k hn
def obV (e : TypeId) (v : Value) (n : Nat) (xs : List Value) : Ob := ⟨v.ownBlock.toList, fun w => w.ownsRow 0 e 1 v n xs⟩
theorem obV_stays (e : TypeId) (v : Value) (n : Nat) (xs : List Value) : (obV e v n xs).stays := fun _ _ _ h k hn => own_kept h k (fun x hx => hn x (by simp [obV, hx]))
theorem obV_foot {e : TypeId} {v : Value} {n : Nat} {xs : List Value} {x : Nat} (h : x ∈ (obV e v n xs).foot) : v.ownBlock = some x := by simpa [obV] using h
theorem own_zero {w : World} {base : Nat} {e : TypeId} {s : Nat} {v : Value} {n : Nat} {xs : List Value} (h : w.ownsRow base e s v n xs) : w.ownsRow 0 e s v n xs := by
  refine ⟨h.1, ?_⟩
  rcases h.2 with h2 | ⟨g, cap, cur, hv, hg, r⟩
  · exact Or.inl h2
  · exact Or.inr ⟨g, cap, cur, hv, by omega, r⟩

/-- A row of rows of bytes that came in. -/
def RowL (w : World) (v : Value) (ps : List (List Nat)) : Prop :=
  ∃ a cap, v = .slice a ps.length cap ∧ ∀ j p, ps[j]? = some p → (∀ y ∈ p, y < 256) ∧ ∃ b off va vc, a = some ⟨b, off, none⟩ ∧ b < w.heap.size ∧ w.cell? ⟨b, off + j, none⟩ = some (.slice va p.length vc) ∧ p.length ≤ vc ∧ vc ≤ 9223372036854775807 ∧ Wide w (.slice va p.length vc) p
theorem RowL.kept {w w' : World} {v : Value} {ps : List (List Nat)} (h : RowL w v ps) (k : Kept [] w w') : RowL w' v ps := by
  obtain ⟨a, cap, h1, h3⟩ := h
  refine ⟨a, cap, h1, fun j p hj => ?_⟩
  obtain ⟨ho, b, off, va, vc, ha, hb, q0, q1, q2, q3⟩ := h3 j p hj
  exact ⟨ho, b, off, va, vc, ha, Nat.lt_of_lt_of_le hb k.size, by rw [k.cell (p := ⟨b, off + j, none⟩) hb (by simp)]; exact q0, q1, q2, q3.kept k⟩
theorem Wide.head {w : World} {va : Option Addr} {n m vc vc' : Nat} {p : List Nat} (h : Wide w (.slice va n vc) p) (hn : n = p.length) (hm : m ≤ n) (hm0 : 0 < m) (hc : m ≤ vc') (hc2 : vc' ≤ vc) : Wide w (.slice va m vc') (p.take m) := by
  rcases h with h | ⟨a, e, rfl⟩
  · left
    rcases h with ⟨e, rfl⟩ | ⟨b, off, cap, e, h1, h2, h3, h4⟩
    · simp at hn; omega
    · simp only [Value.slice.injEq] at e
      obtain ⟨e1, e2, e3⟩ := e
      subst e1 e3
      have htl : (p.take m).length = m := by simp; omega
      refine Or.inr ⟨b, off, vc', by rw [htl], by omega, by omega, h3, fun j hj => ?_⟩
      rw [htl] at hj
      rw [h4 j (by omega)]
      have e : (p.take m).getD j 0 = p.getD j 0 := by rw [List.getD, List.getD, List.getElem?_take_of_lt hj]
      rw [e]
  · simp at hn; omega
/-- What is laid of a row of pieces. -/
def cut1 (p : List Nat) : List Nat := p.take 100
def laid1 (p : List Nat) : List Nat := (cut1 p).length :: cut1 p
def laidAll (ps : List (List Nat)) : List Nat := ps.flatMap laid1
theorem cut1_le (p : List Nat) : (cut1 p).length ≤ 100 := by simp [cut1]; omega
theorem laidAll_append (a b : List (List Nat)) : laidAll (a ++ b) = laidAll a ++ laidAll b := by simp [laidAll]
theorem laidAll_one (p : List Nat) : laidAll [p] = (cut1 p).length :: cut1 p := by simp [laidAll, laid1]
theorem laidAll_len (ps : List (List Nat)) : (laidAll ps).length ≤ 101 * ps.length := by
  induction ps with
  | nil => simp [laidAll]
  | cons p r ih =>
    have : laidAll (p :: r) = laid1 p ++ laidAll r := by simp [laidAll]
    rw [this, List.length_append, List.length_cons]
    have h2 := cut1_le p
    simp only [laid1, List.length_cons]
    omega
theorem laidAll_lt (ps : List (List Nat)) (h : ∀ p ∈ ps, ∀ y ∈ p, y < 256) : ∀ x ∈ laidAll ps, x < 256 := by
  intro x hx
  obtain ⟨p, hp, hx⟩ := List.mem_flatMap.1 hx
  rcases List.mem_cons.1 hx with rfl | hx
  · have := cut1_le p; omega
  · exact h p hp x (List.mem_of_mem_take hx)
theorem laid_take (ps : List (List Nat)) (k : Nat) (hk : k < ps.length) : laidAll (ps.take (k + 1)) = laidAll (ps.take k) ++ ((cut1 ps[k]).length :: cut1 ps[k]) := by
  rw [List.take_succ_eq_append_getElem hk, laidAll_append, laidAll_one]
theorem laid_drop (ps : List (List Nat)) (k : Nat) (hk : k < ps.length) : laidAll (ps.drop k) = (cut1 ps[k]).length :: (cut1 ps[k] ++ laidAll (ps.drop (k + 1))) := by
  have e : ps.drop k = ps[k] :: ps.drop (k + 1) := (List.getElem_cons_drop hk).symm
  unfold laidAll
  rw [e, List.flatMap_cons]
  rfl
theorem sees1 (w : World) (x : Nat) : Sees (w.alloc (.cells #[.int .u8 (x : Int)] 5)) (.slice (some ⟨w.heap.size, 0, none⟩) 1 1) [x] := by
  refine Or.inr ⟨w.heap.size, 0, 1, rfl, by simp, by unfold maxLen; omega, by simp, fun j hj => ?_⟩
  rw [(Blk.new w _ _).cell]
  match j, hj with
  | 0, _ => rfl

def obRow (q : Value × List Nat) : Ob := obV 5 q.1 q.2.length (u8s q.2)
def all6 (G R S T U A : Ob) (rs : List (Value × List Nat)) : List Ob := G :: R :: S :: T :: U :: A :: rs.map obRow
theorem all6_newR {w0 w w' : World} {G S T U A : Ob} {b : Nat} {F : List Nat} {s s' : RS} {rs : List (Value × List Nat)} (h : Good w0 w (all6 G (obR b F s) S T U A rs)) (k : Kept F w w') (hr : Rs w' b F s') (v : Value) (bs : List Nat) (ho : w'.ownsRow w.heap.size 5 1 v bs.length (u8s bs)) : Good w0 w' (all6 G (obR b F s') S T U A (rs ++ [(v, bs)])) := by
  have := Good.turnNew [G] (obR b F s) (S :: T :: U :: A :: rs.map obRow) h k (obR b F s') (obR_stays _ _ _) hr (fun x hx => hx) (obRow (v, bs)) (obV_stays _ _ _ _) (own_zero ho) (fun x hx => ho.lt x (obV_foot hx))
  simpa [all6] using this
theorem all6_newS {w0 w w' : World} {G R T U A : Ob} {b : Nat} {F : List Nat} {s s' : RS} {rs : List (Value × List Nat)} (h : Good w0 w (all6 G R (obR b F s) T U A rs)) (k : Kept F w w') (hr : Rs w' b F s') (v : Value) (bs : List Nat) (ho : w'.ownsRow w.heap.size 5 1 v bs.length (u8s bs)) : Good w0 w' (all6 G R (obR b F s') T U A (rs ++ [(v, bs)])) := by
  have := Good.turnNew [G, R] (obR b F s) (T :: U :: A :: rs.map obRow) h k (obR b F s') (obR_stays _ _ _) hr (fun x hx => hx) (obRow (v, bs)) (obV_stays _ _ _ _) (own_zero ho) (fun x hx => ho.lt x (obV_foot hx))
  simpa [all6] using this
theorem all6_newT {w0 w w' : World} {G R S U A : Ob} {b : Nat} {F : List Nat} {s s' : RS} {rs : List (Value × List Nat)} (h : Good w0 w (all6 G R S (obR b F s) U A rs)) (k : Kept F w w') (hr : Rs w' b F s') (v : Value) (bs : List Nat) (ho : w'.ownsRow w.heap.size 5 1 v bs.length (u8s bs)) : Good w0 w' (all6 G R S (obR b F s') U A (rs ++ [(v, bs)])) := by
  have := Good.turnNew [G, R, S] (obR b F s) (U :: A :: rs.map obRow) h k (obR b F s') (obR_stays _ _ _) hr (fun x hx => hx) (obRow (v, bs)) (obV_stays _ _ _ _) (own_zero ho) (fun x hx => ho.lt x (obV_foot hx))
  simpa [all6] using this
theorem all6_newU {w0 w w' : World} {G R S T A : Ob} {b : Nat} {F : List Nat} {s s' : RS} {rs : List (Value × List Nat)} (h : Good w0 w (all6 G R S T (obR b F s) A rs)) (k : Kept F w w') (hr : Rs w' b F s') (v : Value) (bs : List Nat) (ho : w'.ownsRow w.heap.size 5 1 v bs.length (u8s bs)) : Good w0 w' (all6 G R S T (obR b F s') A (rs ++ [(v, bs)])) := by
  have := Good.turnNew [G, R, S, T] (obR b F s) (A :: rs.map obRow) h k (obR b F s') (obR_stays _ _ _) hr (fun x hx => hx) (obRow (v, bs)) (obV_stays _ _ _ _) (own_zero ho) (fun x hx => ho.lt x (obV_foot hx))
  simpa [all6] using this
theorem all6_S {w0 w w' : World} {G R T U A : Ob} {b : Nat} {F : List Nat} {s s' : RS} {rs : List (Value × List Nat)} (h : Good w0 w (all6 G R (obR b F s) T U A rs)) (hp : RsP w b F s' w') : ∃ F', Good w0 w' (all6 G R (obR b F' s') T U A rs) := by
  obtain ⟨F', h1, h2, h3⟩ := hp
  exact ⟨F', Good.turn [G, R] (obR b F s) (T :: U :: A :: rs.map obRow) h h2 (obR b F' s') (obR_stays _ _ _) h1 (fun x hx => ⟨h3 x hx, h1.lt x hx⟩)⟩
theorem all6_A {w0 w w' : World} {G R S T U : Ob} {v v' : Value} {n n' : Nat} {xs xs' : List Value} {rs : List (Value × List Nat)} (h : Good w0 w (all6 G R S T U (obV 22 v n xs) rs)) (k : Kept v.ownBlock.toList w w') (ho : w'.ownsRow 0 22 1 v' n' xs') (hat : ∀ x, v'.ownBlock = some x → (v.ownBlock = some x ∨ w.heap.size ≤ x)) : Good w0 w' (all6 G R S T U (obV 22 v' n' xs') rs) := by
  refine Good.turn [G, R, S, T, U] (obV 22 v n xs) (rs.map obRow) h k (obV 22 v' n' xs') (obV_stays _ _ _ _) ho (fun x hx => ⟨?_, (ho.lt x (obV_foot hx)).2⟩)
  rcases hat x (obV_foot hx) with h1 | h1
  · left; show x ∈ v.ownBlock.toList; rw [h1]; simp
  · exact Or.inr h1
theorem cells_new (w : World) (vs : List Value) (t : TypeId) : ∀ j u, vs[j]? = some u → (w.alloc (.cells vs.toArray t)).cell? ((⟨w.heap.size, 0, none⟩ : Addr).add j) = some u := by
  intro j u hj
  have hadd : (⟨w.heap.size, 0, none⟩ : Addr).add j = ⟨w.heap.size, j, none⟩ := by unfold Addr.add; split <;> simp_all
  rw [hadd, (Blk.new w _ _).cell]
  simpa using hj
theorem apart_good {w0 w : World} {qs : List (Value × List Nat)} {ab mc : Nat} (h : Good w0 w (obV 22 (.slice (some ⟨ab, 0, none⟩) qs.length mc) qs.length (qs.map (·.1)) :: qs.map obRow)) (hm : qs.length ≤ 4194304) (hr : ∀ q ∈ qs, q.2.length ≤ 1000000000) :
    Calls Try.prog 35 #[.slice (some ⟨ab, 0, none⟩) qs.length mc] w fun e w' => e = .returned (.bool true) ∧ Kept [] w0 w' := by
  have hA : w.ownsRow 0 22 1 (.slice (some ⟨ab, 0, none⟩) qs.length mc) qs.length (qs.map (·.1)) := h.is_ _ (List.mem_cons_self ..)
  have hp := List.pairwise_cons.1 h.dis
  have get : ∀ i (hi : i < qs.length), qs.getD i (.slice none 0 0, []) = qs[i] := fun i hi => by rw [List.getD, List.getElem?_eq_getElem hi]; rfl
  have own : ∀ q ∈ qs, w.ownsRow 0 5 1 q.1 q.2.length (u8s q.2) := fun q hq => h.is_ (obRow q) (List.mem_cons_of_mem _ (List.mem_map_of_mem hq))
  have foot : ∀ q x, q.1.ownBlock = some x → x ∈ (obRow q).foot := fun q x hx => by show x ∈ q.1.ownBlock.toList; rw [hx]; simp
  refine (apart_any (V := fun i => (qs.getD i (.slice none 0 0, [])).1) (N := fun i => (qs.getD i (.slice none 0 0, [])).2.length) (base := 0) (F := qs.filterMap fun q => q.1.ownBlock) ⟨hm, (hA.lt ab rfl).2, ?_, ?_, ?_, ?_, ?_, ?_⟩ (Nat.zero_le _) (fun i => (qs.getD i (.slice none 0 0, [])).2.map fun x : Nat => (x : Int)) ?_).mono ?_
  · intro i hi
    have h1 := hA.cells (g := ab) rfl i qs[i].1 (by rw [List.getElem?_map, List.getElem?_eq_getElem hi]; rfl)
    have hadd : (⟨ab, 0, none⟩ : Addr).add i = ⟨ab, i, none⟩ := by unfold Addr.add; split <;> simp_all
    rw [hadd] at h1
    rw [get i hi]; exact h1
  · intro i hi; rw [get i hi]; have := hr _ (List.getElem_mem hi); omega
  · intro i j hi hj hij b h1 h2
    rw [get i hi] at h1
    rw [get j hj] at h2
    have hpw := List.pairwise_iff_getElem.1 hp.2
    rcases Nat.lt_or_gt_of_ne hij with h3 | h3
    · have := hpw i j (by simpa using hi) (by simpa using hj) h3 b (by simpa using foot _ b h1)
      exact this (by simpa using foot _ b h2)
    · have := hpw j i (by simpa using hj) (by simpa using hi) h3 b (by simpa using foot _ b h2)
      exact this (by simpa using foot _ b h1)
  · intro i hi b h1
    rw [get i hi] at h1
    exact List.mem_filterMap.2 ⟨qs[i], List.getElem_mem hi, h1⟩
  · intro hmem
    obtain ⟨q, hq, hb⟩ := List.mem_filterMap.1 hmem
    exact hp.1 (obRow q) (List.mem_map_of_mem hq) ab (by simp [obV, Value.ownBlock]) (foot q ab hb)
  · intro i hi b h1
    rw [get i hi] at h1
    exact ((own _ (List.getElem_mem hi)).lt b h1).2
  · intro i hi
    rw [get i hi, ← u8s_b8s]
    exact own _ (List.getElem_mem hi)
  · rintro e w' ⟨rfl, hk⟩
    refine ⟨rfl, h.kp.trans hk (fun x hx => Or.inr ?_)⟩
    obtain ⟨q, hq, hb⟩ := List.mem_filterMap.1 hx
    exact (h.lo (obRow q) (List.mem_cons_of_mem _ (List.mem_map_of_mem hq)) x (foot q x hb)).1
theorem rEnter_one (M : Nat) (c rest : List Nat) (hM : M ≤ 100) (hc : M = c.length) : rEnter ⟨0, M :: (c ++ rest), []⟩ = (⟨0, c, [rest]⟩, M) := by
  have h1 : readNum 0 0 (M :: (c ++ rest)) = .inr (M, c ++ rest) := by simp [readNum]; omega
  simp only [rEnter]
  rw [if_neg (by simp), if_neg (by simp), h1]
  simp only
  rw [if_neg (by simp; omega), hc]
  simp
theorem read_m (M : Nat) (t : List Nat) (hM : M ≤ 100) : readNum 0 0 (M :: t) = .inr (M, t) := by simp [readNum]; omega
theorem all6_fin {w0 w : World} {R S T U A : Ob} {qg : Value × List Nat} {rs : List (Value × List Nat)} (h : Good w0 w (all6 (obRow qg) R S T U A rs)) : Good w0 w (A :: (rs ++ [qg]).map obRow) := by
  have mem : ∀ o ∈ A :: (rs ++ [qg]).map obRow, o ∈ all6 (obRow qg) R S T U A rs := by
    intro o ho
    simp only [List.map_append, List.map_cons, List.map_nil, List.mem_cons, List.mem_append, List.not_mem_nil, or_false] at ho
    simp only [all6, List.mem_cons]
    rcases ho with rfl | h1 | rfl
    · simp
    · simp [h1]
    · simp
  have d0 := List.pairwise_cons.1 h.dis
  have d1 := (List.pairwise_cons.1 (List.pairwise_cons.1 (List.pairwise_cons.1 (List.pairwise_cons.1 d0.2).2).2).2).2
  have d2 := List.pairwise_cons.1 d1
  refine ⟨fun o ho => h.is_ o (mem o ho), fun o ho => h.st o (mem o ho), fun o ho => h.lo o (mem o ho), ?_, h.kp⟩
  rw [List.map_append]
  refine List.pairwise_cons.2 ⟨fun o ho x hx hy => ?_, List.pairwise_append.2 ⟨d2.2, by simp, fun o ho p hp x hx hy => ?_⟩⟩
  · rcases List.mem_append.1 ho with h1 | h1
    · exact d2.1 o h1 x hx hy
    · simp at h1; subst h1
      exact d0.1 A (by simp) x hy hx
  · simp at hp; subst hp
    exact d0.1 o (by simp only [List.mem_cons]; exact Or.inr (Or.inr (Or.inr (Or.inr (Or.inr ho))))) x hy hx

set_option maxRecDepth 100000 in
set_option maxHeartbeats 4000000 in
theorem readerOwn_walk {w : World} {v0 : Value} {ps : List (List Nat)} (h0 : RowL w v0 ps) (hn : ps.length ≤ 1048576) :
    Calls Try.prog 7 #[v0] w fun e w' => e = .returned (.bool true) ∧ Kept [] w w' := by
  have HP0 := hide h0
  have HBB := hide (show ∀ p ∈ ps, ∀ y ∈ p, y < 256 from fun p hp => by
    obtain ⟨_, _, _, h3⟩ := h0
    obtain ⟨j, hj⟩ := List.getElem?_of_mem hp
    exact (h3 j p hj).1)
  obtain ⟨a0, c0, rfl, -⟩ := h0
  obtain ⟨i0, hi, hz0, hz1, hz2⟩ := info_parts Try.info5
  have HI0 := hide (⟨hi, hz0, hz1, hz2⟩ : _ ∧ _ ∧ _ ∧ _)
  clear hi hz0 hz1 hz2
  obtain ⟨n, hN⟩ : ∃ n, n = ps.length := ⟨_, rfl⟩
  rw [← hN] at hn HP0 ⊢
  have HN := hide hN
  clear hN
  have hbig : ¬ ((1048576 : Int) < (n : Int)) := by omega
  have hbig' : ((1048576 : Int) < (n : Int)) = False := by simp; omega
  go_enter Try.func7, Try.ntmps7
  go_wp2_with fail
  refine (awake_any _).mono ?_
  rintro e w1 ⟨rfl, hk1⟩
  have HK1 := hide hk1
  clear hk1
  go_wp2_with fail
  go_loopw [3, 4] (fun p i wr => ∃ (k : Nat) (pa : Option Addr) (pn pc : Nat), k ≤ n ∧ p = .slice pa pn pc ∧ i = .int .i64 k ∧ Hid (pn = (laidAll (ps.take k)).length ∧ wr.ownsRow w1.heap.size 5 1 (.slice pa pn pc) pn (u8s (laidAll (ps.take k))) ∧ Kept [] w1 wr)) (fun _ i _ => n - (intOf i).toNat)
  case atStart => exact ⟨0, none, 0, 0, by omega, rfl, rfl, hide ⟨by simp [laidAll], by simpa [laidAll, u8s] using World.ownsRow_nil _ w1.heap.size _ _, Kept.refl _ _⟩⟩
  case round =>
    obtain ⟨k, pa, pn, pc, hk, rfl, rfl, HX⟩ := hrel
    by_cases hlt : k < n
    · have hkl : k < ps.length := by rw [← unhide HN]; exact hlt
      obtain ⟨ra, rc, hv, hrow⟩ := unhide HP0
      obtain ⟨hb, vb, off, va, vc, ha, hvb, hcell0, hc1, hc2, hwide⟩ := hrow k ps[k] (List.getElem?_eq_getElem hkl)
      have e0 : a0 = some ⟨vb, off, none⟩ := by simp only [Value.slice.injEq] at hv; rw [hv.1]; exact ha
      subst e0
      have hkw : Kept [] w wr := (unhide HK1).trans (unhide HX).2.2 (by simp)
      have hcell : wr.cell? ⟨vb, off + k, none⟩ = some (.slice va ps[k].length vc) := by rw [hkw.cell (p := ⟨vb, off + k, none⟩) hvb (by simp)]; exact hcell0
      clear hcell0 hvb hkw hb
      have HLT := hide (laid_take ps k hkl)
      have hpl := laidAll_len (ps.take k)
      have hpn : pn ≤ 101 * 1048576 := by have := (unhide HX).1; rw [List.length_take] at hpl; omega
      clear hv ha hrow hpl
      generalize ps[k] = q at *
      obtain ⟨L, hL⟩ : ∃ L, L = q.length := ⟨_, rfl⟩
      rw [← hL] at hcell hc1 hwide
      have hWc : Wide w (.slice va (min L 100) vc) (cut1 q) := by
        by_cases h1 : 100 < L
        · rw [Nat.min_eq_right (by omega)]; exact hwide.head hL (by omega) (by omega) (by omega) (Nat.le_refl _)
        · rw [Nat.min_eq_left (by omega)]
          have : cut1 q = q := by unfold cut1; exact List.take_of_length_le (by omega)
          rw [this]; exact hwide
      have hMl : min L 100 = (cut1 q).length := by simp [cut1, hL]; omega
      have HWC := hide hWc
      have HML := hide hMl
      have hM : min L 100 ≤ 100 := by omega
      clear hWc hMl hwide hL
      have hq : q.length = q.length := rfl
      clear hq
      go_upto_if 36 with fail
      go_cut [5] (fun t wc => t = .slice va (min L 100) vc ∧ wr = wc)
      case first =>
        by_cases h1 : 100 < L
        · have h1' : ((L : Int) > 100) = True := by simp; omega
          have h1'' : ((100 : Int) < (L : Int)) = True := by simp; omega
          have h2 : 100 ≤ vc := by omega
          have HE := hide (show min L 100 = 100 by omega)
          go_wp2_with fail
          go_meet
          exact ⟨by rw [unhide HE], rfl⟩
        · have h1' : ((L : Int) > 100) = False := by simp; omega
          have h1'' : ((100 : Int) < (L : Int)) = False := by simp; omega
          have HE := hide (show min L 100 = L by omega)
          go_wp2_with fail
          go_meet
          exact ⟨by rw [unhide HE], rfl⟩
      case rest =>
      obtain ⟨rfl, rfl⟩ := hcut
      generalize min L 100 = M at *
      have hmod : (M : Int) % 256 = (M : Int) := by omega
      have hs1 : w1.heap.size ≤ wr.heap.size := (unhide HX).2.2.size
      obtain ⟨hi, hz0, hz1, hz2⟩ := unhide HI0
      go_wp2_with (at_builtin; refine wpList_append_sees _ rfl _ _ 22 rfl w1.heap.size 5 i0 (.int .u8 0) Try.underlying22 hi hz0 hz1 hz2 rfl _ (laidAll (ps.take k)) rfl (by rw [← (unhide HX).1]; exact (unhide HX).2.1.alloc _) _ [M] rfl (sees1 wr M) ?c3 ?c4 ?_)
      case c3 => have := (unhide HX).1; simp; omega
      case c4 => simp; omega
      intro v2 w2 hown hg hat
      have hk2 : Kept [] w1 w2 := ((unhide HX).2.2.alloc _).grown hg (fun k hk => by have := ((unhide HX).2.1.lt k hk).1; right; exact this)
      have hw2 : Wide w2 (.slice va M vc) (cut1 q) := (unhide HWC).kept ((unhide HK1).trans hk2 (by simp))
      have hq1 : (laidAll (ps.take k) ++ [M]).length = pn + 1 := by rw [List.length_append, ← (unhide HX).1]; rfl
      have hq2 : ((laidAll (ps.take k) ++ [M]) ++ cut1 q).length = pn + 1 + M := by rw [List.length_append, hq1, ← unhide HML]
      have hq3 : laidAll (ps.take (k + 1)) = laidAll (ps.take k) ++ M :: cut1 q := by rw [unhide HLT, unhide HML]
      have HQ4 := hide (show (laidAll (ps.take k)).length + ((cut1 q).length + 1) = pn + 1 + M by rw [← (unhide HX).1, ← unhide HML]; omega)
      have HQ1 := hide hq1
      have HQ2 := hide hq2
      have HQ3 := hide hq3
      rw [← (unhide HX).1] at hown
      obtain ⟨xa, xc, hv2⟩ := own_len hown
      subst hv2
      have HO2 := hide hown
      have HK2 := hide hk2
      have HW2 := hide hw2
      have hs2 : w1.heap.size ≤ w2.heap.size := hk2.size
      clear hown hg hat hk2 hw2 hq1 hq2 hq3 HX HLT HML hcell HWC hs1
      go_wp2_with (at_builtin; refine wpList_append_wide _ rfl _ _ 22 rfl w1.heap.size 5 i0 (.int .u8 0) Try.underlying22 hi hz0 hz1 hz2 rfl _ (laidAll (ps.take k) ++ [M]) rfl (by rw [unhide HQ1]; exact unhide HO2) _ (cut1 q) rfl (unhide HW2) ?c5 ?c6 ?_)
      case c5 => have := unhide HQ2; rw [List.length_append] at this; omega
      case c6 => omega
      intro v3 w3 hown hg hat
      have hk3 : Kept [] w1 w3 := (unhide HK2).grown hg (fun k hk => by have := ((unhide HO2).lt k hk).1; right; exact this)
      rw [unhide HQ4] at hown
      obtain ⟨ya, yc, hv3⟩ := own_len hown
      subst hv3
      have HO3 := hide hown
      have HK3 := hide hk3
      clear hown hg hat hk3 HO2 HK2 HW2
      go_wp2
      go_roundw
      case rel => exact ⟨k + 1, ya, pn + 1 + M, yc, by omega, rfl, by go_num, hide ⟨by rw [unhide HQ3, List.length_append, List.length_cons]; exact (unhide HQ4).symm, by rw [unhide HQ3]; exact unhide HO3, unhide HK3⟩⟩
      case measure => simp [intOf]; omega
    · have hkn : k = n := by omega
      have hlist : ps.take k = ps := List.take_of_length_le (by rw [← unhide HN]; omega)
      rw [hlist] at HX
      have hpl := laidAll_len ps
      have hpn : pn ≤ 101 * 1048576 := by have := (unhide HX).1; have := unhide HN; omega
      have HPL := hide (laidAll_lt ps (unhide HBB))
      clear hlist hpl
      subst hkn
      generalize hP : laidAll ps = P at HX HPL
      have HP := hide hP
      clear hP
      obtain ⟨hx1, hx2, hx3⟩ := unhide HX
      have HPN := hide hx1
      have HWP : Hid (Wide wr (.slice pa pn pc) P) := hide (Or.inl (Sees.of_own (by rw [← hx1]; exact hx2)))
      have HKR := hide ((unhide HK1).trans hx3 (by simp))
      clear hx1 hx2 hx3 HX
      go_wp2_with fail
      refine (lent_any (P := P) (unhide HWP) (by have := unhide HPN; omega)).mono ?_
      rintro e w2 ⟨g, gc, he, hgc, hgo, hk2⟩
      rw [← unhide HPN] at he hgc hgo
      subst he
      have hgo' : w2.ownsRow wr.heap.size 5 1 (.slice (some ⟨g, 0, none⟩) pn gc) pn (u8s P) := by
        have h9 := own_take (k := pn) hgo (by omega)
        have e9 : (u8s (P ++ [201, 77])).take pn = u8s P := by rw [u8s_append, List.take_left' (by rw [u8s_length, ← unhide HPN])]
        rw [e9] at h9; exact h9
      have hq : w2.cell? ⟨g, pn, none⟩ = some (.int .u8 201) ∧ w2.cell? ⟨g, pn + 1, none⟩ = some (.int .u8 77) := by
        rw [u8s_b8s] at hgo
        have e1 := ownI_cell hgo (k := pn) (by rw [List.length_map, List.length_append, ← unhide HPN]; simp)
        have e2 := ownI_cell hgo (k := pn + 1) (by rw [List.length_map, List.length_append, ← unhide HPN]; simp)
        have f1 : ((P ++ [201, 77]).map fun x : Nat => (x : Int)).getD pn 0 = 201 := by
          rw [List.getD, List.getElem?_map, List.getElem?_append_right (by rw [← unhide HPN]; omega), ← unhide HPN]; simp
        have f2 : ((P ++ [201, 77]).map fun x : Nat => (x : Int)).getD (pn + 1) 0 = 77 := by
          rw [List.getD, List.getElem?_map, List.getElem?_append_right (by rw [← unhide HPN]; omega), ← unhide HPN]; simp
        rw [f1] at e1
        rw [f2] at e2
        exact ⟨e1, e2⟩
      have hgl : g < w2.heap.size := (hgo.lt g rfl).2
      have HQ := hide hq
      have HG2 := hide ((Good.nil (unhide HKR)).push hk2 (obV 5 (.slice (some ⟨g, 0, none⟩) pn gc) pn (u8s P)) (obV_stays _ _ _ _) (own_zero hgo') (fun x hx => hgo'.lt x (obV_foot hx)))
      have HGO := hide hgo'
      have HK2 := hide hk2
      clear hgo hgo' hk2 hq
      simp only [List.nil_append] at HG2
      -- r
      go_wp2_with fail
      refine (read_s (bs := P) (Sees.of_own (by rw [← unhide HPN]; exact unhide HGO)) (by have := unhide HPN; omega) (unhide HPL)).mono ?_
      rintro e w3 ⟨rb, RF, rfl, hr3, hrf3, hk3⟩
      have HG3 := hide ((unhide HG2).push hk3 (obR rb RF ⟨0, P, []⟩) (obR_stays _ _ _) hr3 (fun x hx => ⟨hrf3 x hx, hr3.lt x hx⟩))
      have HGO3 := hide (own_kept (unhide HGO) hk3 (by simp))
      have HK3 := hide ((unhide HK2).trans hk3 (by simp))
      have HK23 := hide hk3
      clear hr3 hrf3 hk3 HG2
      simp only [List.cons_append, List.nil_append] at HG3
      -- s
      go_wp2_with fail
      refine (read_s (bs := P) (Sees.of_own (by rw [← unhide HPN]; exact unhide HGO3)) (by have := unhide HPN; omega) (unhide HPL)).mono ?_
      rintro e w4 ⟨sb, SF, rfl, hr4, hrf4, hk4⟩
      have HG4 := hide ((unhide HG3).push hk4 (obR sb SF ⟨0, P, []⟩) (obR_stays _ _ _) hr4 (fun x hx => ⟨hrf4 x hx, hr4.lt x hx⟩))
      have HGO4 := hide (own_kept (unhide HGO3) hk4 (by simp))
      have HK4 := hide ((unhide HK3).trans hk4 (by simp))
      have hq4 : w4.cell? ⟨g, pn, none⟩ = some (.int .u8 201) ∧ w4.cell? ⟨g, pn + 1, none⟩ = some (.int .u8 77) := by
        have k24 : Kept [] w2 w4 := (unhide HK23).trans hk4 (by simp)
        exact ⟨by rw [k24.cell (p := ⟨g, pn, none⟩) hgl (by simp)]; exact (unhide HQ).1, by rw [k24.cell (p := ⟨g, pn + 1, none⟩) hgl (by simp)]; exact (unhide HQ).2⟩
      have HQ4 := hide hq4
      clear hr4 hrf4 hk4 hq4 HG3 HQ HK23
      simp only [List.cons_append, List.nil_append] at HG4
      go_wp2_with fail
      refine (kept_yes (unhide HPN) (by omega) hgc (Sees.of_own (by rw [← unhide HPN]; exact unhide HGO4)) ((unhide HWP).kept (unhide HK4)) (unhide HQ4).1 (unhide HQ4).2).mono ?_
      rintro e w' ⟨rfl, m4, rfl⟩
      have k45 : Kept [] w4 (w4.drewN m4) := (Kept.refl [] w4).drewN _
      have HG5 := hide ((unhide HG4).kept k45)
      have HGO5 := hide (own_kept (unhide HGO4) k45 (by simp))
      clear k45 HG4 HGO4 HQ4 HK4 HGO3 HK3 HGO HK2 HWP
      generalize w4.drewN m4 = w5 at *
      -- spoil
      go_wp2_with fail
      refine (spoil_any (unhide HPL) (by omega) (unhide HGO5)).mono ?_
      rintro e w6 ⟨rfl, hg6, hk6⟩
      have HG6 := hide (Good.turn [] _ _ (unhide HG5) hk6 (obV 5 (.slice (some ⟨g, 0, none⟩) pn gc) pn (u8s (turn P))) (obV_stays _ _ _ _) (own_zero hg6) (fun x hx => ⟨Or.inl hx, (hg6.lt x (obV_foot hx)).2⟩))
      have HTN := hide (show pn = (turn P).length by rw [turn_len]; exact unhide HPN)
      have HGS := hide (Sees.of_own (bs := turn P) (by rw [← unhide HTN]; exact hg6))
      clear hg6 hk6 HG5 HGO5
      simp only [List.nil_append] at HG6
      -- t
      go_wp2_with fail
      refine (read_s (bs := turn P) (unhide HGS) (by have := unhide HTN; omega) (turn_lt P)).mono ?_
      rintro e w7 ⟨tb, TF, rfl, hr7, hrf7, hk7⟩
      have HG7 := hide ((unhide HG6).push hk7 (obR tb TF ⟨0, turn P, []⟩) (obR_stays _ _ _) hr7 (fun x hx => ⟨hrf7 x hx, hr7.lt x hx⟩))
      have HGS7 := hide ((unhide HGS).kept hk7 (by simp))
      clear hr7 hrf7 hk7 HG6 HGS
      simp only [List.cons_append, List.nil_append] at HG7
      -- u
      go_wp2_with (at_builtin; refine wpList_twin8 (wx := w7) rfl _ _ rfl rfl _ (turn P) rfl (unhide HGS7) pn (unhide HTN).symm (by omega) ?_)
      intro za zc w8 hw8 hk8
      have HG8 := hide ((unhide HG7).kept hk8)
      have HZ8 := hide (Sees.of_own (bs := turn P) (by rw [← unhide HTN]; exact hw8))
      have HGS8 := hide ((unhide HGS7).kept hk8 (by simp))
      clear hw8 hk8 HG7 HGS7
      go_wp2_with fail
      refine (read_s (bs := turn P) (unhide HZ8) (by have := unhide HTN; omega) (turn_lt P)).mono ?_
      rintro e w9 ⟨ub, UF, rfl, hr9, hrf9, hk9⟩
      have HG9 := hide ((unhide HG8).push hk9 (obR ub UF ⟨0, turn P, []⟩) (obR_stays _ _ _) hr9 (fun x hx => ⟨hrf9 x hx, hr9.lt x hx⟩))
      clear hr9 hrf9 hk9 HG8 HZ8 HGS8
      simp only [List.cons_append, List.nil_append] at HG9
      have HGA : Hid (Good w w9 (all6 (obRow (.slice (some ⟨g, 0, none⟩) pn gc, turn P)) (obR rb RF ⟨0, P, []⟩) (obR sb SF ⟨0, P, []⟩) (obR tb TF ⟨0, turn P, []⟩) (obR ub UF ⟨0, turn P, []⟩) (obV 22 (.slice none 0 0) 0 []) [])) := hide (by
        have h9 := (unhide HG9).push (Kept.refl [] w9) (obV 22 (.slice none 0 0) 0 []) (obV_stays _ _ _ _) (World.ownsRow_nil _ 0 _ _) (fun x hx => by have := obV_foot hx; cases this)
        have e9 : obV 5 (.slice (some ⟨g, 0, none⟩) pn gc) pn (u8s (turn P)) = obRow (.slice (some ⟨g, 0, none⟩) pn gc, turn P) := by
          show _ = obV 5 (.slice (some ⟨g, 0, none⟩) pn gc) (turn P).length (u8s (turn P))
          rw [← unhide HTN]
        rw [e9] at h9
        exact h9)
      clear HG9
      obtain ⟨i22, hi2, hy0, hy1, hy2⟩ := info_parts info22p
      have HI22 := hide (⟨hi2, hy0, hy1, hy2⟩ : _ ∧ _ ∧ _ ∧ _)
      clear hi2 hy0 hy1 hy2
      go_wp2_with fail
      go_loopw [11, 12] (fun al i wr => ∃ (j : Nat) (aa : Option Addr) (ac : Nat) (rs : List (Value × List Nat)) (SF : List Nat), j ≤ k ∧ al = .slice aa (2 * j) ac ∧ i = .int .i64 j ∧ Hid (rs.length = 2 * j ∧ (∀ q ∈ rs, q.2.length ≤ 100) ∧ Good w wr (all6 (obRow (.slice (some ⟨g, 0, none⟩) pn gc, turn P)) (obR rb RF ⟨0, laidAll (ps.drop j), []⟩) (obR sb SF ⟨0, laidAll (ps.drop j), []⟩) (obR tb TF ⟨0, turn P, []⟩) (obR ub UF ⟨0, turn P, []⟩) (obV 22 (.slice aa (2 * j) ac) (2 * j) (rs.map (·.1))) rs))) (fun _ i _ => k - (intOf i).toNat)
      case atStart => exact ⟨0, none, 0, [], SF, by omega, rfl, rfl, hide ⟨rfl, by simp, by rw [List.drop_zero, unhide HP]; exact unhide HGA⟩⟩
      case round =>
        clear HGA
        obtain ⟨j, aa, ac, rs, SF, hj, rfl, rfl, HX⟩ := hrel
        by_cases hlt : j < k
        · have hkl : j < ps.length := by rw [← unhide HN]; exact hlt
          obtain ⟨ra, rc, hv, hrow⟩ := unhide HP0
          obtain ⟨hb, vb, off, va, vc, ha, hvb, hcell0, hc1, hc2, hwide⟩ := hrow j ps[j] (List.getElem?_eq_getElem hkl)
          have e0 : a0 = some ⟨vb, off, none⟩ := by simp only [Value.slice.injEq] at hv; rw [hv.1]; exact ha
          subst e0
          have hcell : wr.cell? ⟨vb, off + j, none⟩ = some (.slice va ps[j].length vc) := by rw [(unhide HX).2.2.kp.cell (p := ⟨vb, off + j, none⟩) hvb (by simp)]; exact hcell0
          clear hcell0 hvb hb
          have hld := laid_drop ps j hkl
          obtain ⟨rest, hrest⟩ : ∃ rest, rest = laidAll (ps.drop (j + 1)) := ⟨_, rfl⟩
          rw [← hrest] at hld
          have HREST := hide hrest
          clear hv ha hrow hrest
          generalize ps[j] = q at *
          obtain ⟨L, hL⟩ : ∃ L, L = q.length := ⟨_, rfl⟩
          rw [← hL] at hcell hc1 hwide
          have hWc : Wide w (.slice va (min L 100) vc) (cut1 q) := by
            by_cases h1 : 100 < L
            · rw [Nat.min_eq_right (by omega)]; exact hwide.head hL (by omega) (by omega) (by omega) (Nat.le_refl _)
            · rw [Nat.min_eq_left (by omega)]
              have : cut1 q = q := by unfold cut1; exact List.take_of_length_le (by omega)
              rw [this]; exact hwide
          have hMl : min L 100 = (cut1 q).length := by simp [cut1, hL]; omega
          rw [← hMl] at hld
          rw [hld] at HX
          have HWC := hide hWc
          have HML := hide hMl
          have hM : min L 100 ≤ 100 := by omega
          clear hWc hMl hwide hL hld
          go_upto_if 78 with fail
          go_cut [13] (fun t wc => t = .slice va (min L 100) vc ∧ wr = wc)
          case first =>
            by_cases h1 : 100 < L
            · have h1' : ((L : Int) > 100) = True := by simp; omega
              have h1'' : ((100 : Int) < (L : Int)) = True := by simp; omega
              have h2 : 100 ≤ vc := by omega
              have HE := hide (show min L 100 = 100 by omega)
              go_wp2_with fail
              go_meet
              exact ⟨by rw [unhide HE], rfl⟩
            · have h1' : ((L : Int) > 100) = False := by simp; omega
              have h1'' : ((100 : Int) < (L : Int)) = False := by simp; omega
              have HE := hide (show min L 100 = L by omega)
              go_wp2_with fail
              go_meet
              exact ⟨by rw [unhide HE], rfl⟩
          case rest =>
          obtain ⟨rfl, rfl⟩ := hcut
          generalize min L 100 = M at *
          have HCT := hide (show (cut1 q ++ rest).take M = cut1 q ∧ (cut1 q ++ rest).drop M = rest ∧ M ≤ (cut1 q ++ rest).length by rw [unhide HML]; exact ⟨List.take_left' rfl, List.drop_left' rfl, by simp⟩)
          -- a
          have hRs := (unhide HX).2.2.is_ (obR rb RF ⟨0, M :: (cut1 q ++ rest), []⟩) (by simp [all6])
          have HRs := hide hRs
          clear hRs
          go_wp2_with fail
          refine (rtext_new (unhide HRs) rfl M 100 (cut1 q ++ rest) (read_m M _ hM) hM (by omega) (unhide HCT).2.2).mono ?_
          rintro e w10 ⟨xa, xc, rfl, ho, hr, hkk⟩
          rw [(unhide HCT).1] at ho
          rw [(unhide HCT).2.1] at hr
          have HX1 := hide (And.intro (unhide HX).1 (And.intro (unhide HX).2.1 (all6_newR (unhide HX).2.2 hkk hr (.slice xa M xc) (cut1 q) (by rw [← unhide HML]; exact ho))))
          clear ho hr hkk HX HRs
          -- n
          have hSs := (unhide HX1).2.2.is_ (obR sb SF ⟨0, M :: (cut1 q ++ rest), []⟩) (by simp [all6])
          have HSs := hide hSs
          clear hSs
          have HEN := hide (rEnter_one M (cut1 q) rest hM (unhide HML))
          go_wp2_with fail
          refine (renter_s (unhide HSs)).mono ?_
          rintro e w11 ⟨rfl, hp⟩
          rw [unhide HEN] at hp ⊢
          obtain ⟨SF2, hg2⟩ := all6_S (unhide HX1).2.2 hp
          have HX2 := hide (And.intro (unhide HX1).1 (And.intro (unhide HX1).2.1 hg2))
          clear hp hg2 HX1 HSs HEN
          -- b
          have hSs := (unhide HX2).2.2.is_ (obR sb SF2 ⟨0, cut1 q, [rest]⟩) (by simp [all6])
          have HSs := hide hSs
          clear hSs
          go_wp2_with fail
          refine (rraw_new (unhide HSs) rfl M (by show M ≤ (cut1 q).length; rw [← unhide HML]; exact Nat.le_refl _)).mono ?_
          rintro e w12 ⟨ba, bc, rfl, ho, hr, hkk⟩
          have ec1 : (cut1 q).take M = cut1 q := by rw [unhide HML, List.take_length]
          have ec2 : (cut1 q).drop M = [] := by rw [unhide HML, List.drop_length]
          simp only at ho hr
          rw [ec1] at ho
          rw [ec2] at hr
          have HX3 := hide (And.intro (unhide HX2).1 (And.intro (unhide HX2).2.1 (all6_newS (unhide HX2).2.2 hkk hr (.slice ba M bc) (cut1 q) (by rw [← unhide HML]; exact ho))))
          clear ho hr hkk HX2 HSs ec1 ec2
          -- Leave
          have hSs := (unhide HX3).2.2.is_ (obR sb SF2 ⟨0, [], [rest]⟩) (by simp [all6])
          have HSs := hide hSs
          clear hSs
          have HLV := hide (show rLeave ⟨0, [], [rest]⟩ = ⟨0, rest, []⟩ by simp [rLeave])
          go_wp2_with fail
          refine (rleave_s (unhide HSs)).mono ?_
          rintro e w13 ⟨rfl, hp⟩
          rw [unhide HLV] at hp
          obtain ⟨SF3, hg3⟩ := all6_S (unhide HX3).2.2 hp
          have HX4 := hide (And.intro (unhide HX3).1 (And.intro (unhide HX3).2.1 hg3))
          clear hp hg3 HX3 HSs HLV
          have HSA : Hid (∀ m, Calls Try.prog 17 #[.slice xa M xc, .slice va M vc] (w13.drewN m) fun e w' => e = .returned (.bool true) ∧ ∃ m', w' = (w13.drewN m).drewN m') := hide fun m => by
            have k9 : Kept [] w13 (w13.drewN m) := (Kept.refl [] w13).drewN m
            have h1 : w13.ownsRow 0 5 1 (.slice xa M xc) (cut1 q).length (u8s (cut1 q)) := (unhide HX4).2.2.is_ (obRow (.slice xa M xc, cut1 q)) (by simp [all6])
            exact same_yesE ((Sees.of_own h1).kept k9 (by simp)) ((unhide HWC).kept ((unhide HX4).2.2.kp.trans k9 (by simp))) (by rw [← unhide HML]; omega)
          have HSB : Hid (∀ m, Calls Try.prog 17 #[.slice ba M bc, .slice va M vc] (w13.drewN m) fun e w' => e = .returned (.bool true) ∧ ∃ m', w' = (w13.drewN m).drewN m') := hide fun m => by
            have k9 : Kept [] w13 (w13.drewN m) := (Kept.refl [] w13).drewN m
            have h1 : w13.ownsRow 0 5 1 (.slice ba M bc) (cut1 q).length (u8s (cut1 q)) := (unhide HX4).2.2.is_ (obRow (.slice ba M bc, cut1 q)) (by simp [all6])
            exact same_yesE ((Sees.of_own h1).kept k9 (by simp)) ((unhide HWC).kept ((unhide HX4).2.2.kp.trans k9 (by simp))) (by rw [← unhide HML]; omega)
          go_wp2_with fail
          refine (unhide HSA 0).mono ?_
          rintro e w' ⟨rfl, m13, rfl⟩
          go_wp2_with fail
          refine (unhide HSB _).mono ?_
          rintro e w' ⟨rfl, m13b, rfl⟩
          have k1314 : Kept [] w13 ((w13.drewN m13).drewN m13b) := ((Kept.refl [] w13).drewN _).drewN _
          have HX5 := hide (And.intro (unhide HX4).1 (And.intro (unhide HX4).2.1 ((unhide HX4).2.2.kept k1314)))
          clear k1314 HX4 HSA HSB
          generalize (w13.drewN m13).drewN m13b = w14 at *
          -- all = append(all, a, b)
          have HOA : Hid (w14.ownsRow 0 22 1 (.slice aa (2 * j) ac) (2 * j) (rs.map (·.1))) := hide ((unhide HX5).2.2.is_ (obV 22 (.slice aa (2 * j) ac) (2 * j) (List.map (fun x : Value × List Nat => x.1) rs)) (by simp [all6]))
          go_wp2_with (at_builtin; refine wpList_append_own_at _ rfl _ _ 58 rfl 0 22 i22 (.slice none 0 0) 1 24 Try.underlying58 (unhide HI22).1 (unhide HI22).2.1 (unhide HI22).2.2.1 (unhide HI22).2.2.2 rfl (by decide) _ _ _ rfl ((unhide HOA).alloc _) ⟨w14.heap.size, 0, none⟩ 2 2 [.slice xa M xc, .slice ba M bc] rfl rfl (cells_new _ [.slice xa M xc, .slice ba M bc] _) (by simp [Value.oneCell']) (by unfold maxLen; omega) (by omega) (by simp) ?_)
          intro v15 w15 ho15 hg15 _ hat15
          obtain ⟨na, nc, hv15⟩ := own_len ho15
          subst hv15
          have hkal : Kept [] w14 (w14.alloc (.cells #[.slice xa M xc, .slice ba M bc] 22)) := (Kept.refl [] w14).alloc _
          have HX6 : Hid (Good w w15 (all6 (obRow (.slice (some ⟨g, 0, none⟩) pn gc, turn P)) (obR rb RF ⟨0, rest, []⟩) (obR sb SF3 ⟨0, rest, []⟩) (obR tb TF ⟨0, turn P, []⟩) (obR ub UF ⟨0, turn P, []⟩) (obV 22 (.slice na (2 * j + 2) nc) (2 * j + 2) (rs.map (·.1) ++ [.slice xa M xc, .slice ba M bc])) (rs ++ [(.slice xa M xc, cut1 q)] ++ [(.slice ba M bc, cut1 q)]))) := hide (all6_A ((unhide HX5).2.2.kept hkal) ((Kept.refl _ _).grown hg15 (fun k hk => Or.inl (by rw [hk]; simp))) ho15 (fun x hx => by
            rcases hat15 with h1 | h1
            · left; rw [← h1]; exact hx
            · right; rw [h1] at hx; simp at hx; rw [← hx]; simp))
          clear ho15 hg15 hat15 hkal HOA
          go_wp2
          go_roundw
          case rel =>
            refine ⟨j + 1, na, nc, rs ++ [(.slice xa M xc, cut1 q)] ++ [(.slice ba M bc, cut1 q)], SF3, by omega, rfl, by go_num, hide ⟨?_, ?_, ?_⟩⟩
            · have := (unhide HX5).1; simp; omega
            · intro z hz
              simp only [List.mem_append, List.mem_cons, List.not_mem_nil, or_false] at hz
              rcases hz with (h1 | h1) | h1
              · exact (unhide HX5).2.1 z h1
              · subst h1; exact cut1_le q
              · subst h1; exact cut1_le q
            · have h9 := unhide HX6
              rw [← unhide HREST]
              have e9 : (rs ++ [(Value.slice xa M xc, cut1 q)] ++ [(Value.slice ba M bc, cut1 q)]).map (·.1) = rs.map (·.1) ++ [.slice xa M xc, .slice ba M bc] := by simp
              rw [e9]
              exact h9
          case measure => simp [intOf]; omega
        · have hjk : j = k := by omega
          subst hjk
          have hnil : ps.drop j = [] := List.drop_of_length_le (by rw [← unhide HN]; exact Nat.le_refl _)
          rw [hnil] at HX
          have HX : Hid (rs.length = 2 * j ∧ (∀ q ∈ rs, q.2.length ≤ 100) ∧ Good w wr (all6 (obRow (.slice (some ⟨g, 0, none⟩) pn gc, turn P)) (obR rb RF ⟨0, [], []⟩) (obR sb SF ⟨0, [], []⟩) (obR tb TF ⟨0, turn P, []⟩) (obR ub UF ⟨0, turn P, []⟩) (obV 22 (.slice aa (2 * j) ac) (2 * j) (rs.map (·.1))) rs)) := HX
          clear hnil
          have HTK := hide (show (turn P).take pn = turn P ∧ (turn P).drop pn = [] ∧ pn ≤ (turn P).length by rw [unhide HTN]; exact ⟨List.take_length, List.drop_length, Nat.le_refl _⟩)
          -- x
          have HTs : Hid (Rs wr tb TF ⟨0, turn P, []⟩) := hide ((unhide HX).2.2.is_ (obR tb TF ⟨0, turn P, []⟩) (by simp [all6]))
          go_wp2_with fail
          refine (rraw_new (unhide HTs) rfl pn (unhide HTK).2.2).mono ?_
          rintro e w10 ⟨xa, xc, rfl, ho, hr, hkk⟩
          simp only at ho hr
          rw [(unhide HTK).1] at ho
          rw [(unhide HTK).2.1] at hr
          have HX1 := hide (And.intro (unhide HX).1 (And.intro (unhide HX).2.1 (all6_newT (unhide HX).2.2 hkk hr (.slice xa pn xc) (turn P) (by rw [← unhide HTN]; exact ho))))
          clear ho hr hkk HX HTs
          -- y
          have HUs : Hid (Rs w10 ub UF ⟨0, turn P, []⟩) := hide ((unhide HX1).2.2.is_ (obR ub UF ⟨0, turn P, []⟩) (by simp [all6]))
          go_wp2_with fail
          refine (rraw_new (unhide HUs) rfl pn (unhide HTK).2.2).mono ?_
          rintro e w11 ⟨ya, yc, rfl, ho, hr, hkk⟩
          simp only at ho hr
          rw [(unhide HTK).1] at ho
          rw [(unhide HTK).2.1] at hr
          have HX2 := hide (And.intro (unhide HX1).1 (And.intro (unhide HX1).2.1 (all6_newU (unhide HX1).2.2 hkk hr (.slice ya pn yc) (turn P) (by rw [← unhide HTN]; exact ho))))
          clear ho hr hkk HX1 HUs
          have HSx : Hid (Sees w11 (.slice xa pn xc) (turn P)) := hide (Sees.of_own (base := 0) ((unhide HX2).2.2.is_ (obRow (.slice xa pn xc, turn P)) (by simp [all6])))
          have HSy : Hid (Sees w11 (.slice ya pn yc) (turn P)) := hide (Sees.of_own (base := 0) ((unhide HX2).2.2.is_ (obRow (.slice ya pn yc, turn P)) (by simp [all6])))
          have HSg : Hid (Sees w11 (.slice (some ⟨g, 0, none⟩) pn gc) (turn P)) := hide (Sees.of_own (base := 0) ((unhide HX2).2.2.is_ (obRow (.slice (some ⟨g, 0, none⟩) pn gc, turn P)) (by simp [all6])))
          have HSM1 : Hid (∀ m, Calls Try.prog 17 #[.slice xa pn xc, .slice ya pn yc] (w11.drewN m) fun e w' => e = .returned (.bool true) ∧ ∃ m', w' = (w11.drewN m).drewN m') := hide fun m => same_yesE ((unhide HSx).kept ((Kept.refl [] w11).drewN m) (by simp)) (Or.inl ((unhide HSy).kept ((Kept.refl [] w11).drewN m) (by simp))) (by rw [← unhide HTN]; omega)
          have HSM2 : Hid (∀ m, Calls Try.prog 17 #[.slice xa pn xc, .slice (some ⟨g, 0, none⟩) pn gc] (w11.drewN m) fun e w' => e = .returned (.bool true) ∧ ∃ m', w' = (w11.drewN m).drewN m') := hide fun m => same_yesE ((unhide HSx).kept ((Kept.refl [] w11).drewN m) (by simp)) (Or.inl ((unhide HSg).kept ((Kept.refl [] w11).drewN m) (by simp))) (by rw [← unhide HTN]; omega)
          have HDR : Hid (∀ W, Kept [] w11 W → Calls Try.prog 14 #[.pointer (some ⟨rb, 0, none⟩)] W fun e w' => e = .returned (.int .i64 0) ∧ W = w') := hide fun W kW => by
            have h1 : Rs w11 rb RF ⟨0, [], []⟩ := (unhide HX2).2.2.is_ (obR rb RF ⟨0, [], []⟩) (by simp [all6])
            exact rdone_s (h1.kept kW (by simp))
          have HDS : Hid (∀ W, Kept [] w11 W → Calls Try.prog 14 #[.pointer (some ⟨sb, 0, none⟩)] W fun e w' => e = .returned (.int .i64 0) ∧ W = w') := hide fun W kW => by
            have h1 : Rs w11 sb SF ⟨0, [], []⟩ := (unhide HX2).2.2.is_ (obR sb SF ⟨0, [], []⟩) (by simp [all6])
            exact rdone_s (h1.kept kW (by simp))
          go_wp2_with fail
          refine (unhide HSM1 0).mono ?_
          rintro e w' ⟨rfl, m11, rfl⟩
          go_wp2_with fail
          refine (unhide HSM2 _).mono ?_
          rintro e w' ⟨rfl, m11b, rfl⟩
          go_wp2_with fail
          refine (unhide HDR _ ((Kept.refl [] w11).drewN _)).mono ?_
          rintro e w' ⟨rfl, rfl⟩
          go_wp2_with fail
          refine (unhide HDS _ ((Kept.refl [] w11).drewN _)).mono ?_
          rintro e w' ⟨rfl, rfl⟩
          have k1112 : Kept [] w11 (w11.drewN (m11 + m11b)) := (Kept.refl [] w11).drewN _
          have HX3 := hide (And.intro (unhide HX2).1 (And.intro (unhide HX2).2.1 ((unhide HX2).2.2.kept k1112)))
          clear k1112 HX2 HSM1 HSM2 HDR HDS HSx HSy HSg
          generalize w11.drewN (m11 + m11b) = w12 at *
          -- all = append(all, x, y, given)
          have HOA : Hid (w12.ownsRow 0 22 1 (.slice aa (2 * j) ac) (2 * j) (rs.map (·.1))) := hide ((unhide HX3).2.2.is_ (obV 22 (.slice aa (2 * j) ac) (2 * j) (List.map (fun x : Value × List Nat => x.1) rs)) (by simp [all6]))
          go_wp2_with (at_builtin; refine wpList_append_own_at _ rfl _ _ 58 rfl 0 22 i22 (.slice none 0 0) 1 24 Try.underlying58 (unhide HI22).1 (unhide HI22).2.1 (unhide HI22).2.2.1 (unhide HI22).2.2.2 rfl (by decide) _ _ _ rfl ((unhide HOA).alloc _) ⟨w12.heap.size, 0, none⟩ 3 3 [.slice xa pn xc, .slice ya pn yc, .slice (some ⟨g, 0, none⟩) pn gc] rfl rfl (cells_new _ [.slice xa pn xc, .slice ya pn yc, .slice (some ⟨g, 0, none⟩) pn gc] _) (by simp [Value.oneCell']) (by unfold maxLen; omega) (by omega) (by simp) ?_)
          intro v13 w13 ho13 hg13 _ hat13
          obtain ⟨ab, nc, hv13⟩ : ∃ ab nc, v13 = .slice (some ⟨ab, 0, none⟩) (2 * j + 3) nc := by
            rcases ho13.2 with ⟨_, h2⟩ | ⟨g', cap', cur, hv, _⟩
            · omega
            · exact ⟨g', cap', hv⟩
          subst hv13
          have hkal : Kept [] w12 (w12.alloc (.cells #[.slice xa pn xc, .slice ya pn yc, .slice (some ⟨g, 0, none⟩) pn gc] 22)) := (Kept.refl [] w12).alloc _
          have HX4 := hide (all6_fin (all6_A ((unhide HX3).2.2.kept hkal) ((Kept.refl _ _).grown hg13 (fun k hk => Or.inl (by rw [hk]; simp))) ho13 (fun x hx => by
            rcases hat13 with h1 | h1
            · left; rw [← h1]; exact hx
            · right; rw [h1] at hx; simp at hx; rw [← hx]; simp)))
          clear ho13 hg13 hat13 hkal HOA
          have HAP : Hid (Calls Try.prog 35 #[.slice (some ⟨ab, 0, none⟩) (2 * j + 3) nc] w13 fun e w' => e = .returned (.bool true) ∧ Kept [] w w') := hide (by
            have hql : (rs ++ [(Value.slice xa pn xc, turn P)] ++ [(Value.slice ya pn yc, turn P)] ++ [(Value.slice (some ⟨g, 0, none⟩) pn gc, turn P)]).length = 2 * j + 3 := by have := (unhide HX3).1; simp; omega
            have hqm : (rs ++ [(Value.slice xa pn xc, turn P)] ++ [(Value.slice ya pn yc, turn P)] ++ [(Value.slice (some ⟨g, 0, none⟩) pn gc, turn P)]).map (·.1) = rs.map (·.1) ++ [.slice xa pn xc, .slice ya pn yc, .slice (some ⟨g, 0, none⟩) pn gc] := by simp
            have h9 := unhide HX4
            rw [← hqm, ← hql] at h9
            have h8 := apart_good h9 (by rw [hql]; omega) (fun z hz => by
              simp only [List.mem_append, List.mem_cons, List.not_mem_nil, or_false] at hz
              have ht := unhide HTN
              rcases hz with ((h1 | h1) | h1) | h1
              · have := (unhide HX3).2.1 z h1; omega
              · subst h1; simp only; omega
              · subst h1; simp only; omega
              · subst h1; simp only; omega)
            rw [hql] at h8
            exact h8)
          go_wp2_with fail
          refine (unhide HAP).mono ?_
          rintro e w14 ⟨rfl, hk14⟩
          have HK14 := hide hk14
          clear hk14
          go_wp2
          go_ret
          exact ⟨rfl, unhide HK14⟩
end Go.Proofs.Ytiabhgkndejigab
