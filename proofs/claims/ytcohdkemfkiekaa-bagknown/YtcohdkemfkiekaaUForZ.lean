/- For. -/
import Derived.Test.YtcohdkemfkiekaaUWt2Z
import Derived.Test.YtcohdkemfkiekaaUSinZ
import Derived.Shelf.SortG.SortNone
namespace Go.Proofs.Ytcohdkemfkiekaa
open Go.RowKit Go.Maps Go.Sort
set_option linter.unusedSimpArgs false

/-- The numbers of what goes to one. -/
def numsTo (row : List (Int × Ms)) (t : Int) : List Int := (row.filter fun p => decide (p.2.dst = t)).map Prod.fst
theorem info_int : (Try.prog.info? 3).map (fun i => (i.zero, i.size, i.bytes)) = some (some (.int .i64 0), 1, 8) := by kernel_rfl
/-- 'append(numbers, n)'. -/
theorem wpList_append_num {w0 : World} (w : World) {ops : Array Oper} {rest : List Oper} {o : Oper} {a : Act} {Q : Exit → Act → World → Prop} (hgd : o.guard = none) (s x : Operand)
    (ho : o.op = .call { callee := .builtin .append, args := #[s, x], argTypes := #[50, 50] })
    {v : Value} {l : List Int} (hs : a.eval s = v) (hk : Hid (Kept [] w0 w)) (hown : Hid (w.ownsRow w0.heap.size 3 1 v l.length (ints l)))
    {b : Nat} {e : Int} (hxv : a.eval x = .slice (some ⟨b, 0, none⟩) 1 1) (hb : Hid (Blk w b #[.int .i64 e] 3)) (hl : Hid (l.length + 1 ≤ 1048576))
    (h : ∀ va' n' vc' w', Hid (n' = l.length + 1) → Hid (w'.ownsRow w0.heap.size 3 1 (.slice va' n' vc') (l ++ [e]).length (ints (l ++ [e]))) → Hid (Kept [] w0 w') → Hid (∃ row, w.grownBy w' row ∧ ∀ q, row = some q → v.ownBlock = some q) → wpList Try.prog ops Q rest (a.put o.dst (.slice va' n' vc')) w') :
    wpList Try.prog ops Q (o :: rest) a w := by
  obtain ⟨i0, hi, hz0, hz1, hz2⟩ := info_parts info_int
  have h1 := unhide hown
  have hk' : Kept [] w0 w := hk
  have hl' : l.length + 1 ≤ 1048576 := hl
  refine wpList_append_own_at w hgd s x 50 ho w0.heap.size 3 i0 _ 1 8 Try.underlying50 hi hz0 hz1 hz2 rfl (by decide) v l.length (ints l) hs h1 ⟨b, 0, none⟩ 1 1 [.int .i64 e] hxv (by simp) (fun j y hj => ?_) (by
      intro y hy; simp at hy; subst hy; rfl) (by unfold maxLen; omega) (by omega) hk'.size ?_
  · have hadd : (⟨b, 0, none⟩ : Addr).add j = ⟨b, j, none⟩ := by unfold Addr.add; split <;> simp_all
    rw [hadd, (unhide hb).cell j]
    simpa using hj
  · intro v' w' q1 q2 q3 q4
    obtain ⟨a', c', rfl⟩ := own_len q1
    refine h a' (l.length + 1) c' w' rfl ?_ (hk'.grown q2 (fun k hkk => Or.inr (h1.lt k hkk).1)) ⟨_, q2, fun q hq => hq⟩
    unfold Hid
    rw [List.length_append, ints_append]
    exact q1
/-- Numbers being collected. -/
structure FInv (w0 wr : World) (mm r : Nat) (row : List (Int × Ms)) (t : Int) (left : Lit → Bool) (cnt : Nat) (v : Value) (l : List Int) : Prop where
  rg : wr.ranges Try.prog 3 RM mm r row.length (Dof row) left cnt
  own : wr.ownsRow w0.heap.size 3 1 v l.length (ints l)
  sub : ∀ x ∈ l, left (.int .i64 x) = false ∧ ∃ m, (x, m) ∈ row ∧ m.dst = t
  all : ∀ p ∈ row, left (.int .i64 p.1) = true ∨ (p.2.dst = t → p.1 ∈ l)
  nn : l.Nodup
  cn : cnt + l.length ≤ row.length
  kept : Kept [] w0 wr
  rw : w0.heap.size ≤ r
  mo : mm < w0.heap.size
theorem FInv.apart {w0 wr : World} {mm r : Nat} {row : List (Int × Ms)} {t : Int} {left : Lit → Bool} {cnt : Nat} {v : Value} {l : List Int} (h : FInv w0 wr mm r row t left cnt v l) : ∀ x, v.ownBlock = some x → x ≠ r ∧ x ≠ mm := by
  obtain ⟨a, b, c, hr⟩ := ranges_obj h.rg
  intro x hx
  refine ⟨fun hm => ?_, fun hm => by have := (h.own.lt x hx).1; have := h.mo; omega⟩
  subst hm
  rcases h.own.2 with ⟨h1, _⟩ | ⟨g, cap, cur, hv, _, hg, _⟩
  · rw [h1] at hx; cases hx
  · rw [hv] at hx; simp [Value.ownBlock] at hx; rw [← hx, hg] at hr; cases hr
theorem FInv.step {w0 w1 w4 : World} {mm r : Nat} {row : List (Int × Ms)} {t : Int} {left : Lit → Bool} {cnt cnt1 : Nat} {v v' : Value} {l : List Int} (h : FInv w0 w1 mm r row t left cnt v l) {x : Int} {m : Ms} (he : (x, m) ∈ row) (hl : left (.int .i64 x) = true) (hc : cnt1 < cnt)
    (hr : w4.ranges Try.prog 3 RM mm r row.length (Dof row) (fun z => left z && !z.sameKey (.int .i64 x)) cnt1) (hs : Rises row) (hk : Kept [] w0 w4) :
    (m.dst = t → w4.ownsRow w0.heap.size 3 1 v' (l ++ [x]).length (ints (l ++ [x])) → FInv w0 w4 mm r row t (fun z => left z && !z.sameKey (.int .i64 x)) cnt1 v' (l ++ [x])) ∧
    (m.dst ≠ t → w4.ownsRow w0.heap.size 3 1 v' l.length (ints l) → FInv w0 w4 mm r row t (fun z => left z && !z.sameKey (.int .i64 x)) cnt1 v' l) := by
  have hne : ∀ y ∈ l, y ≠ x := fun y hy e1 => by have := (h.sub y hy).1; rw [e1, hl] at this; cases this
  have hone : ∀ p ∈ row, p.1 = x → p.2 = m := fun p hp e1 => by
    have h1 := mem_look hs he
    have h2 : look row x = some p.2 := mem_look hs (by rw [← e1]; exact hp)
    rw [h1] at h2
    exact (Option.some.inj h2).symm
  constructor
  · intro hd ho
    refine ⟨hr, ho, fun y hy => ?_, fun p hp => ?_, ?_, ?_, hk, h.rw, h.mo⟩
    · rcases List.mem_append.1 hy with hy | hy
      · exact ⟨by simp [(h.sub y hy).1], (h.sub y hy).2⟩
      · simp at hy; subst hy; exact ⟨by rw [same_int]; simp, m, he, hd⟩
    · by_cases e1 : p.1 = x
      · exact Or.inr (fun _ => by rw [e1]; simp)
      · rcases h.all p hp with h1 | h1
        · exact Or.inl (by rw [h1, same_int]; simp [e1])
        · exact Or.inr (fun h2 => List.mem_append_left _ (h1 h2))
    · rw [List.nodup_append]
      refine ⟨h.nn, by simp, fun a ha b hb => ?_⟩
      simp at hb
      subst hb
      exact hne a ha
    · have := h.cn
      rw [List.length_append]
      simp
      omega
  · intro hd ho
    refine ⟨hr, ho, fun y hy => ⟨by simp [(h.sub y hy).1], (h.sub y hy).2⟩, fun p hp => ?_, h.nn, by have := h.cn; omega, hk, h.rw, h.mo⟩
    by_cases e1 : p.1 = x
    · exact Or.inr (fun h2 => absurd (by rw [← hone p hp e1]; exact h2) hd)
    · rcases h.all p hp with h1 | h1
      · exact Or.inl (by rw [h1, same_int]; simp [e1])
      · exact Or.inr h1
theorem ints_ext : ∀ {a b : List Int}, a.Pairwise (· < ·) → b.Pairwise (· < ·) → (∀ p, p ∈ a ↔ p ∈ b) → a = b
  | [], [], _, _, _ => rfl
  | [], y :: b, _, _, h => by have := (h y).2 (by simp); cases this
  | x :: a, [], _, _, h => by have := (h x).1 (by simp); cases this
  | x :: a, y :: b, ha, hb, h => by
    obtain ⟨a1, a2⟩ := List.pairwise_cons.1 ha
    obtain ⟨b1, b2⟩ := List.pairwise_cons.1 hb
    have e : x = y := by
      have hx := (h x).1 (by simp)
      have hy := (h y).2 (by simp)
      rcases List.mem_cons.1 hx with e | hx
      · exact e
      · rcases List.mem_cons.1 hy with e | hy
        · exact e.symm
        · have h1 := b1 x hx
          have h2 := a1 y hy
          omega
    subst e
    rw [ints_ext a2 b2 (fun p => ⟨fun hp => ?_, fun hp => ?_⟩)]
    · rcases List.mem_cons.1 ((h p).1 (by simp [hp])) with e | h2
      · subst e; have := a1 p hp; omega
      · exact h2
    · rcases List.mem_cons.1 ((h p).2 (by simp [hp])) with e | h2
      · subst e; have := b1 p hp; omega
      · exact h2
theorem FInv.done {w0 wr : World} {mm r : Nat} {row : List (Int × Ms)} {t : Int} {left : Lit → Bool} {cnt : Nat} {v : Value} {l : List Int} (h : FInv w0 wr mm r row t left cnt v l) (hl : ∀ kl, left kl = false) (hs : Rises row) : l.mergeSort (fun x y => decide (x ≤ y)) = numsTo row t := by
  have hp := List.mergeSort_perm l (fun x y => decide (x ≤ y))
  have ho := List.pairwise_mergeSort (le := fun x y : Int => decide (x ≤ y)) (fun a b c h1 h2 => by simp at *; omega) (fun a b => by simp; omega) l
  apply ints_ext
  · have h1 : (l.mergeSort (fun x y => decide (x ≤ y))).Nodup := hp.nodup_iff.2 h.nn
    exact (ho.and h1).imp (fun ⟨h2, h3⟩ => by simp at h2; omega)
  · unfold numsTo
    rw [List.pairwise_map]
    exact List.Pairwise.filter _ hs
  · intro p
    rw [hp.mem_iff]
    unfold numsTo
    constructor
    · intro hx
      obtain ⟨_, m, h1, h2⟩ := h.sub p hx
      exact List.mem_map.2 ⟨(p, m), List.mem_filter.2 ⟨h1, by simpa using h2⟩, rfl⟩
    · intro hx
      obtain ⟨q, hq, rfl⟩ := List.mem_map.1 hx
      obtain ⟨h1, h2⟩ := List.mem_filter.1 hq
      rcases h.all q h1 with h3 | h3
      · rw [hl] at h3; cases h3
      · exact h3 (by simpa using h2)
end Go.Proofs.Ytcohdkemfkiekaa
