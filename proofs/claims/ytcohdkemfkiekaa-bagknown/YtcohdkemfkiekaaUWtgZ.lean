/- Waiting. -/
import Derived.Test.YtcohdkemfkiekaaUSrtZ
import Derived.LoopTactic
namespace Go.Proofs.Ytcohdkemfkiekaa
open Go.RowKit Go.Maps Go.Sort
set_option linter.unusedSimpArgs false

/-- The step of a range over a bag's map. -/
theorem wpList_next_bag (w : World) {ops : Array Oper} {rest : List Oper} {o : Oper} {a : Act} {Q : Exit → Act → World → Prop} (hg : o.guard = none) (it : Operand) (hop : o.op = Op.next it false)
    {mm r n : Nat} {row : List (Int × Ms)} {left : Lit → Bool} {cnt : Nat} (hit : a.eval it = .pointer (some ⟨r, 0, none⟩)) (h : w.ranges Try.prog 3 RM mm r n (Dof row) left cnt)
    (hDone : (∀ kl, left kl = false) → wpList Try.prog ops Q rest (a.put o.dst (.tuple #[.bool false])) w)
    (hMore : ∀ (x : Int) (m : Ms) (w' : World) (cnt' : Nat), (x, m) ∈ row → left (.int .i64 x) = true → cnt' < cnt → w'.ranges Try.prog 3 RM mm r n (Dof row) (fun z => left z && !z.sameKey (.int .i64 x)) cnt' → Kept [r] w w' →
      (Instr.entry (.pointer (some ⟨r, 0, none⟩))).run Try.prog w' = .ok (.tuple #[.int .i64 x, .agg #[.int .i64 m.frm, .int .i64 m.dst, .string (strB m.dat)]]) w' →
      wpList Try.prog ops Q rest (a.put o.dst (.tuple #[.bool true, .int .i64 x, .agg #[.int .i64 m.frm, .int .i64 m.dst, .string (strB m.dat)]])) w') :
    wpList Try.prog ops Q (o :: rest) a w := by
  refine wpList_plain hg fun K' hK' => ?_
  unfold Oper.wp
  rcases h.next keyedI o.type with ⟨h0, hl, hrun⟩ | ⟨key, v, kl, y, w', cnt', hkey, hlk, hv, hat, hrun, hrg, hlt, hgr, hsz, hen⟩
  · simp [execOp, hop, hit, hrun, Result.andThen]
    exact hK' _ _ (hDone hl)
  · obtain ⟨x, rfl, rfl, hwx⟩ := Maps.keyOf_int_inv Try.underlying3 hkey
    obtain ⟨_, rfl⟩ := RM_inv hv
    have hz := hat .nil
    rw [Dof_at] at hz
    cases hl : look row x with
    | none => rw [hl] at hz; simp at hz
    | some m =>
      rw [hl] at hz
      simp at hz
      subst hz
      simp [execOp, hop, hit, hrun, Result.andThen]
      exact hK' _ _ (hMore x m w' cnt' (look_mem hl) hlk hlt hrg ⟨hgr.os, hgr.tape, hgr.output, hgr.size, fun k hk hn => hgr.block k hk (fun e => hn (by simp at e; simp [e]))⟩ hen)
theorem ranges_obj {w : World} {mm r n : Nat} {row : List (Int × Ms)} {left : Lit → Bool} {cnt : Nat} (h : w.ranges Try.prog 3 RM mm r n (Dof row) left cnt) : ∃ a b c, w.heap[r]? = some (.mapIter (some mm) a b c) := by
  obtain ⟨es, clock, since, seen, c0, _, _, _, _, hr, _⟩ := h
  exact ⟨_, _, _, hr⟩
theorem ranges_kept {w w' : World} {F : List Nat} {mm r n : Nat} {row : List (Int × Ms)} {left : Lit → Bool} {cnt : Nat} (h : w.ranges Try.prog 3 RM mm r n (Dof row) left cnt) (k : Kept F w w') (h1 : mm ∉ F) (h2 : r ∉ F) : w'.ranges Try.prog 3 RM mm r n (Dof row) left cnt := by
  have l1 := h.owns.lt
  have l2 := h.lt
  obtain ⟨es, clock, since, seen, c0, hb, F0, hs, hD, hr, rest⟩ := h
  exact ⟨es, clock, since, seen, c0, (k.block mm l1 h1).trans hb, F0, hs, hD, (k.block r l2 h2).trans hr, rest⟩
/-- Letters being collected. -/
structure WInv (w0 wr : World) (mm r : Nat) (row : List (Int × Ms)) (left : Lit → Bool) (cnt : Nat) (v : Value) (l : List Lx) : Prop where
  rg : wr.ranges Try.prog 3 RM mm r row.length (Dof row) left cnt
  lt : Lts w0 wr v l
  sub : ∀ x ∈ l, (x.n, x.m) ∈ row ∧ left (.int .i64 x.n) = false
  all : ∀ p ∈ row, left (.int .i64 p.1) = true ∨ ∃ x ∈ l, (x.n, x.m) = p
  nn : (l.map Lx.n).Nodup
  cn : cnt + l.length ≤ row.length
  kept : Kept [] w0 wr
  rw : w0.heap.size ≤ r
  mo : mm < w0.heap.size
theorem WInv.apart {w0 wr : World} {mm r : Nat} {row : List (Int × Ms)} {left : Lit → Bool} {cnt : Nat} {v : Value} {l : List Lx} (h : WInv w0 wr mm r row left cnt v l) : (∀ x, v.ownBlock = some x → x ∉ [r]) ∧ ∀ x ∈ l, x.g ∉ [r] := by
  obtain ⟨a, b, c, hr⟩ := ranges_obj h.rg
  constructor
  · intro x hx hm
    simp at hm
    subst hm
    rcases h.lt.own.2 with ⟨h1, _⟩ | ⟨g, cap, cur, hv, _, hg, _⟩
    · rw [h1] at hx; cases hx
    · rw [hv] at hx; simp [Value.ownBlock] at hx; rw [← hx, hg] at hr; cases hr
  · intro x hx hm
    simp at hm
    obtain ⟨g, cap, cur, hv, _, _, _, hg, _⟩ := h.lt.dat x hx
    simp [slL] at hv
    rw [← hv.1] at hg
    rw [hm, hr] at hg
    cases hg
/-- One letter more. -/
theorem WInv.push {w0 w1 w4 : World} {mm r : Nat} {row : List (Int × Ms)} {left : Lit → Bool} {cnt cnt1 : Nat} {v v' : Value} {l : List Lx} (h : WInv w0 w1 mm r row left cnt v l) {e : Lx} (he : (e.n, e.m) ∈ row) (hl : left (.int .i64 e.n) = true) (hc : cnt1 < cnt)
    (hr : w4.ranges Try.prog 3 RM mm r row.length (Dof row) (fun z => left z && !z.sameKey (.int .i64 e.n)) cnt1) (hs : Rises row) (ht : Lts w0 w4 v' (l ++ [e])) (hk : Kept [] w0 w4) : WInv w0 w4 mm r row (fun z => left z && !z.sameKey (.int .i64 e.n)) cnt1 v' (l ++ [e]) := by
  have hne : ∀ x ∈ l, x.n ≠ e.n := fun x hx e1 => by have := (h.sub x hx).2; rw [e1, hl] at this; cases this
  refine ⟨hr, ht, fun x hx => ?_, fun p hp => ?_, ?_, ?_, hk, h.rw, h.mo⟩
  · rcases List.mem_append.1 hx with hx | hx
    · exact ⟨(h.sub x hx).1, by simp [(h.sub x hx).2]⟩
    · simp at hx; subst hx; exact ⟨he, by rw [same_int]; simp⟩
  · by_cases e1 : p.1 = e.n
    · refine Or.inr ⟨e, by simp, ?_⟩
      have h1 := mem_look hs he
      have h2 : look row e.n = some p.2 := mem_look hs (by rw [← e1]; exact hp)
      rw [h1] at h2
      have h3 := Option.some.inj h2
      rw [h3, ← e1]
    · rcases h.all p hp with h1 | ⟨x, hx, h1⟩
      · exact Or.inl (by rw [h1, same_int]; simp [e1])
      · exact Or.inr ⟨x, by simp [hx], h1⟩
  · rw [List.map_append, List.nodup_append]
    refine ⟨h.nn, by simp, fun a ha b hb => ?_⟩
    obtain ⟨y, hy, rfl⟩ := List.mem_map.1 ha
    simp at hb
    subst hb
    exact hne y hy
  · have := h.cn
    rw [List.length_append]
    simp
    omega
/-- What Waiting answers: letters by rising numbers, each with data of its own. -/
structure LtsR (w0 w : World) (v : Value) (l : List Lx) : Prop where
  row : ∃ a cap, v = .slice a l.length cap ∧ l.length ≤ cap ∧ cap ≤ maxLen ∧ (l = [] ∨ ∃ g, a = some ⟨g, 0, none⟩ ∧ w0.heap.size ≤ g ∧ g < w.heap.size ∧ HoldsK ltrC 4 w g 0 l.toArray)
  dat : ∀ x ∈ l, DatP w w0.heap.size (slL x) x.m.dat
  ap : ∀ x ∈ l, v.ownBlock ≠ some x.g
  nd : (l.map Lx.g).Nodup
def WaitP (w : World) (row : List (Int × Ms)) (e : Ending) (w' : World) : Prop := ∃ v l, e = .returned v ∧ l.map (fun x : Lx => (x.n, x.m)) = row ∧ LtsR w w' v l ∧ Kept [] w w'
set_option maxRecDepth 100000 in
theorem nwait (w : World) : Calls Try.prog 18 #[.pointer none] w (WaitP w []) := by
  go_enter Try.func18, Try.ntmps18
  go_wp2_with fail
  go_ret
  exact ⟨_, [], rfl, rfl, ⟨⟨none, 0, rfl, Nat.le_refl _, Nat.zero_le _, Or.inl rfl⟩, fun x hx => absurd hx (by simp), fun x hx => absurd hx (by simp), by simp⟩, Kept.refl _ _⟩
theorem WInv.done {w0 wr : World} {mm r : Nat} {row : List (Int × Ms)} {left : Lit → Bool} {cnt : Nat} {v : Value} {l l' : List Lx} (h : WInv w0 wr mm r row left cnt v l) (hl : ∀ kl, left kl = false) (hs : Rises row) (hp : l'.Perm l) (ho : l'.Pairwise fun x y => x.n ≤ y.n) : l'.map (fun x : Lx => (x.n, x.m)) = row := by
  have hnn : (l'.map Lx.n).Nodup := (hp.map _).nodup_iff.2 h.nn
  apply rises_ext
  · unfold Rises
    rw [List.pairwise_map]
    have h1 : l'.Pairwise fun x y => x.n ≠ y.n := by
      have := hnn
      rw [List.Nodup, List.pairwise_map] at this
      exact this
    exact (ho.and h1).imp (fun ⟨h2, h3⟩ => by show _ < _; omega)
  · exact hs
  · intro p
    constructor
    · intro hq
      obtain ⟨x, hx, rfl⟩ := List.mem_map.1 hq
      exact (h.sub x (hp.mem_iff.1 hx)).1
    · intro hx
      rcases h.all p hx with h1 | ⟨x, hx, h1⟩
      · rw [hl] at h1; cases h1
      · exact List.mem_map.2 ⟨x, hp.mem_iff.2 hx, h1⟩
/-- The round's worlds: behind the step, the message's box, the letter. -/
theorem WInv.round {w0 wr w3 w5 : World} {mm r : Nat} {row : List (Int × Ms)} {left : Lit → Bool} {cnt : Nat} {a : Option Addr} {n cap : Nat} {l : List Lx} (h : WInv w0 wr mm r row left cnt (.slice a n cap) l) (k3 : Kept [r] wr w3) {cs : Array Value} {t : TypeId} (k5 : Kept [] (w3.alloc (.cells cs t)) w5) {e : Lx} (hd : DatP w5 (w3.alloc (.cells cs t)).heap.size (slL e) e.m.dat) {o : Obj} :
    Kept [] w0 (w5.alloc o) ∧ Lts w0 (w5.alloc o) (.slice a n cap) l ∧ (DatP (w5.alloc o) w0.heap.size (slL e) e.m.dat ∧ (Value.slice a n cap).ownBlock ≠ some e.g ∧ ∀ y ∈ l, y.g ≠ e.g) ∧ Kept [] w3 (w5.alloc o) ∧ ∀ q, (Value.slice a n cap).ownBlock = some q → q ≠ r ∧ q ≠ mm := by
  have k4 : Kept [] w3 (w5.alloc o) := (((Kept.refl [] w3).alloc (.cells cs t)).trans k5 (by simp)).alloc o
  have hs3 := k3.size
  have h1 : (w3.alloc (.cells cs t)).heap.size = w3.heap.size + 1 := World.size_alloc _ _
  have hl3 := h.lt.kept k3 h.apart.1 h.apart.2
  have hk : Kept [] w0 w3 := h.kept.trans k3 (fun x hx => by simp at hx; subst hx; exact Or.inr h.rw)
  refine ⟨hk.trans k4 (by simp), hl3.kept k4 (by simp) (by simp), ⟨(hd.kept ((Kept.refl [] w5).alloc o) (by simp)).down (by have := hk.size; omega), fun he => ?_, fun y hy he => ?_⟩, k4, fun q hq => ⟨fun e1 => h.apart.1 q hq (by simp [e1]), fun e1 => by have := (hl3.own.lt q hq).1; have := h.mo; omega⟩⟩
  · obtain ⟨y, e1, e2, _⟩ := hd.own
    simp [slL, Value.ownBlock] at e1
    have := (hl3.own.lt e.g he).2
    omega
  · obtain ⟨z, e1, e2, _⟩ := hd.own
    obtain ⟨z2, e3, _, e4⟩ := (hl3.dat y hy).own
    simp [slL, Value.ownBlock] at e1 e3
    omega
set_option maxRecDepth 100000 in
set_option maxHeartbeats 1600000 in
theorem wait_some {w : World} {b mm : Nat} {g : Bg} (ho : g.ok) (hb : Blk w b (bagC (.map (some mm)) g) 67) (hown : w.ownsMap Try.prog 3 RM mm g.row.length (Dof g.row)) : Calls Try.prog 18 #[.pointer (some ⟨b, 0, none⟩)] w (WaitP w g.row) := by
  have c0 := (bag_cells hb).1
  have hl2 := fun ty => hown.len (e := 77) Try.underlying65 ty
  rw [Dof_size] at hl2
  have HB := hide hb
  have HO := hide hown
  have HMO := hide hown.lt
  have hrm := ho.room
  have HS := hide ho.rises
  have HBY := hide ho.byt
  clear hb hown ho
  go_enter Try.func18, Try.ntmps18
  go_upto_region 4 with (refine wpList_make_ltrs (w0 := w) _ rfl _ _ rfl g.row.length (by omega) rfl rfl (Nat.le_refl _) ?_; intro w1 hw1 hk1)
  have hb1 := (unhide HB).kept (unhide hk1) (by simp)
  have c0 := (bag_cells hb1).1
  have HO1 := hide (map_kept (unhide hk1) (by simp) (unhide HO))
  clear hb1 hl2
  go_wp2_with (at_range; refine wpList_range_own _ rfl _ 65 rfl 3 77 keyedI Try.underlying65 RM mm g.row.length (Dof g.row) rfl (unhide HO1) ?_; intro w2 hrg2 hg2 hs2)
  go_frame
  have HW0 : Hid (WInv w w2 mm w1.heap.size g.row (Maps.has (Dof g.row)) g.row.length (.slice (some ⟨w.heap.size, 0, none⟩) 0 g.row.length) []) := by
    have k2 := Kept.of_grown hg2
    rw [Dof_size] at hrg2
    exact ⟨hrg2, (unhide hw1).kept k2 (by simp) (by simp), fun x hx => absurd hx (by simp), fun p hp => Or.inl (by rw [Dof_has, mem_look (unhide HS) hp]; rfl), by simp, by simp, (unhide hk1).trans k2 (by simp), (unhide hk1).size, unhide HMO⟩
  generalize w1.heap.size = r at *
  clear hrg2 hg2 hs2 hw1 hk1 HO1 HO HB c0
  have HLT := hide (fun W (x : Int) (m : Ms) (hm : (x, m) ∈ g.row) => letter_any W m ((unhide HBY) _ hm).1 ((unhide HBY) _ hm).2 x)
  unfold msV at HLT
  go_loopw [3] (fun s wr => ∃ (left : Lit → Bool) (cnt : Nat) (l : List Lx) (a : Option Addr) (n cap : Nat), Hid (n = l.length) ∧ s = .slice a n cap ∧ Hid (WInv w wr mm r g.row left cnt (.slice a n cap) l)) (fun _ wr => wr.rangeLeft mm r)
  case atStart => exact ⟨_, _, [], _, 0, _, rfl, rfl, HW0⟩
  case round =>
    obtain ⟨left, cnt, l, a, n, cap, HN, rfl, HI⟩ := hrel
    clear HW0
    go_wp2_with (at_next; refine wpList_next_bag _ rfl _ rfl rfl (unhide HI).rg ?_ ?_)
    · intro hl0
      have HL0 := hide hl0
      clear hl0
      by_cases hn : n = 0
      · subst hn
        go_wp2_with (go_at_call 42; refine (sort_none _ _ _ _).mono ?_; rintro e w4 ⟨rfl, hq⟩; subst hq)
        go_ret
        have hl : l = [] := List.eq_nil_of_length_eq_zero (unhide HN).symm
        subst hl
        refine ⟨_, [], rfl, (unhide HI).done (unhide HL0) (unhide HS) (List.Perm.refl _) List.Pairwise.nil, ⟨⟨a, cap, rfl, Nat.zero_le _, ?_, Or.inl rfl⟩, fun x hx => absurd hx (by simp), fun x hx => absurd hx (by simp), by simp⟩, (unhide HI).kept⟩
        rcases (unhide HI).lt.own.2 with ⟨h1, _⟩ | ⟨g1, cap1, cur, hv, _, _, _, h2, _⟩
        · cases h1; exact Nat.zero_le _
        · cases hv; exact h2
      · obtain ⟨g1, rfl, hg1, hg2, hg3, hg4⟩ : ∃ g1, a = some ⟨g1, 0, none⟩ ∧ w.heap.size ≤ g1 ∧ n ≤ cap ∧ cap ≤ maxLen ∧ g1 < wr.heap.size := by
          rcases (unhide HI).lt.own.2 with ⟨h1, h2⟩ | ⟨g1, cap1, cur, hv, h3, h4, h5, h6, _⟩
          · exact absurd ((unhide HN).trans h2) hn
          · cases hv; exact ⟨g1, rfl, h3, by have := unhide HN; omega, h6, (Array.getElem?_eq_some_iff.1 h4).1⟩
        have HH : Hid (HoldsK ltrC 4 wr g1 0 l.toArray) := by
          have := (unhide HI).lt.own
          rw [unhide HN] at this
          exact holds_ltrs this
        have hcn := (unhide HI).cn
        have hn6 : n ≤ 65536 := by have := unhide HN; omega
        go_wp2_with (go_at_call 42; refine (sort_any (unhide HN).symm (unhide HH) hg4 hn6).mono ?_; rintro e w4 ⟨rfl, d', q1, q2, q3, q4⟩; have HQ := hide (And.intro q1 (And.intro q2 (And.intro q3 q4))); clear q1 q2 q3 q4)
        go_ret
        obtain ⟨q1, q2, q3, q4⟩ := unhide HQ
        have hlen : d'.length = n := q2.length_eq.trans (unhide HN).symm
        refine ⟨_, d', rfl, (unhide HI).done (unhide HL0) (unhide HS) q2 q3, ⟨⟨_, cap, by rw [hlen]; rfl, by omega, hg3, Or.inr ⟨g1, rfl, hg1, Nat.lt_of_lt_of_le hg4 q4.size, q1⟩⟩, fun x hx => ?_, fun x hx => (unhide HI).lt.ap x (q2.mem_iff.1 hx), (q2.map _).nodup_iff.2 (unhide HI).lt.nd⟩, (unhide HI).kept.trans q4 (fun x hx => by simp at hx; subst hx; exact Or.inr hg1)⟩
        refine ((unhide HI).lt.dat x (q2.mem_iff.1 hx)).kept q4 (fun y hy hm => ?_)
        simp [slL, Value.ownBlock] at hy hm
        exact (unhide HI).lt.ap x (q2.mem_iff.1 hx) (by rw [hy, hm]; rfl)
    · intro x m w3 cnt1 hrow hleft hlt hrg3 hk3 hen
      have HE := hide (And.intro hrow (And.intro hleft hlt))
      have HR3 := hide hrg3
      have HK3 := hide hk3
      clear hrow hleft hlt hrg3 hk3
      go_wp2_with (first
        | (go_at_call 41; refine (unhide HLT _ x m (unhide HE).1).mono ?_; rintro e w5 ⟨v5, rfl, ⟨sl, rfl, hd⟩, k5⟩; obtain ⟨g1, cp, cur, rfl, hd2⟩ := hd; have HW := hide ((unhide HI).round (unhide HK3) k5 (e := ⟨x, m, g1, cp⟩) ⟨g1, cp, cur, rfl, hd2⟩ (o := .cells #[.int .i64 x, .int .i64 m.frm, .int .i64 m.dst, .slice (some ⟨g1, 0, none⟩) m.dat.length cp] 48)); clear hd2 k5)
        | (refine wpList_append_ltr (w0 := w) _ rfl _ _ rfl (l := l) rfl (hide (unhide HW).1) (hide (unhide HW).2.1) (e := ⟨x, m, g1, cp⟩) rfl (hide (Blk.new _ _ _)) (hide (unhide HW).2.2.1) (hide (by have := (unhide HI).cn; have := (unhide HE).2.2; omega)) ?_; intro va n' vc w7 hn' hl7 hk7 hrow7; go_frame))
      have HX : Hid (w7.ranges Try.prog 3 RM mm r g.row.length (Dof g.row) (fun z => left z && !z.sameKey (.int .i64 x)) cnt1) := by
        obtain ⟨row, hg7, hq7⟩ := unhide hrow7
        have h1 := ranges_kept (unhide HR3) (unhide HW).2.2.2.1 (by simp) (by simp)
        have k7 := (Kept.refl row.toList _).grown hg7 (fun k hk => Or.inl (by simp [hk]))
        exact ranges_kept h1 k7 (fun hm => ((unhide HW).2.2.2.2 _ (hq7 _ (by simpa using hm))).2 rfl) (fun hm => ((unhide HW).2.2.2.2 _ (hq7 _ (by simpa using hm))).1 rfl)
      have HP := hide ((unhide HI).push (e := ⟨x, m, g1, cp⟩) (unhide HE).1 (unhide HE).2.1 (unhide HE).2.2 (unhide HX) (unhide HS) (unhide hl7) (unhide hk7))
      go_roundw
      case rel => exact ⟨_, cnt1, l ++ [⟨x, m, g1, cp⟩], va, n', vc, hide (by rw [List.length_append]; exact unhide hn'), rfl, HP⟩
      case measure => rw [(unhide HX).left_eq, (unhide HI).rg.left_eq]; exact (unhide HE).2.2
end Go.Proofs.Ytcohdkemfkiekaa
