/- For, of any bag. -/
import Derived.Test.YtcohdkemfkiekaaUForZ
namespace Go.Proofs.Ytcohdkemfkiekaa
open Go.RowKit Go.Maps Go.Sort
set_option linter.unusedSimpArgs false

theorem holds_ints {w : World} {base g cap : Nat} {l : List Int} (h : w.ownsRow base 3 1 (.slice (some ⟨g, 0, none⟩) l.length cap) l.length (ints l)) : Holds (Value.int .i64) w g 0 l.toArray := by
  intro t ht
  have ht' : t < l.length := by simpa using ht
  have hl : t < (ints l).length := by rw [ints_length]; exact ht'
  have hc := h.cells (g := g) rfl t (ints l)[t] (List.getElem?_eq_getElem hl)
  have hadd : (⟨g, 0, none⟩ : Addr).add t = ⟨g, t, none⟩ := by unfold Addr.add; split <;> simp_all
  rw [hadd] at hc
  have hf : w.frozen? ⟨g, t, none⟩ = false := by
    rcases h.2 with ⟨h1, _⟩ | ⟨g', cap', cur, hv, hb, hg, _⟩
    · cases h1
    · cases hv; exact Blk.frozen hg t
  rw [Nat.zero_add]
  refine ⟨?_, hf⟩
  rw [hc, getElem!_pos l.toArray t ht]
  simp [ints]
theorem sortI_any {w : World} {g cap n : Nat} {l : List Int} (hn : l.length = n) (hH : Holds (Value.int .i64) w g 0 l.toArray) (hb : g < w.heap.size) (hs : n ≤ 65536) :
    Calls Try.prog 45 #[.slice (some ⟨g, 0, none⟩) n cap] w fun e w' => e = .returned (.tuple #[]) ∧ Holds (Value.int .i64) w' g 0 (l.mergeSort fun x y => decide (x ≤ y)).toArray ∧ Kept [g] w w' := by
  subst hn
  have hcon : Calls Try.prog 45 #[.slice (some ⟨g, 0, none⟩) l.length cap] w fun e w' => e = .returned (.tuple #[]) ∧ ∃ n os, w' = grow (putRow (Value.int .i64) (Sort.ahead w n) g 0 (l.mergeSort fun x y => decide (x ≤ y)).toArray) os := AnyG.slices_Sort_int sortI g 0 cap l w hH hb (by omega)
  refine hcon.mono ?_
  rintro e w' ⟨he, n, os, rfl⟩
  refine ⟨he, holds_grow (Value.int .i64) _ _ _ _ _ (by simpa [putRow, mapBlock, Sort.ahead] using hb) (holds_putRow (Value.int .i64) _ _ _ l.toArray _ hH (by simp)), ?_⟩
  refine ⟨rfl, rfl, rfl, ?_, ?_⟩
  · simp [putRow, mapBlock, Sort.ahead]
  · intro k hk hn
    have hne : ¬ g = k := fun e => hn (by simp [e])
    rw [heap_grow_old _ _ (by simpa [putRow, mapBlock, Sort.ahead] using hk)]
    simp [putRow, mapBlock, Sort.ahead, Array.getElem?_modify, hne]
theorem sortI_none (w : World) (p : Option Addr) (cap : Nat) : Calls Try.prog 45 #[.slice p 0 cap] w fun e w' => e = .returned (.tuple #[]) ∧ w' = w :=
  AnyG.slices_Sort_int_none sortI p cap w
/-- A row of numbers that a call has made. -/
def IntsR (w0 w : World) (v : Value) (l : List Int) : Prop := ∃ a cap, v = .slice a l.length cap ∧ l.length ≤ cap ∧ cap ≤ maxLen ∧ (l = [] ∨ ∃ g, a = some ⟨g, 0, none⟩ ∧ w0.heap.size ≤ g ∧ g < w.heap.size ∧ Holds (Value.int .i64) w g 0 l.toArray)
def ForP (w : World) (l : List Int) (e : Ending) (w' : World) : Prop := ∃ v, e = .returned v ∧ IntsR w w' v l ∧ Kept [] w w'
set_option maxRecDepth 100000 in
theorem nfor (w : World) (t : Int) : Calls Try.prog 20 #[.pointer none, .int .i64 t] w (ForP w []) := by
  go_enter Try.func20, Try.ntmps20
  go_wp2_with fail
  go_ret
  exact ⟨_, rfl, ⟨none, 0, rfl, Nat.le_refl _, Nat.zero_le _, Or.inl rfl⟩, Kept.refl _ _⟩
set_option maxRecDepth 100000 in
theorem for_none {w : World} {b : Nat} {g : Bg} (hr : g.row = []) (hb : Blk w b (bagC (.map none) g) 67) (t : Int) : Calls Try.prog 20 #[.pointer (some ⟨b, 0, none⟩), .int .i64 t] w (ForP w (numsTo g.row t)) := by
  rw [hr]
  have c0 := (bag_cells hb).1
  have hrg := run_range_nilMap (P := Try.prog) w 65 3 77 Try.underlying65
  have hnx : ∀ ty, (Instr.next (.pointer (some ⟨w.heap.size, 0, none⟩)) false ty).run Try.prog (w.alloc (.mapIter none 0 #[] 0)) = _ := fun ty => run_next_nilMap w ty 0 0 #[]
  clear hb hr
  go_enter Try.func20, Try.ntmps20
  go_wp2
  refine wp_loop_rounds 1 ?_
  rw [rounds_succ]
  go_wp2_with (go_at_call 45; refine (sortI_none _ _ _).mono ?_; rintro e w4 ⟨rfl, hq⟩; subst hq)
  go_ret
  exact ⟨_, rfl, ⟨none, 0, rfl, Nat.le_refl _, Nat.zero_le _, Or.inl rfl⟩, (Kept.refl [] w).alloc _⟩
set_option maxRecDepth 100000 in
set_option maxHeartbeats 1600000 in
theorem for_some {w : World} {b mm : Nat} {g : Bg} (ho : g.ok) (hb : Blk w b (bagC (.map (some mm)) g) 67) (hown : w.ownsMap Try.prog 3 RM mm g.row.length (Dof g.row)) (t : Int) : Calls Try.prog 20 #[.pointer (some ⟨b, 0, none⟩), .int .i64 t] w (ForP w (numsTo g.row t)) := by
  have c0 := (bag_cells hb).1
  have HO := hide hown
  have HMO := hide hown.lt
  have hrm := ho.room
  have HS := hide ho.rises
  clear hb hown ho
  go_enter Try.func20, Try.ntmps20
  go_wp2_with (at_range; refine wpList_range_own _ rfl _ 65 rfl 3 77 keyedI Try.underlying65 RM mm g.row.length (Dof g.row) rfl (unhide HO) ?_; intro w2 hrg2 hg2 hs2)
  go_frame
  have HW0 : Hid (FInv w w2 mm w.heap.size g.row t (Maps.has (Dof g.row)) g.row.length (.slice none 0 0) []) := by
    have k2 := Kept.of_grown hg2
    rw [Dof_size] at hrg2
    exact ⟨hrg2, ⟨by simp [ints], Or.inl ⟨rfl, rfl⟩⟩, fun x hx => absurd hx (by simp), fun p hp => Or.inl (by rw [Dof_has, mem_look (unhide HS) hp]; rfl), by simp, by simp, k2, Nat.le_refl _, unhide HMO⟩
  obtain ⟨r, hq⟩ : ∃ r, r = w.heap.size := ⟨_, rfl⟩
  rw [← hq] at HW0 ⊢
  clear hrg2 hg2 hs2 HO c0 hq
  go_loopw [5] (fun s wr => ∃ (left : Lit → Bool) (cnt : Nat) (l : List Int) (a : Option Addr) (n cap : Nat), Hid (n = l.length) ∧ s = .slice a n cap ∧ Hid (FInv w wr mm r g.row t left cnt (.slice a n cap) l)) (fun _ wr => wr.rangeLeft mm r)
  case atStart => exact ⟨_, _, [], _, 0, _, rfl, rfl, HW0⟩
  case round =>
    obtain ⟨left, cnt, l, a, n, cap, HN, rfl, HI⟩ := hrel
    clear HW0
    go_wp2_with (at_next; refine wpList_next_bag _ rfl _ rfl rfl (unhide HI).rg ?_ ?_)
    · intro hl0
      have HD := hide ((unhide HI).done hl0 (unhide HS))
      clear hl0
      by_cases hn : n = 0
      · subst hn
        go_wp2_with (go_at_call 45; refine (sortI_none _ _ _).mono ?_; rintro e w4 ⟨rfl, hq⟩; subst hq)
        go_ret
        have hl : l = [] := List.eq_nil_of_length_eq_zero (unhide HN).symm
        subst hl
        have hd := unhide HD
        rw [List.mergeSort_nil] at hd
        rw [← hd]
        refine ⟨_, rfl, ⟨a, cap, rfl, Nat.zero_le _, ?_, Or.inl rfl⟩, (unhide HI).kept⟩
        rcases (unhide HI).own.2 with ⟨h1, _⟩ | ⟨g1, cap1, cur, hv, _, _, _, h2, _⟩
        · cases h1; exact Nat.zero_le _
        · cases hv; exact h2
      · obtain ⟨g1, rfl, hg1, hg2, hg3, hg4⟩ : ∃ g1, a = some ⟨g1, 0, none⟩ ∧ w.heap.size ≤ g1 ∧ n ≤ cap ∧ cap ≤ maxLen ∧ g1 < wr.heap.size := by
          rcases (unhide HI).own.2 with ⟨h1, h2⟩ | ⟨g1, cap1, cur, hv, h3, h4, h5, h6, _⟩
          · exact absurd ((unhide HN).trans h2) hn
          · cases hv; exact ⟨g1, rfl, h3, by have := unhide HN; omega, h6, (Array.getElem?_eq_some_iff.1 h4).1⟩
        have HH : Hid (Holds (Value.int .i64) wr g1 0 l.toArray) := by
          have := (unhide HI).own
          rw [unhide HN] at this
          exact holds_ints this
        have hcn := (unhide HI).cn
        have hn6 : n ≤ 65536 := by have := unhide HN; omega
        go_wp2_with (go_at_call 45; refine (sortI_any (unhide HN).symm (unhide HH) hg4 hn6).mono ?_; rintro e w4 ⟨rfl, q1, q4⟩; have HQ := hide (And.intro q1 q4); clear q1 q4)
        go_ret
        obtain ⟨q1, q4⟩ := unhide HQ
        have hlen : (numsTo g.row t).length = n := by rw [← unhide HD, List.length_mergeSort]; exact (unhide HN).symm
        rw [unhide HD] at q1
        exact ⟨_, rfl, ⟨_, cap, by rw [hlen]; rfl, by omega, hg3, Or.inr ⟨g1, rfl, hg1, Nat.lt_of_lt_of_le hg4 q4.size, q1⟩⟩, (unhide HI).kept.trans q4 (fun x hx => by simp at hx; subst hx; exact Or.inr hg1)⟩
    · intro x m w3 cnt1 hrow hleft hlt hrg3 hk3 hen
      have HE := hide (And.intro hrow (And.intro hleft hlt))
      have HR3 := hide hrg3
      have hk0 : Kept [] w w3 := (unhide HI).kept.trans hk3 (fun x hx => by simp at hx; subst hx; exact Or.inr (unhide HI).rw)
      have ho3 : w3.ownsRow w.heap.size 3 1 (.slice a n cap) l.length (ints l) := own_kept (unhide HI).own hk3 (fun q hq hm => by simp at hm; exact ((unhide HI).apart q hq).1 hm)
      have HK0 := hide hk0
      have HO3 := hide ho3
      clear hrow hleft hlt hrg3 hk3 hk0 ho3
      by_cases hd : m.dst = t
      · subst hd
        have hd2 : (m.dst == m.dst) = true := by simp
        have HBn : Hid (Blk ((w3.alloc (.cells #[.int .i64 m.frm, .int .i64 m.dst, .string (strB m.dat)] 77)).alloc (.cells #[.int .i64 x] 3)) (w3.heap.size + 1) #[.int .i64 x] 3) := by
          have h := Blk.new (w3.alloc (.cells #[.int .i64 m.frm, .int .i64 m.dst, .string (strB m.dat)] 77)) #[.int .i64 x] 3
          rw [World.size_alloc] at h
          exact h
        go_wp2_with (refine wpList_append_num (w0 := w) _ rfl _ _ rfl (l := l) (e := x) rfl (hide (((unhide HK0).alloc _).alloc _)) (hide (own_kept (unhide HO3) (((Kept.refl [] w3).alloc _).alloc _) (by simp))) rfl HBn (hide (by have := (unhide HI).cn; have := (unhide HE).2.2; omega)) ?_; intro va n' vc w7 hn' hl7 hk7 hrow7; go_frame)
        have HX : Hid (w7.ranges Try.prog 3 RM mm r g.row.length (Dof g.row) (fun z => left z && !z.sameKey (.int .i64 x)) cnt1) := by
          obtain ⟨row, hg7, hq7⟩ := unhide hrow7
          have h1 := ranges_kept (unhide HR3) (((Kept.refl [] w3).alloc (.cells #[.int .i64 m.frm, .int .i64 m.dst, .string (strB m.dat)] 77)).alloc (.cells #[.int .i64 x] 3)) (by simp) (by simp)
          have k7 := (Kept.refl row.toList _).grown hg7 (fun k hk => Or.inl (by simp [hk]))
          exact ranges_kept h1 k7 (fun hm => ((unhide HI).apart _ (hq7 _ (by simpa using hm))).2 rfl) (fun hm => ((unhide HI).apart _ (hq7 _ (by simpa using hm))).1 rfl)
        have HP := hide (((unhide HI).step (v' := .slice va n' vc) (unhide HE).1 (unhide HE).2.1 (unhide HE).2.2 (unhide HX) (unhide HS) (unhide hk7)).1 rfl (unhide hl7))
        go_roundw
        case rel => exact ⟨_, cnt1, l ++ [x], va, n', vc, hide (by rw [List.length_append]; exact unhide hn'), rfl, HP⟩
        case measure => rw [(unhide HX).left_eq, (unhide HI).rg.left_eq]; exact (unhide HE).2.2
      · have hd2 : (m.dst == t) = false := by rw [beq_eq_false_iff_ne]; exact hd
        go_wp2_with fail
        have HX : Hid ((w3.alloc (.cells #[.int .i64 m.frm, .int .i64 m.dst, .string (strB m.dat)] 77)).ranges Try.prog 3 RM mm r g.row.length (Dof g.row) (fun z => left z && !z.sameKey (.int .i64 x)) cnt1) := ranges_kept (unhide HR3) ((Kept.refl [] w3).alloc _) (by simp) (by simp)
        have HP := hide (((unhide HI).step (v' := .slice a n cap) (unhide HE).1 (unhide HE).2.1 (unhide HE).2.2 (unhide HX) (unhide HS) ((unhide HK0).alloc _)).2 hd (own_kept (unhide HO3) ((Kept.refl [] w3).alloc _) (by simp)))
        go_roundw
        case rel => exact ⟨_, cnt1, l, a, n, cap, HN, rfl, HP⟩
        case measure => rw [(unhide HX).left_eq, (unhide HI).rg.left_eq]; exact (unhide HE).2.2
theorem for_any {w : World} {b : Nat} {F : List Nat} {g : Bg} (h : Bk w b F g) (t : Int) : Calls Try.prog 20 #[.pointer (some ⟨b, 0, none⟩), .int .i64 t] w (ForP w (numsTo g.row t)) := by
  obtain ⟨ho, mv, hb, hm⟩ := h
  rcases hm with ⟨rfl, hr, _⟩ | ⟨mm, rfl, _, _, hown⟩
  · exact for_none hr hb t
  · exact for_some ho hb hown t
end Go.Proofs.Ytcohdkemfkiekaa
