/- Count, Size, Query, Below. -/
import Derived.Test.YtgiifedljebclabBSk
namespace Go.Proofs.Ytgiifedljebclab.byt
open Go.RowKit

set_option maxRecDepth 100000 in
theorem count_any {w : World} {b inv n : Nat} {es : List (En Int)} {v : Value} (hs : Sk w b inv n es v) : Calls Try.prog 13 #[.pointer (some ⟨b, 0, none⟩)] w fun e w' => e = .returned (.int .i64 (n : Int)) ∧ w' = w := by
  have c1 := hs.blk.cell 1
  simp at c1
  clear hs
  go_enter Try.func13, Try.ntmps13
  go_wp2
  go_ret
  exact ⟨rfl, rfl⟩
set_option maxRecDepth 100000 in
theorem size_any {w : World} {b inv n : Nat} {es : List (En Int)} {v : Value} (hs : Sk w b inv n es v) : Calls Try.prog 11 #[.pointer (some ⟨b, 0, none⟩)] w fun e w' => e = .returned (.int .i64 (es.length : Int)) ∧ w' = w := by
  obtain ⟨a, cap, rfl⟩ := own_len hs.row
  have c2 := hs.blk.cell 2
  simp at c2
  clear hs
  go_enter Try.func11, Try.ntmps11
  go_wp2
  go_ret
  exact ⟨rfl, rfl⟩

theorem sum_take {α : Type} (es : List (En α)) {i : Nat} {e : En α} (h : es[i]? = some e) : sumg (es.take (i + 1)) = sumg (es.take i) + e.g := by
  rw [List.take_add_one, h, sumg_app]; simp [sumg]
theorem sum_le {α : Type} (es : List (En α)) (i : Nat) : sumg (es.take i) ≤ sumg es := by
  conv => rhs; rw [← List.take_append_drop i es, sumg_app]
  omega

/-- a beginning of a row of the call's own, as it is read -/
def Reads (w : World) (v : Value) (es : List (En Int)) : Prop :=
  ∃ a cap, v = .slice a es.length cap ∧ es.length ≤ cap ∧ (es = [] ∨ ∃ g, a = some ⟨g, 0, none⟩ ∧ g < w.heap.size ∧ ∀ j u, (flatE es)[j]? = some u → w.cell? ⟨g, j, none⟩ = some u)
theorem Reads.of_own {w : World} {v : Value} {es : List (En Int)} (h : w.ownsRow 0 53 3 v es.length (flatE es)) : Reads w v es := by
  rcases h.2 with ⟨h1, h2⟩ | ⟨g, cap, cur, hv, _, hg, hc, _⟩
  · exact ⟨none, 0, by rw [h1, h2], by omega, Or.inl (List.eq_nil_of_length_eq_zero h2)⟩
  · refine ⟨_, cap, hv, hc, Or.inr ⟨g, rfl, (Array.getElem?_eq_some_iff.1 hg).1, fun j u hj => ?_⟩⟩
    have := h.cells (g := g) (by rw [hv]; rfl) j u hj
    have hadd : (⟨g, 0, none⟩ : Addr).add j = ⟨g, j, none⟩ := by unfold Addr.add; split <;> simp_all
    rwa [hadd] at this
theorem Reads.keep {w w' : World} {v : Value} {es : List (En Int)} (h : Reads w v es) (hk : Kept [] w w') : Reads w' v es := by
  obtain ⟨a, cap, rfl, h1, h2⟩ := h
  refine ⟨a, cap, rfl, h1, ?_⟩
  rcases h2 with h2 | ⟨g, rfl, hg, hc⟩
  · exact Or.inl h2
  · exact Or.inr ⟨g, rfl, Nat.lt_of_lt_of_le hg hk.size, fun j u hj => (hk.cell (p := ⟨g, j, none⟩) hg (by simp)).trans (hc j u hj)⟩
theorem Reads.at {w : World} {a : Option Addr} {L cap : Nat} {es : List (En Int)} (h : Reads w (.slice a L cap) es) {i : Nat} {e : En Int} (he : es[i]? = some e) :
    ∃ g, a = some ⟨g, 0, none⟩ ∧ w.cell? ⟨g, i * 3, none⟩ = some (.int .u8 e.v) ∧ w.cell? ⟨g, i * 3 + 1, none⟩ = some (.int .i64 (e.g : Int)) ∧ w.cell? ⟨g, i * 3 + 2, none⟩ = some (.int .i64 (e.d : Int)) := by
  obtain ⟨a', cap', hv, h1, h2⟩ := h
  cases hv
  rcases h2 with rfl | ⟨g, rfl, hg, hc⟩
  · simp at he
  · obtain ⟨a0, a1, a2⟩ := flatE_at he
    exact ⟨g, rfl, hc _ _ a0, hc _ _ a1, hc _ _ a2⟩

/-- what the search for the nearest holds: nothing yet, or a value and its distance -/
def nst {α : Type} (r f : Nat) (b : Option (α × Int)) (e : En α) : Option (α × Int) := match b with
  | none => some (e.v, dist r f e)
  | some (v, m) => if dist r f e < m then some (e.v, dist r f e) else some (v, m)
theorem near_snoc {α : Type} (r : Nat) (l : List (En α)) (e : En α) : ∀ f b, nearGo r f b (l ++ [e]) = nst r (f + sumg l) (nearGo r f b l) e := by
  induction l with
  | nil => intro f b; rw [sumg_nil, Nat.add_zero]; rfl
  | cons x l ih => intro f b; simp only [List.cons_append, nearGo, ih, sumg_cons]; congr 1; omega
theorem near_take {α : Type} (r : Nat) (es : List (En α)) {k : Nat} {e : En α} (he : es[k]? = some e) : nearGo r 0 none (es.take (k + 1)) = nst r (sumg (es.take k)) (nearGo r 0 none (es.take k)) e := by
  rw [List.take_add_one, he, Option.toList_some, near_snoc, Nat.zero_add]
theorem near_some {α : Type} (r : Nat) (es : List (En α)) (k : Nat) (hk : 0 < k) (hl : k ≤ es.length) : ∃ v m, nearGo r 0 none (es.take k) = some (v, m) := by
  obtain ⟨k, rfl⟩ : ∃ j, k = j + 1 := ⟨k - 1, by omega⟩
  have he : es[k]? = some es[k] := List.getElem?_eq_getElem (by omega)
  rw [near_take r es he]
  unfold nst
  split
  · exact ⟨_, _, rfl⟩
  · split <;> exact ⟨_, _, rfl⟩

set_option maxHeartbeats 1000000 in
set_option maxRecDepth 100000 in
theorem nearest_any {w : World} {v : Value} {es : List (En Int)} {r : Nat} (hr : Reads w v es) (hb : sumg es ≤ 1099511627776) (hl : es.length ≤ 1099511627776) (hw : ∀ e ∈ es, e.wd ≤ 1099511627776) (hrr : r ≤ 1099511627776) (hne : 0 < es.length) :
    Calls Try.prog 30 #[v, .int .i64 r] w fun e w' => e = .returned (.int .u8 (nearE 0 r es)) ∧ Kept [] w w' := by
  have HR := hide hr
  obtain ⟨a, cap, rfl, hc, -⟩ := hr
  have HB := hide hb
  have HW := hide hw
  generalize hL : es.length = L at *
  have HL := hide hL
  clear hL hb hw
  go_enter Try.func30, Try.ntmps30
  go_wp2_with fail
  go_loopw [5, 6, 7, 13] (fun s5 s6 s7 s13 wr => ∃ k : Nat, k ≤ L ∧ s6 = .int .i64 (sumg (es.take k) : Nat) ∧ s13 = .int .i64 k ∧ Kept [] w wr ∧
      (k = 0 ∧ s5 = (.int .u8 0) ∧ s7 = .int .i64 0 ∨ 0 < k ∧ ∃ (y : Int) (m : Int), nearGo r 0 none (es.take k) = some (y, m) ∧ s5 = (.int .u8 y) ∧ s7 = .int .i64 m)) (fun _ _ _ s13 _ => L - (intOf s13).toNat)
  case atStart => exact ⟨0, by omega, by simp [sumg], rfl, Kept.refl _ _, Or.inl ⟨rfl, rfl, rfl⟩⟩
  case round =>
    obtain ⟨k, hk, rfl, rfl, hkp, hcase⟩ := hrel
    have hs1 := sum_le es k
    by_cases hkl : k < L
    · obtain ⟨e, he⟩ : ∃ e, es[k]? = some e := ⟨_, List.getElem?_eq_getElem (by rw [unhide HL]; omega)⟩
      obtain ⟨g, rfl, c0, c1, c2⟩ := ((unhide HR).keep hkp).at he
      have hst := sum_take es he
      have hs2 := sum_le es (k + 1)
      have HST := hide hst
      have HNT := hide (near_take r es he)
      have hsb2 : sumg (es.take k) + e.g ≤ 1099511627776 := by have := unhide HB; omega
      have hwd : e.g + e.d ≤ 1099511627776 := unhide HW e (List.mem_of_getElem? he)
      have HK := hide hkp
      clear hs1 hs2 hst hkp he
      obtain ⟨ev, eg, ed⟩ := e
      simp only at c0 c1 c2 hsb2 hwd
      have t1 : ((k : Int) < (L : Int)) = True := by simp; omega
      have HDI : Hid (dist r (sumg (es.take k)) (⟨ev, eg, ed⟩ : En Int) = max ((r : Int) - ((sumg (es.take k) : Int) + (eg : Int))) ((sumg (es.take k) : Int) + (eg : Int) + (ed : Int) - (r : Int))) := rfl
      generalize hsm : sumg (es.take k) = sm at *
      clear hsm
      rcases hcase with ⟨rfl, rfl, rfl⟩ | ⟨hk0, y, m, hy, rfl, rfl⟩
      · have HN0 : Hid (nearGo r 0 none (es.take (0 + 1)) = some (ev, dist r sm (⟨ev, eg, ed⟩ : En Int))) := by
          have := unhide HNT
          exact this
        clear HNT
        go_wp2_with fail
        exact ⟨⟨1, by omega, by rw [unhide HST]; simp, rfl, (unhide HK).alloc _, Or.inr ⟨by omega, ev, _, unhide HN0, rfl, rfl⟩⟩, by simp [intOf]; omega⟩
      · rw [hy] at HNT
        have HN1 : Hid (nearGo r 0 none (es.take (k + 1)) = if dist r sm (⟨ev, eg, ed⟩ : En Int) < m then some (ev, dist r sm (⟨ev, eg, ed⟩ : En Int)) else some (y, m)) := unhide HNT
        rw [unhide HDI] at HN1
        clear hy HNT HDI
        have t3 : ((k : Int) == 0) = false := by simp; omega
        by_cases hd : max ((r : Int) - ((sm : Int) + (eg : Int))) ((sm : Int) + (eg : Int) + (ed : Int) - (r : Int)) < m
        · rw [if_pos hd] at HN1
          have t4 : (max ((r : Int) - ((sm : Int) + (eg : Int))) ((sm : Int) + (eg : Int) + (ed : Int) - (r : Int)) < m) = True := eq_true hd
          clear hd
          go_wp2_with fail
          exact ⟨⟨k + 1, by omega, by rw [unhide HST]; simp, by simp, (unhide HK).alloc _, Or.inr ⟨by omega, ev, _, unhide HN1, rfl, rfl⟩⟩, by simp [intOf]; omega⟩
        · rw [if_neg hd] at HN1
          have t4 : (max ((r : Int) - ((sm : Int) + (eg : Int))) ((sm : Int) + (eg : Int) + (ed : Int) - (r : Int)) < m) = False := eq_false hd
          clear hd
          go_wp2_with fail
          exact ⟨⟨k + 1, by omega, by rw [unhide HST]; simp, by simp, (unhide HK).alloc _, Or.inr ⟨by omega, y, m, unhide HN1, rfl, rfl⟩⟩, by simp [intOf]; omega⟩
    · obtain rfl : k = L := by omega
      have HK := hide hkp
      have he : es.take k = es := List.take_of_length_le (by rw [unhide HL]; omega)
      rw [he] at hcase
      rcases hcase with ⟨h0, _⟩ | ⟨_, y, m, hy, rfl, rfl⟩
      · omega
      · have hv : nearE 0 r es = y := by unfold nearE; rw [hy]
        have HV := hide hv
        clear hkp hs1 hy hv he
        have t1 : ((k : Int) < (k : Int)) = False := by simp
        go_wp2
        go_ret
        rw [unhide HV]
        exact ⟨rfl, unhide HK⟩

set_option maxHeartbeats 1000000 in
set_option maxRecDepth 100000 in
theorem query_none {w : World} {b inv n : Nat} {es : List (En Int)} {v : Value} (hs : Sk w b inv n es v) (r : Int) (h : r < 1 ∨ (n : Int) < r) :
    Calls Try.prog 15 #[.pointer (some ⟨b, 0, none⟩), .int .i64 r] w fun e w' => e = .returned (.tuple #[(.int .u8 0), .int .i64 60]) ∧ Kept [] w w' := by
  have c1 := hs.blk.cell 1
  simp at c1
  clear hs
  rcases h with h | h
  · go_enter Try.func15, Try.ntmps15
    go_wp2
    go_ret2
    exact ⟨rfl, Kept.refl _ _⟩
  · by_cases h1 : r < 1
    · go_enter Try.func15, Try.ntmps15
      go_wp2
      go_ret2
      exact ⟨rfl, Kept.refl _ _⟩
    · go_enter Try.func15, Try.ntmps15
      go_wp2
      go_ret2
      exact ⟨rfl, Kept.refl _ _⟩

set_option maxHeartbeats 1000000 in
set_option maxRecDepth 100000 in
theorem query_any {w : World} {b inv n : Nat} {es : List (En Int)} {v : Value} (hs : Sk w b inv n es v) (hf : Fit gtV n es) (hn : n ≤ 549755813888) (r : Nat) (h1 : 1 ≤ r) (hr : r ≤ n) :
    Calls Try.prog 15 #[.pointer (some ⟨b, 0, none⟩), .int .i64 (r : Int)] w fun e w' => e = .returned (.tuple #[(.int .u8 (nearE 0 r es)), .int .i64 0]) ∧ Kept [] w w' := by
  have c1 := hs.blk.cell 1
  have c2 := hs.blk.cell 2
  simp at c1 c2
  have hne : 0 < es.length := by
    cases es with
    | nil => have := hf.sum; simp [sumg] at this; omega
    | cons a l => simp
  have hlen := hf.len
  have HN := hide (fun W (hk : Kept [] w W) => nearest_any (r := r) ((Reads.of_own hs.row).keep hk) (by rw [hf.sum]; omega) (by omega) (fun e he => by have := hf.wd he; omega) (by omega) hne)
  have t1 : ((r : Int) < 1) = False := by simp; omega
  have t2 : ((n : Int) < (r : Int)) = False := by simp; omega
  obtain ⟨a, cap, rfl⟩ := own_len hs.row
  clear hs hf hne
  go_enter Try.func15, Try.ntmps15
  go_wp2_with (first | (go_at_call 30; refine (unhide HN _ (Kept.refl [] w)).mono ?_; rintro e w3 ⟨rfl, hq⟩))
  go_ret2
  exact ⟨rfl, hq⟩

end Go.Proofs.Ytgiifedljebclab.byt
