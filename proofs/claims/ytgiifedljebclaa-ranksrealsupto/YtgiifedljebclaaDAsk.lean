/- Count, Size, Query, Below. -/
import Derived.Test.YtgiifedljebclaaDSk
namespace Go.Proofs.Ytgiifedljebclaa.flo
open Go.RowKit

set_option maxRecDepth 100000 in
theorem count_any {w : World} {b inv n : Nat} {es : List (En Nat)} {v : Value} (hs : Sk w b inv n es v) : Calls Try.prog 25 #[.pointer (some ⟨b, 0, none⟩)] w fun e w' => e = .returned (.int .i64 (n : Int)) ∧ w' = w := by
  have c1 := hs.blk.cell 1
  simp at c1
  clear hs
  go_enter Try.func25, Try.ntmps25
  go_wp2
  go_ret
  exact ⟨rfl, rfl⟩
set_option maxRecDepth 100000 in
theorem size_any {w : World} {b inv n : Nat} {es : List (En Nat)} {v : Value} (hs : Sk w b inv n es v) : Calls Try.prog 26 #[.pointer (some ⟨b, 0, none⟩)] w fun e w' => e = .returned (.int .i64 (es.length : Int)) ∧ w' = w := by
  obtain ⟨a, cap, rfl⟩ := own_len hs.row
  have c2 := hs.blk.cell 2
  simp at c2
  clear hs
  go_enter Try.func26, Try.ntmps26
  go_wp2
  go_ret
  exact ⟨rfl, rfl⟩

theorem sum_take {α : Type} (es : List (En α)) {i : Nat} {e : En α} (h : es[i]? = some e) : sumg (es.take (i + 1)) = sumg (es.take i) + e.g := by
  rw [List.take_add_one, h, sumg_app]; simp [sumg]
theorem sum_le {α : Type} (es : List (En α)) (i : Nat) : sumg (es.take i) ≤ sumg es := by
  conv => rhs; rw [← List.take_append_drop i es, sumg_app]
  omega

/-- a beginning of a row of the call's own, as it is read -/
def Reads (w : World) (v : Value) (es : List (En Nat)) : Prop :=
  ∃ a cap, v = .slice a es.length cap ∧ es.length ≤ cap ∧ (es = [] ∨ ∃ g, a = some ⟨g, 0, none⟩ ∧ g < w.heap.size ∧ ∀ j u, (flatE es)[j]? = some u → w.cell? ⟨g, j, none⟩ = some u)
theorem Reads.of_own {w : World} {v : Value} {es : List (En Nat)} (h : w.ownsRow 0 93 3 v es.length (flatE es)) : Reads w v es := by
  rcases h.2 with ⟨h1, h2⟩ | ⟨g, cap, cur, hv, _, hg, hc, _⟩
  · exact ⟨none, 0, by rw [h1, h2], by omega, Or.inl (List.eq_nil_of_length_eq_zero h2)⟩
  · refine ⟨_, cap, hv, hc, Or.inr ⟨g, rfl, (Array.getElem?_eq_some_iff.1 hg).1, fun j u hj => ?_⟩⟩
    have := h.cells (g := g) (by rw [hv]; rfl) j u hj
    have hadd : (⟨g, 0, none⟩ : Addr).add j = ⟨g, j, none⟩ := by unfold Addr.add; split <;> simp_all
    rwa [hadd] at this
theorem Reads.keep {w w' : World} {v : Value} {es : List (En Nat)} (h : Reads w v es) (hk : Kept [] w w') : Reads w' v es := by
  obtain ⟨a, cap, rfl, h1, h2⟩ := h
  refine ⟨a, cap, rfl, h1, ?_⟩
  rcases h2 with h2 | ⟨g, rfl, hg, hc⟩
  · exact Or.inl h2
  · exact Or.inr ⟨g, rfl, Nat.lt_of_lt_of_le hg hk.size, fun j u hj => (hk.cell (p := ⟨g, j, none⟩) hg (by simp)).trans (hc j u hj)⟩
theorem Reads.at {w : World} {a : Option Addr} {L cap : Nat} {es : List (En Nat)} (h : Reads w (.slice a L cap) es) {i : Nat} {e : En Nat} (he : es[i]? = some e) :
    ∃ g, a = some ⟨g, 0, none⟩ ∧ w.cell? ⟨g, i * 3, none⟩ = some (.float .f64 e.v) ∧ w.cell? ⟨g, i * 3 + 1, none⟩ = some (.int .i64 (e.g : Int)) ∧ w.cell? ⟨g, i * 3 + 2, none⟩ = some (.int .i64 (e.d : Int)) := by
  obtain ⟨a', cap', hv, h1, h2⟩ := h
  cases hv
  rcases h2 with rfl | ⟨g, rfl, hg, hc⟩
  · simp at he
  · obtain ⟨a0, a1, a2⟩ := flatE_at he
    exact ⟨g, rfl, hc _ _ a0, hc _ _ a1, hc _ _ a2⟩

set_option maxHeartbeats 1000000 in
set_option maxRecDepth 100000 in
theorem gains_any {w : World} {v : Value} {es : List (En Nat)} (hr : Reads w v es) (hb : sumg es ≤ 1099511627776) (hl : es.length ≤ 1099511627776) :
    Calls Try.prog 58 #[v] w fun e w' => e = .returned (.int .i64 (sumg es : Nat)) ∧ Kept [] w w' := by
  have HR := hide hr
  obtain ⟨a, cap, rfl, hc, -⟩ := hr
  have HB := hide hb
  generalize hL : es.length = L at *
  have HL := hide hL
  clear hL hb
  have HSF := stF
  go_enter Try.func58, Try.ntmps58
  go_wp2_with fail
  go_loopw [3, 8] (fun s3 s8 wr => ∃ k : Nat, k ≤ L ∧ s3 = .int .i64 (sumg (es.take k) : Nat) ∧ s8 = .int .i64 k ∧ Kept [] w wr) (fun _ s8 _ => L - (intOf s8).toNat)
  case atStart => exact ⟨0, by omega, by simp [sumg], rfl, Kept.refl _ _⟩
  case round =>
    obtain ⟨k, hk, rfl, rfl, hkp⟩ := hrel
    have hs1 := sum_le es k
    have hsb : sumg (es.take k) ≤ 1099511627776 := Nat.le_trans hs1 (unhide HB)
    by_cases hkl : k < L
    · obtain ⟨e, he⟩ : ∃ e, es[k]? = some e := ⟨_, List.getElem?_eq_getElem (by rw [unhide HL]; omega)⟩
      obtain ⟨g, rfl, c0, c1, c2⟩ := ((unhide HR).keep hkp).at he
      have hst := sum_take es he
      have hs2 := sum_le es (k + 1)
      have HST := hide hst
      have hsb2 : sumg (es.take k) + e.g ≤ 1099511627776 := by have := unhide HB; omega
      have HK := hide hkp
      clear hs1 hs2 hst hkp he
      obtain ⟨ev, eg, ed⟩ := e
      simp only at c0 c1 c2 hsb2
      generalize hsm : sumg (es.take k) = sm at *
      clear hsm
      have t1 : ((k : Int) < (L : Int)) = True := by simp; omega
      go_wp2
      exact ⟨⟨k + 1, by omega, by rw [unhide HST]; simp, by simp, (unhide HK).trans (by exact ((Kept.refl [] wr).alloc _)) (by simp)⟩, by simp [intOf]; omega⟩
    · obtain rfl : k = L := by omega
      have HK := hide hkp
      have he : es.take k = es := List.take_of_length_le (by rw [unhide HL]; omega)
      rw [he]
      clear hkp hs1 hsb
      have t1 : ((k : Int) < (k : Int)) = False := by simp
      go_wp2
      go_ret
      exact ⟨rfl, unhide HK⟩

/-- what the search for the nearest holds: nothing yet, or a value and its distance -/
def nst {α : Type} (r f : Nat) (b : Option (α × Int)) (e : En α) : Option (α × Int) := match b with
  | none => some (e.v, dist r f e)
  | some (v, m) => if dist r f e < m then some (e.v, dist r f e) else some (v, m)
theorem near_snoc {α : Type} (r : Nat) (l : List (En α)) (e : En α) : ∀ f b, nearGo r f b (l ++ [e]) = nst r (f + sumg l) (nearGo r f b l) e := by
  induction l with
  | nil => intro f b; rw [sumg_nil, Nat.add_zero]; rfl
  | cons x l ih => intro f b; simp only [List.cons_append, nearGo, ih, sumg_cons]; congr 1; omega
theorem near_take {α : Type} (r : Nat) (es : List (En α)) {k : Nat} {e : En α} (he : es[k]? = some e) : nearGo r 0 none (es.take (k + 1)) = nst r (sumg (es.take k)) (nearGo r 0 none (es.take k)) e := by
  rw [List.take_add_one, he, Option.toList_some, near_snoc, Nat.zero_add]
theorem near_some {α : Type} (r : Nat) (es : List (En α)) (k : Nat) (hk : 0 < k) (hl : k ≤ es.length) : ∃ v m, nearGo r 0 none (es.take k) = some (v, m) := by
  obtain ⟨k, rfl⟩ : ∃ j, k = j + 1 := ⟨k - 1, by omega⟩
  have he : es[k]? = some es[k] := List.getElem?_eq_getElem (by omega)
  rw [near_take r es he]
  unfold nst
  split
  · exact ⟨_, _, rfl⟩
  · split <;> exact ⟨_, _, rfl⟩

set_option maxHeartbeats 1000000 in
set_option maxRecDepth 100000 in
theorem nearest_any {w : World} {v : Value} {es : List (En Nat)} {r : Nat} (hr : Reads w v es) (hb : sumg es ≤ 1099511627776) (hl : es.length ≤ 1099511627776) (hw : ∀ e ∈ es, e.wd ≤ 1099511627776) (hrr : r ≤ 1099511627776) (hne : 0 < es.length) :
    Calls Try.prog 56 #[v, .int .i64 r] w fun e w' => e = .returned (.float .f64 (nearE 0 r es)) ∧ Kept [] w w' := by
  have HR := hide hr
  obtain ⟨a, cap, rfl, hc, -⟩ := hr
  have HB := hide hb
  have HW := hide hw
  generalize hL : es.length = L at *
  have HL := hide hL
  clear hL hb hw
  have HSF := stF
  go_enter Try.func56, Try.ntmps56
  go_wp2_with fail
  go_loopw [5, 6, 7, 13] (fun s5 s6 s7 s13 wr => ∃ k : Nat, k ≤ L ∧ s6 = .int .i64 (sumg (es.take k) : Nat) ∧ s13 = .int .i64 k ∧ Kept [] w wr ∧
      (k = 0 ∧ s5 = (.float .f64 0) ∧ s7 = .int .i64 0 ∨ 0 < k ∧ ∃ (y : Nat) (m : Int), nearGo r 0 none (es.take k) = some (y, m) ∧ s5 = (.float .f64 y) ∧ s7 = .int .i64 m)) (fun _ _ _ s13 _ => L - (intOf s13).toNat)
  case atStart => exact ⟨0, by omega, by simp [sumg], rfl, Kept.refl _ _, Or.inl ⟨rfl, rfl, rfl⟩⟩
  case round =>
    obtain ⟨k, hk, rfl, rfl, hkp, hcase⟩ := hrel
    have hs1 := sum_le es k
    by_cases hkl : k < L
    · obtain ⟨e, he⟩ : ∃ e, es[k]? = some e := ⟨_, List.getElem?_eq_getElem (by rw [unhide HL]; omega)⟩
      obtain ⟨g, rfl, c0, c1, c2⟩ := ((unhide HR).keep hkp).at he
      have hst := sum_take es he
      have hs2 := sum_le es (k + 1)
      have HST := hide hst
      have HNT := hide (near_take r es he)
      have hsb2 : sumg (es.take k) + e.g ≤ 1099511627776 := by have := unhide HB; omega
      have hwd : e.g + e.d ≤ 1099511627776 := unhide HW e (List.mem_of_getElem? he)
      have HK := hide hkp
      clear hs1 hs2 hst hkp he
      obtain ⟨ev, eg, ed⟩ := e
      simp only at c0 c1 c2 hsb2 hwd
      have t1 : ((k : Int) < (L : Int)) = True := by simp; omega
      have HDI : Hid (dist r (sumg (es.take k)) (⟨ev, eg, ed⟩ : En Nat) = max ((r : Int) - ((sumg (es.take k) : Int) + (eg : Int))) ((sumg (es.take k) : Int) + (eg : Int) + (ed : Int) - (r : Int))) := rfl
      generalize hsm : sumg (es.take k) = sm at *
      clear hsm
      rcases hcase with ⟨rfl, rfl, rfl⟩ | ⟨hk0, y, m, hy, rfl, rfl⟩
      · have HN0 : Hid (nearGo r 0 none (es.take (0 + 1)) = some (ev, dist r sm (⟨ev, eg, ed⟩ : En Nat))) := by
          have := unhide HNT
          exact this
        clear HNT
        go_wp2_with fail
        exact ⟨⟨1, by omega, by rw [unhide HST]; simp, rfl, (unhide HK).alloc _, Or.inr ⟨by omega, ev, _, unhide HN0, rfl, rfl⟩⟩, by simp [intOf]; omega⟩
      · rw [hy] at HNT
        have HN1 : Hid (nearGo r 0 none (es.take (k + 1)) = if dist r sm (⟨ev, eg, ed⟩ : En Nat) < m then some (ev, dist r sm (⟨ev, eg, ed⟩ : En Nat)) else some (y, m)) := unhide HNT
        rw [unhide HDI] at HN1
        clear hy HNT HDI
        have t3 : ((k : Int) == 0) = false := by simp; omega
        by_cases hd : max ((r : Int) - ((sm : Int) + (eg : Int))) ((sm : Int) + (eg : Int) + (ed : Int) - (r : Int)) < m
        · rw [if_pos hd] at HN1
          have t4 : (max ((r : Int) - ((sm : Int) + (eg : Int))) ((sm : Int) + (eg : Int) + (ed : Int) - (r : Int)) < m) = True := eq_true hd
          clear hd
          go_wp2_with fail
          exact ⟨⟨k + 1, by omega, by rw [unhide HST]; simp, by simp, (unhide HK).alloc _, Or.inr ⟨by omega, ev, _, unhide HN1, rfl, rfl⟩⟩, by simp [intOf]; omega⟩
        · rw [if_neg hd] at HN1
          have t4 : (max ((r : Int) - ((sm : Int) + (eg : Int))) ((sm : Int) + (eg : Int) + (ed : Int) - (r : Int)) < m) = False := eq_false hd
          clear hd
          go_wp2_with fail
          exact ⟨⟨k + 1, by omega, by rw [unhide HST]; simp, by simp, (unhide HK).alloc _, Or.inr ⟨by omega, y, m, unhide HN1, rfl, rfl⟩⟩, by simp [intOf]; omega⟩
    · obtain rfl : k = L := by omega
      have HK := hide hkp
      have he : es.take k = es := List.take_of_length_le (by rw [unhide HL]; omega)
      rw [he] at hcase
      rcases hcase with ⟨h0, _⟩ | ⟨_, y, m, hy, rfl, rfl⟩
      · omega
      · have hv : nearE 0 r es = y := by unfold nearE; rw [hy]
        have HV := hide hv
        clear hkp hs1 hy hv he
        have t1 : ((k : Int) < (k : Int)) = False := by simp
        go_wp2
        go_ret
        rw [unhide HV]
        exact ⟨rfl, unhide HK⟩

set_option maxHeartbeats 1000000 in
set_option maxRecDepth 100000 in
theorem query_none {w : World} {b inv n : Nat} {es : List (En Nat)} {v : Value} (hs : Sk w b inv n es v) (r : Int) (h : r < 1 ∨ (n : Int) < r) :
    Calls Try.prog 29 #[.pointer (some ⟨b, 0, none⟩), .int .i64 r] w fun e w' => e = .returned (.tuple #[(.float .f64 0), .int .i64 60]) ∧ Kept [] w w' := by
  have c1 := hs.blk.cell 1
  simp at c1
  clear hs
  rcases h with h | h
  · go_enter Try.func29, Try.ntmps29
    go_wp2
    go_ret2
    exact ⟨rfl, Kept.refl _ _⟩
  · by_cases h1 : r < 1
    · go_enter Try.func29, Try.ntmps29
      go_wp2
      go_ret2
      exact ⟨rfl, Kept.refl _ _⟩
    · go_enter Try.func29, Try.ntmps29
      go_wp2
      go_ret2
      exact ⟨rfl, Kept.refl _ _⟩

set_option maxHeartbeats 1000000 in
set_option maxRecDepth 100000 in
theorem query_any {w : World} {b inv n : Nat} {es : List (En Nat)} {v : Value} (hs : Sk w b inv n es v) (hf : Fit gtV n es) (hn : n ≤ 549755813888) (r : Nat) (h1 : 1 ≤ r) (hr : r ≤ n) :
    Calls Try.prog 29 #[.pointer (some ⟨b, 0, none⟩), .int .i64 (r : Int)] w fun e w' => e = .returned (.tuple #[(.float .f64 (nearE 0 r es)), .int .i64 0]) ∧ Kept [] w w' := by
  have c1 := hs.blk.cell 1
  have c2 := hs.blk.cell 2
  simp at c1 c2
  have hne : 0 < es.length := by
    cases es with
    | nil => have := hf.sum; simp [sumg] at this; omega
    | cons a l => simp
  have hlen := hf.len
  have HN := hide (fun W (hk : Kept [] w W) => nearest_any (r := r) ((Reads.of_own hs.row).keep hk) (by rw [hf.sum]; omega) (by omega) (fun e he => by have := hf.wd he; omega) (by omega) hne)
  have t1 : ((r : Int) < 1) = False := by simp; omega
  have t2 : ((n : Int) < (r : Int)) = False := by simp; omega
  obtain ⟨a, cap, rfl⟩ := own_len hs.row
  clear hs hf hne
  go_enter Try.func29, Try.ntmps29
  go_wp2_with (first | (go_at_call 56; refine (unhide HN _ (Kept.refl [] w)).mono ?_; rintro e w3 ⟨rfl, hq⟩))
  go_ret2
  exact ⟨rfl, hq⟩

theorem Reads.take {w : World} {a : Option Addr} {L cap : Nat} {es : List (En Nat)} (hL : es.length = L) (h : Reads w (.slice a L cap) es) (i : Nat) (hi : i ≤ L) : Reads w (.slice a i cap) (es.take i) := by
  obtain ⟨a', cap', hv, h1, h2⟩ := h
  have hl : (es.take i).length = i := by simp; omega
  cases hv
  refine ⟨a, cap, by rw [hl], by omega, ?_⟩
  rcases h2 with rfl | ⟨g, rfl, hg, hc⟩
  · exact Or.inl (by simp)
  · refine Or.inr ⟨g, rfl, hg, fun j u hj => hc j u ?_⟩
    rw [← flatE_take es i (by omega), List.getElem?_take] at hj
    split at hj
    · exact hj
    · cases hj

set_option maxHeartbeats 1000000 in
set_option maxRecDepth 100000 in
theorem below_any {w : World} {b inv n : Nat} {es : List (En Nat)} {v : Value} (hs : Sk w b inv n es v) (hf : Fit gtV n es) (hn : n ≤ 549755813888) (x : Nat) :
    Calls Try.prog 31 #[.pointer (some ⟨b, 0, none⟩), (.float .f64 x)] w fun e w' => e = .returned (.tuple #[.int .i64 ((belowE gtV n es x).1 : Nat), .int .i64 ((belowE gtV n es x).2 : Nat)]) ∧ Kept [] w w' := by
  have hlen := hf.len
  have hpl := plc_le gtV es x
  have HP := hide (place_any hs.row hf.rise (by omega) x)
  have hsum := sum_le es (plc gtV es x)
  rw [hf.sum] at hsum
  have HG := hide (fun W (hk : Kept [] w W) va vc (hv : v = .slice va es.length vc) => gains_any (((Reads.of_own hs.row).keep hk |> fun h => (by rw [hv] at h; exact h.take rfl (plc gtV es x) hpl : Reads W (.slice va (plc gtV es x) vc) (es.take (plc gtV es x))))) (by omega) (by simp; omega))
  have HR := hide (Reads.of_own hs.row)
  obtain ⟨a, cap, rfl⟩ := own_len hs.row
  have hcap : es.length ≤ cap := by
    obtain ⟨a', cap', hv, h1, _⟩ := unhide HR
    cases hv; exact h1
  have HG1 := hide (fun W hk => unhide HG W hk a cap rfl)
  have c1 := hs.blk.cell 1
  have c2 := hs.blk.cell 2
  simp at c1 c2
  have hbw := hs.blk.lt
  have HF := hide hf
  clear HG hs hf
  by_cases he : plc gtV es x = es.length
  · have HB : Hid (belowE gtV n es x = (sumg (es.take (plc gtV es x)), n)) := by
      have : es[plc gtV es x]? = none := List.getElem?_eq_none (by omega)
      exact (show belowE gtV n es x = _ by unfold belowE; rw [this])
    rw [he] at HG1 HP HB
    generalize sumg (es.take es.length) = sm at *
    generalize es.length = L at *
    clear hpl hlen he
    cases a
    all_goals go_enter Try.func31, Try.ntmps31
    all_goals go_wp2_with (first
      | (go_at_call 51; refine (unhide HP).mono ?_; rintro e w3 ⟨rfl, hq⟩; have c13 := (hq.cell (p := ⟨b, 1, none⟩) hbw (by simp)).trans c1; have c23 := (hq.cell (p := ⟨b, 2, none⟩) hbw (by simp)).trans c2; have HK3 := hide hq; clear hq HP)
      | (go_at_call 58; refine (unhide HG1 _ (unhide HK3)).mono ?_; rintro e w4 ⟨rfl, hq⟩; have c14 := (hq.cell (p := ⟨b, 1, none⟩) (Nat.lt_of_lt_of_le hbw (unhide HK3).size) (by simp)).trans c13; have c24 := (hq.cell (p := ⟨b, 2, none⟩) (Nat.lt_of_lt_of_le hbw (unhide HK3).size) (by simp)).trans c23; have HK4 := hide hq; clear hq HG1))
    all_goals go_region
    all_goals go_wp2
    all_goals go_ret2
    all_goals rw [unhide HB]
    all_goals exact ⟨rfl, ((unhide HK3).trans (unhide HK4) (by simp)).drew⟩
  · obtain ⟨y, hy⟩ : ∃ y, es[plc gtV es x]? = some y := ⟨_, List.getElem?_eq_getElem (by omega)⟩
    have HB : Hid (belowE gtV n es x = (sumg (es.take (plc gtV es x)), sumg (es.take (plc gtV es x)) + y.wd - 1)) := (show belowE gtV n es x = _ by unfold belowE; rw [hy])
    have hyw := (unhide HF).wd (List.mem_of_getElem? hy)
    have HY := hide hy
    clear hy
    generalize plc gtV es x = q at *
    generalize sumg (es.take q) = sm at *
    have hqL : q < es.length := by omega
    have t0 : ((q : Int) == (es.length : Int)) = false := by simp; omega
    obtain ⟨g, rfl, -⟩ := (unhide HR).at (unhide HY)
    have HC : Hid (∀ W, Kept [] w W → W.cell? ⟨g, q * 3, none⟩ = some (.float .f64 y.v) ∧ W.cell? ⟨g, q * 3 + 1, none⟩ = some (.int .i64 (y.g : Int)) ∧ W.cell? ⟨g, q * 3 + 2, none⟩ = some (.int .i64 (y.d : Int))) := by
      intro W hk
      obtain ⟨g', hg', h0, h1, h2⟩ := ((unhide HR).keep hk).at (unhide HY)
      cases hg'
      exact ⟨h0, h1, h2⟩
    obtain ⟨yv, yg, yd⟩ := y
    simp only [En.wd] at *
    have HW := hide (fun w => width_any (w := w) (x := yv) (g := yg) (d := yd) (by omega))
    generalize es.length = L at *
    have HE : Hid ((((sm + (yg + yd) - 1 : Nat)) : Int) = (sm : Int) + ((yg : Int) + (yd : Int)) - 1) := (show _ = _ by omega)
    clear he
    go_enter Try.func31, Try.ntmps31
    go_wp2_with (first
      | (go_at_call 51; refine (unhide HP).mono ?_; rintro e w3 ⟨rfl, hq⟩; have c13 := (hq.cell (p := ⟨b, 1, none⟩) hbw (by simp)).trans c1; have c23 := (hq.cell (p := ⟨b, 2, none⟩) hbw (by simp)).trans c2; have HK3 := hide hq; clear hq HP)
      | (go_at_call 58; refine (unhide HG1 _ (unhide HK3)).mono ?_; rintro e w4 ⟨rfl, hq⟩; have c14 := (hq.cell (p := ⟨b, 1, none⟩) (Nat.lt_of_lt_of_le hbw (unhide HK3).size) (by simp)).trans c13; have c24 := (hq.cell (p := ⟨b, 2, none⟩) (Nat.lt_of_lt_of_le hbw (unhide HK3).size) (by simp)).trans c23; have HK4 := hide ((unhide HK3).trans hq (by simp)); obtain ⟨d0, d1, d2⟩ := unhide HC _ (unhide HK4); clear hq HG1)
      | (go_at_call 59; refine (unhide HW _).mono ?_; rintro e w5 ⟨rfl, hq⟩; subst hq; clear HW))
    go_ret2
    rw [unhide HB]
    exact ⟨by rw [← unhide HE]; rfl, (unhide HK4).alloc _⟩
end Go.Proofs.Ytgiifedljebclaa.flo
