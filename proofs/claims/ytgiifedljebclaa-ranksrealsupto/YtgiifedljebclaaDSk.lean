/- A sketch in memory; gapAt, due, New. -/
import Derived.Test.YtgiifedljebclaaDPress
namespace Go.Proofs.Ytgiifedljebclaa.flo
open Go.RowKit

theorem own_at {w : World} {v : Value} {es : List (En Nat)} (ho : w.ownsRow 0 93 3 v es.length (flatE es)) {i : Nat} {e : En Nat} (he : es[i]? = some e) :
    ∃ g cap, v = .slice (some ⟨g, 0, none⟩) es.length cap ∧ i < es.length ∧ w.cell? ⟨g, i * 3, none⟩ = some (.float .f64 e.v) ∧ w.cell? ⟨g, i * 3 + 1, none⟩ = some (.int .i64 (e.g : Int)) ∧ w.cell? ⟨g, i * 3 + 2, none⟩ = some (.int .i64 (e.d : Int)) := by
  have hi := (List.getElem?_eq_some_iff.1 he).1
  obtain ⟨g, cap, cur, rfl, hg, hsz, hnc, hcm, hcs⟩ := own_form ho (by omega)
  obtain ⟨a0, a1, a2⟩ := flatE_at he
  exact ⟨g, cap, rfl, hi, hcs _ _ a0, hcs _ _ a1, hcs _ _ a2⟩

set_option maxHeartbeats 1000000 in
set_option maxRecDepth 100000 in
theorem gapAt_any {w : World} {v : Value} {es : List (En Nat)} {i : Nat} (ho : w.ownsRow 0 93 3 v es.length (flatE es)) (hi : i ≤ es.length) (hw : ∀ e ∈ es, 1 ≤ e.g ∧ e.wd ≤ 1099511627776) :
    Calls Try.prog 53 #[v, .int .i64 i] w fun x w' => x = .returned (.int .i64 (gapO es i : Nat)) ∧ Kept [] w w' := by
  by_cases h0 : i = 0
  · subst h0
    have hg : gapO es 0 = 0 := rfl
    rw [hg]
    obtain ⟨a, cap, rfl⟩ := own_len ho
    go_enter Try.func53, Try.ntmps53
    go_wp2
    go_ret
    exact ⟨rfl, Kept.refl _ _⟩
  · by_cases hl : i = es.length
    · have hg : gapO es i = 0 := by unfold gapO; rw [if_neg h0, List.getElem?_eq_none (by omega)]
      rw [hg]
      obtain ⟨a, cap, rfl⟩ := own_len ho
      rw [← hl]
      clear ho hw hg hl hi
      have t0 : ((i : Int) == 0) = false := by simp; omega
      go_enter Try.func53, Try.ntmps53
      go_wp2
      go_ret
      exact ⟨rfl, Kept.refl _ _⟩
    · have he : es[i]? = some es[i] := List.getElem?_eq_getElem (by omega)
      have hww := hw es[i] (List.mem_of_getElem? he)
      have hg : gapO es i = es[i].wd - 1 := by unfold gapO; rw [if_neg h0, he]
      rw [hg]
      generalize es[i] = e at *
      obtain ⟨g, cap, rfl, hil, c0, c1, c2⟩ := own_at ho he
      obtain ⟨ev, eg, ed⟩ := e
      unfold En.wd at *
      simp only at *
      generalize es.length = L at *
      clear ho hw hg he
      have t0 : ((i : Int) == 0) = false := by simp; omega
      have t1 : ((i : Int) == (L : Int)) = false := by simp; omega
      have HW := hide (fun w => width_any (w := w) (x := ev) hww.2)
      have e1 : (((eg + ed - 1 : Nat)) : Int) = (eg : Int) + (ed : Int) - 1 := by omega
      rw [e1]
      clear e1
      go_enter Try.func53, Try.ntmps53
      go_wp2_with (first | (go_at_call 59; refine (unhide HW _).mono ?_; rintro e w3 ⟨rfl, hq⟩; subst hq; clear HW))
      go_ret
      exact ⟨rfl, (Kept.refl _ _).alloc _⟩

/-- a sketch in memory: its cells, its row -/
structure Sk (w : World) (b inv n : Nat) (es : List (En Nat)) (v : Value) : Prop where
  blk : Blk w b #[.int .i64 (inv : Int), .int .i64 (n : Int), v] 89
  row : w.ownsRow 0 93 3 v es.length (flatE es)

theorem Sk.keep {w w' : World} {b inv n : Nat} {es : List (En Nat)} {v : Value} {F : List Nat} (h : Sk w b inv n es v) (hk : Kept F w w') (hb : b ∉ F) (hv : ∀ k, v.ownBlock = some k → k ∉ F) : Sk w' b inv n es v := ⟨h.blk.kept hk hb, own_kept h.row hk hv⟩

theorem blk_type {w : World} {b : Nat} {c d : Array Value} {t u : TypeId} (h : Blk w b c t) (k : Blk w b d u) : t = u := by
  unfold Blk at h k; rw [h] at k; cases k; rfl
theorem Sk.apart {w : World} {b inv n : Nat} {es : List (En Nat)} {v : Value} (h : Sk w b inv n es v) {c : Nat} {cs : Array Value} (hc : Blk w c cs 89) : v.ownBlock ≠ some c := by
  intro he
  rcases h.row.2 with ⟨h1, _⟩ | ⟨g, cap, cur, hv, _, hg, _⟩
  · rw [h1] at he; cases he
  · rw [hv] at he; cases he
    exact absurd (blk_type hg hc) (by decide)

set_option maxHeartbeats 1000000 in
set_option maxRecDepth 100000 in
theorem due_any {w : World} {b inv n : Nat} {v : Value} (hb : Blk w b #[.int .i64 (inv : Int), .int .i64 (n : Int), v] 89) (h2 : 2 ≤ inv) (hi : inv ≤ 1024) (hn : n ≤ 1099511627776) :
    Calls Try.prog 54 #[.pointer (some ⟨b, 0, none⟩)] w fun x w' => x = .returned (.bool (decide (n % (inv / 2) = 0))) ∧ Quiet w w' := by
  have c0 := hb.cell 0
  have c1 := hb.cell 1
  simp at c0 c1
  have e1 : (((n : Int) % ((inv : Int) / 2)) == 0) = decide (n % (inv / 2) = 0) := by
    rw [show (n : Int) % ((inv : Int) / 2) = ((n % (inv / 2) : Nat) : Int) by simp]
    exact bit_iff _ 0
  rw [← e1]
  clear hb e1
  go_enter Try.func54, Try.ntmps54
  go_wp2
  go_ret
  exact ⟨rfl, Quiet.refl _⟩

set_option maxRecDepth 100000 in
theorem new_no {w : World} {inv : Int} (h : inv < 2 ∨ 1024 < inv) : Calls Try.prog 23 #[.int .i64 inv] w fun x w' => x = .returned (.pointer none) ∧ w' = w := by
  rcases h with h | h
  · go_enter Try.func23, Try.ntmps23
    go_wp2
    go_ret
    exact ⟨rfl, rfl⟩
  · have t : ¬ inv < 2 := by omega
    go_enter Try.func23, Try.ntmps23
    go_wp2
    go_ret
    exact ⟨rfl, rfl⟩
set_option maxRecDepth 100000 in
theorem new_yes {w : World} {inv : Nat} (h2 : 2 ≤ inv) (hi : inv ≤ 1024) : Calls Try.prog 23 #[.int .i64 (inv : Int)] w fun x w' => x = .returned (.pointer (some ⟨w.heap.size, 0, none⟩)) ∧ Sk w' w.heap.size inv 0 [] (.slice none 0 0) ∧ Kept [] w w' := by
  go_enter Try.func23, Try.ntmps23
  go_wp2
  go_ret
  exact ⟨rfl, ⟨Blk.new w _ _, World.ownsRow_nil _ _ _ _⟩, (Kept.refl _ _).alloc _⟩

end Go.Proofs.Ytgiifedljebclaa.flo
