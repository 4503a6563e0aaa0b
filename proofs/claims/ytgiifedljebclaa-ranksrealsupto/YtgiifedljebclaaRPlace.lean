/- The place of a value among the entries: a search that halves. -/
import Derived.Test.YtgiifedljebclaaREnt
import Derived.Deep.RegionHeld3
import Derived.Deep.LoopGhost
import Derived.Shelf.Abstract
namespace Go.Proofs.Ytgiifedljebclaa
open Go.RowKit

def gtV (a b : Int) : Bool := decide (b < a)
theorem behindV : Behind gtV := ⟨fun a b c h1 h2 => by simp [gtV] at *; omega, fun a b h => by simp [gtV] at *; omega⟩

set_option maxRecDepth 100000 in
theorem cmp_yes {w : World} {a b : Int} (h : gtV a b = true) : Calls Try.prog 70 #[.int .i64 a, .int .i64 b] w fun e w' => e = .returned (.int .i64 1) ∧ w' = w := by
  have h1 : b < a := by simpa [gtV] using h
  have h2 : ¬ a < b := by omega
  clear h
  go_enter Try.func70, Try.ntmps70
  go_wp2
  go_ret
  exact ⟨rfl, rfl⟩
set_option maxRecDepth 100000 in
theorem cmp_no {w : World} {a b : Int} (h : gtV a b = false) : Calls Try.prog 70 #[.int .i64 a, .int .i64 b] w fun e w' => ∃ c : Int, c ≤ 0 ∧ e = .returned (.int .i64 c) ∧ w' = w := by
  have h1 : a ≤ b := by simpa [gtV] using h
  clear h
  rcases Int.lt_or_eq_of_le h1 with h2 | h2
  · clear h1
    go_enter Try.func70, Try.ntmps70
    go_wp2
    go_ret
    exact ⟨-1, by omega, rfl, rfl⟩
  · subst h2
    have h2 : ¬ a < a := by omega
    go_enter Try.func70, Try.ntmps70
    go_wp2
    go_ret
    exact ⟨0, by omega, rfl, rfl⟩

set_option maxRecDepth 100000 in
theorem clo_yes {w : World} {ba bx g cap i L : Nat} {y x : Int} (ha : w.cell? ⟨ba, 0, none⟩ = some (.slice (some ⟨g, 0, none⟩) L cap)) (hx : w.cell? ⟨bx, 0, none⟩ = some (.int .i64 x)) (hc : w.cell? ⟨g, i * 3, none⟩ = some (.int .i64 y)) (hi : i < L) (hy : gtV y x = true) :
    Calls Try.prog 69 #[.int .i64 i, .pointer (some ⟨ba, 0, none⟩), .pointer (some ⟨bx, 0, none⟩)] w fun e w' => e = .returned (.bool true) ∧ Quiet w w' := by
  have HC := hide (fun w => cmp_yes (w := w) hy)
  clear hy
  go_enter Try.func69, Try.ntmps69
  go_wp2_with fail
  go_region_held3 (fun w' => w'.cell? ⟨ba, 0, none⟩ = some (.slice (some ⟨g, 0, none⟩) L cap) ∧ w'.cell? ⟨bx, 0, none⟩ = some (.int .i64 x) ∧ w'.cell? ⟨g, i * 3, none⟩ = some (.int .i64 y)) (go_keep) (first | (go_at_call 70; refine (unhide HC _).mono ?_; rintro e w3 ⟨rfl, hq⟩; have hq' := hq.symm; subst hq'; clear HC))
  all_goals go_wp2
  all_goals go_ret
  all_goals exact ⟨by first | rfl | (simp [Array.getD]; omega), (Quiet.refl w).drew⟩
set_option maxRecDepth 100000 in
theorem clo_no {w : World} {ba bx g cap i L : Nat} {y x : Int} (ha : w.cell? ⟨ba, 0, none⟩ = some (.slice (some ⟨g, 0, none⟩) L cap)) (hx : w.cell? ⟨bx, 0, none⟩ = some (.int .i64 x)) (hc : w.cell? ⟨g, i * 3, none⟩ = some (.int .i64 y)) (hi : i < L) (hy : gtV y x = false) :
    Calls Try.prog 69 #[.int .i64 i, .pointer (some ⟨ba, 0, none⟩), .pointer (some ⟨bx, 0, none⟩)] w fun e w' => e = .returned (.bool false) ∧ Quiet w w' := by
  have HC := hide (fun w => cmp_no (w := w) hy)
  clear hy
  go_enter Try.func69, Try.ntmps69
  go_wp2_with fail
  go_region_held3 (fun w' => w'.cell? ⟨ba, 0, none⟩ = some (.slice (some ⟨g, 0, none⟩) L cap) ∧ w'.cell? ⟨bx, 0, none⟩ = some (.int .i64 x) ∧ w'.cell? ⟨g, i * 3, none⟩ = some (.int .i64 y)) (go_keep) (first | (go_at_call 70; refine (unhide HC _).mono ?_; rintro e w3 ⟨c, hc0, rfl, hq⟩; have hq' := hq.symm; subst hq'; clear HC))
  all_goals go_wp2
  all_goals go_ret
  all_goals exact ⟨by first | rfl | (simp [Array.getD]; omega), (Quiet.refl w).drew⟩

set_option maxHeartbeats 1000000 in
set_option maxRecDepth 100000 in
/-- the search: how many places are not yet so -/
theorem search_any {w : World} {fa : Nat} {cb : Array Value} {n k : Nat} {p : Nat → Bool} (eg : ∀ args w, (callFunc fa args).run Try.prog w = .ok (.enter fa args) w) (hn : n < 4611686018427387904) (hk : k ≤ n)
    (hf : ∀ W, Quiet w W → ∀ i : Nat, i < n → Calls Try.prog fa (#[.int .i64 i] ++ cb) W fun e w' => e = .returned (.bool (p i)) ∧ Quiet W w')
    (hlo : ∀ j, j < k → p j = false) (hhi : ∀ j, k ≤ j → j < n → p j = true) :
    Calls Try.prog 68 #[.int .i64 n, .func (.func fa) #[] cb] w fun e w' => e = .returned (.int .i64 k) ∧ Quiet w w' := by
  have HF := hide hf
  have HL := hide hlo
  have HH := hide hhi
  clear hf hlo hhi
  go_enter Try.func68, Try.ntmps68
  go_wp2
  go_loopg [5, 6] n (fun kx s5 s6 wr => ∃ (lo hi : Nat), s5 = .int .i64 lo ∧ s6 = .int .i64 hi ∧ lo ≤ k ∧ k ≤ hi ∧ hi ≤ n ∧ hi - lo ≤ kx ∧ Quiet w wr)
  case atStart => exact ⟨0, n, rfl, rfl, Nat.zero_le _, hk, Nat.le_refl _, by omega, Quiet.refl w⟩
  case round =>
    obtain ⟨lo, hi, rfl, rfl, h1, h2, h3, h4, hq⟩ := hrel
    by_cases hlt : lo < hi
    · have hc := unhide HF _ hq ((lo + hi) / 2) (by omega)
      rw [show (((lo + hi) / 2 : Nat) : Int) = ((lo : Int) + (hi : Int)) / 2 by omega] at hc
      have HQ := hide hq
      clear hq
      cases hp : p ((lo + hi) / 2) <;> rw [hp] at hc
      · have HP : Hid (k ≥ (lo + hi) / 2 + 1) := by
          show k ≥ (lo + hi) / 2 + 1
          rcases Nat.lt_or_ge ((lo + hi) / 2) k with h | h
          · exact h
          · have := unhide HH _ h (by omega); rw [hp] at this; cases this
        clear hp
        go_wp2_with (go_at_fn fa; refine hc.mono ?_; rintro e w' ⟨rfl, hq2⟩)
        go_roundg (hi - ((lo + hi) / 2 + 1))
        case measure => omega
        case rel =>
          have := unhide HP
          exact ⟨(lo + hi) / 2 + 1, hi, by rw [show ((lo : Int) + (hi : Int)) / 2 + 1 = (((lo + hi) / 2 + 1 : Nat) : Int) by omega], rfl, by omega, h2, h3, Nat.le_refl _, (unhide HQ).trans hq2⟩
      · have HP : Hid (k ≤ (lo + hi) / 2) := by
          show k ≤ (lo + hi) / 2
          rcases Nat.lt_or_ge ((lo + hi) / 2) k with h | h
          · have := unhide HL _ h; rw [hp] at this; cases this
          · exact h
        clear hp
        go_wp2_with (go_at_fn fa; refine hc.mono ?_; rintro e w' ⟨rfl, hq2⟩)
        go_roundg ((lo + hi) / 2 - lo)
        case measure => omega
        case rel =>
          have := unhide HP
          exact ⟨lo, (lo + hi) / 2, rfl, by rw [show ((lo : Int) + (hi : Int)) / 2 = (((lo + hi) / 2 : Nat) : Int) by omega], h1, by omega, by omega, Nat.le_refl _, (unhide HQ).trans hq2⟩
    · obtain rfl : lo = k := by omega
      go_wp2
      go_ret
      exact ⟨rfl, hq⟩

theorem rise_at {es : List (En Int)} (hr : es.Pairwise fun a b => gtV a.v b.v = false) {x : Int} {j : Nat} {e : En Int} (h : es[j]? = some e) : gtV e.v x = decide (plc gtV es x ≤ j) := by
  obtain ⟨hj, rfl⟩ := List.getElem?_eq_some_iff.1 h
  by_cases hp : plc gtV es x ≤ j
  · rw [plc_behind behindV hr hj hp]; simp [hp]
  · rw [plc_ahead (gt := gtV) (x := x) hj (by omega)]; simp [hp]

set_option maxHeartbeats 1000000 in
set_option maxRecDepth 100000 in
theorem place_any {w : World} {v : Value} {es : List (En Int)} (ho : w.ownsRow 0 82 3 v es.length (flatE es)) (hr : es.Pairwise fun a b => gtV a.v b.v = false) (hs : es.length ≤ 1099511627776) (x : Int) :
    Calls Try.prog 42 #[v, (.int .i64 x)] w fun e w' => e = .returned (.int .i64 (plc gtV es x : Nat)) ∧ Kept [] w w' := by
  have hpl := plc_le gtV es x
  have HO := hide ho
  obtain ⟨va, vc, rfl⟩ := own_len ho
  have eg : ∀ args w, (callFunc 69 args).run Try.prog w = .ok (.enter 69 args) w := enters_of Try.func69 (by kernel_rfl) rfl
  have HS : Hid (∀ (W : World) (ba bx : Nat), W.cell? ⟨ba, 0, none⟩ = some (.slice va es.length vc) → W.cell? ⟨bx, 0, none⟩ = some (.int .i64 x) → Kept [] w W →
      Calls Try.prog 68 #[.int .i64 es.length, .func (.func 69) #[] #[.pointer (some ⟨ba, 0, none⟩), .pointer (some ⟨bx, 0, none⟩)]] W fun e w' => e = .returned (.int .i64 (plc gtV es x : Nat)) ∧ Quiet W w') := by
    intro W ba bx hba hbx hk
    refine search_any (p := fun j => decide (plc gtV es x ≤ j)) eg (by omega) hpl ?_ (fun j hj => by simp; omega) (fun j hj _ => by simp; omega)
    intro W2 hq i hi
    have hi' : es[i]? = some es[i] := List.getElem?_eq_getElem hi
    obtain ⟨g, cap, cur, hv, hg, hsz, hnc, hcm, hcs⟩ := own_form (own_kept (own_kept (unhide HO) hk (by simp)) hq.kept (by simp)) (by omega)
    cases hv
    have hc := hcs _ _ (flatE_at hi').1
    have hgt := rise_at hr (x := x) hi'
    have e1 := (hq.cell ⟨ba, 0, none⟩).trans hba
    have e2 := (hq.cell ⟨bx, 0, none⟩).trans hbx
    cases hd : decide (plc gtV es x ≤ i)
    · rw [hd] at hgt
      exact clo_no e1 e2 hc hi hgt
    · rw [hd] at hgt
      exact clo_yes e1 e2 hc hi hgt
  clear ho hr HO eg
  generalize plc gtV es x = q at *
  generalize es.length = L at *
  have HS2 := hide (unhide HS ((w.alloc (.cells #[.slice va L vc] 73)).alloc (.cells #[(.int .i64 x)] 3)) w.heap.size (w.heap.size + 1)
    (by rw [((Blk.new w #[.slice va L vc] 73).alloc _).cell]; rfl)
    (by have := Blk.new (w.alloc (.cells #[.slice va L vc] 73)) #[(.int .i64 x)] 3; simp at this; rw [this.cell]; rfl) (((Kept.refl [] w).alloc _).alloc _))
  clear HS
  go_enter Try.func42, Try.ntmps42
  go_wp2_with (go_at_call 68; refine (unhide HS2).mono ?_; rintro e w' ⟨rfl, hq⟩)
  go_ret
  exact ⟨rfl, (((Kept.refl [] w).alloc _).alloc _).trans hq.kept (by simp)⟩
end Go.Proofs.Ytgiifedljebclaa
