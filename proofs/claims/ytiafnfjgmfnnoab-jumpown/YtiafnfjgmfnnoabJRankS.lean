/- Rated servers in a row, sorted. -/
import Derived.Test.YtiafnfjgmfnnoabJOrder
namespace Go.Proofs.Ytiafnfjgmfnnoab
open Go.RowKit Go.Sort Go.Shelf
set_option linter.unusedSimpArgs false

theorem cmpI_self (x : Int) : cmpI x x = 0 := by unfold cmpI; simp
theorem cmpI_zero {x y : Int} : cmpI x y = 0 ↔ x = y := by
  unfold cmpI
  by_cases h : x < y
  · simp [h]; omega
  · by_cases h2 : y < x
    · simp [h, h2]; omega
    · simp [h, h2]; omega
theorem cmpI_neg {x y : Int} : cmpI x y < 0 ↔ x < y := by
  unfold cmpI
  by_cases h : x < y
  · simp [h]
  · by_cases h2 : y < x
    · simp [h, h2]
    · simp [h, h2]
/-- x stands ahead of y -/
def ahd (x y : Int × Nat) : Prop := y.2 < x.2 ∨ (y.2 = x.2 ∧ x.1 < y.1)
instance (x y : Int × Nat) : Decidable (ahd x y) := by unfold ahd; infer_instance
theorem ordI_neg (x y : Int × Nat) : ordI x y < 0 ↔ ahd x y := by
  unfold ordI ahd
  by_cases h : cmpI y.2 x.2 = 0
  · rw [if_pos h, cmpI_neg]
    have := cmpI_zero.1 h
    omega
  · rw [if_neg h, cmpI_neg]
    have h2 : ¬ ((y.2 : Int) = x.2) := fun e => h (cmpI_zero.2 e)
    omega
theorem ltOrd (x y : Int × Nat) : ltOf ordI x y = decide (ahd x y) := by
  unfold ltOf
  exact decide_eq_decide.2 (ordI_neg x y)
theorem swoOrd : SWO (ltOf ordI) where
  irrefl x := by rw [ltOrd]; unfold ahd; simp
  trans x y z h1 h2 := by rw [ltOrd] at *; simp only [decide_eq_true_eq] at *; unfold ahd at *; omega
  ntrans x y z h1 h2 := by rw [ltOrd] at *; simp only [decide_eq_false_iff_not] at *; unfold ahd at *; omega
theorem totOrd (x y : Int × Nat) (h1 : ltOf ordI x y = false) (h2 : ltOf ordI y x = false) : x = y := by
  rw [ltOrd] at *
  simp only [decide_eq_false_iff_not] at *
  unfold ahd at *
  obtain ⟨a, b⟩ := x
  obtain ⟨c, d⟩ := y
  simp only at *
  have e1 : b = d := by omega
  have e2 : a = c := by omega
  rw [e1, e2]

/-- a rated server's two cells -/
def encR (x : Int × Nat) : List Value := [.int .i64 x.1, .int .u64 (x.2 : Nat)]
def flats (d : List (Int × Nat)) : List Value := d.flatMap encR
theorem flats_length (d : List (Int × Nat)) : (flats d).length = d.length * 2 := by
  induction d with
  | nil => rfl
  | cons x d ih => simp only [flats, List.flatMap_cons, List.length_append, List.length_cons] at *; simp [encR] at *; omega
theorem flats_append (a b : List (Int × Nat)) : flats (a ++ b) = flats a ++ flats b := by simp [flats]
theorem flats_at (d : List (Int × Nat)) {i : Nat} (hi : i < d.length) : (flats d)[i * 2]? = some (.int .i64 (d.getD i (0, 0)).1) ∧ (flats d)[i * 2 + 1]? = some (.int .u64 ((d.getD i (0, 0)).2 : Nat)) := by
  induction d generalizing i with
  | nil => simp at hi
  | cons x d ih =>
    cases i with
    | zero => simp [flats, encR]
    | succ i =>
      have hi' : i < d.length := by simpa using hi
      have := ih hi'
      have e1 : (i + 1) * 2 = i * 2 + 1 + 1 := by omega
      have e2 : (i + 1) * 2 + 1 = i * 2 + 1 + 1 + 1 := by omega
      rw [e2, e1]
      have hf : flats (x :: d) = .int .i64 x.1 :: .int .u64 (x.2 : Nat) :: flats d := rfl
      rw [hf]
      simpa using this

theorem holds_of_own {w : World} {base g cap : Nat} {d : List (Int × Nat)} (h : w.ownsRow base 38 2 (.slice (some ⟨g, 0, none⟩) d.length cap) d.length (flats d)) : HoldsK encR 2 w g 0 d.toArray := by
  intro t ht
  rw [size_flatK] at ht
  have ht' : t < d.length * 2 := by simpa using ht
  rw [get_flatK _ _ _ _ ht]
  have hq : t / 2 < d.length := by omega
  have hd : d.toArray[t / 2]! = d.getD (t / 2) (0, 0) := by
    rw [getElem!_pos _ _ (by simpa using hq)]
    simp [List.getElem?_eq_getElem hq]
  rw [hd]
  have hx := flats_at d hq
  have hc : w.cell? ⟨g, t, none⟩ = (flats d)[t]? := by
    have hl : t < (flats d).length := by rw [flats_length]; exact ht'
    have := h.cells (g := g) rfl t (flats d)[t] (List.getElem?_eq_getElem hl)
    have hadd : (⟨g, 0, none⟩ : Addr).add t = ⟨g, t, none⟩ := by unfold Addr.add; split <;> simp_all
    rw [hadd] at this
    rw [this, List.getElem?_eq_getElem hl]
  have hf : w.frozen? ⟨g, t, none⟩ = false := by
    rcases h.2 with ⟨h1, _⟩ | ⟨g', cap', cur, hv, hb, hg, _⟩
    · cases h1
    · cases hv; exact Blk.frozen hg t
  rw [Nat.zero_add]
  refine ⟨?_, hf⟩
  rw [hc]
  rcases (show t % 2 = 0 ∨ t % 2 = 1 by omega) with h2 | h2
  · have e : t = t / 2 * 2 := by omega
    rw [h2]
    conv => lhs; rw [e]
    rw [hx.1]; rfl
  · have e : t = t / 2 * 2 + 1 := by omega
    rw [h2]
    conv => lhs; rw [e]
    rw [hx.2]; rfl

theorem holds_cell {w : World} {g : Nat} {d : List (Int × Nat)} (h : HoldsK encR 2 w g 0 d.toArray) {i : Nat} (hi : i < d.length) :
    w.cell? ⟨g, i * 2, none⟩ = some (.int .i64 (d.getD i (0, 0)).1) ∧ w.cell? ⟨g, i * 2 + 1, none⟩ = some (.int .u64 ((d.getD i (0, 0)).2 : Nat)) := by
  have hd : d.toArray[i]! = d.getD i (0, 0) := by
    rw [getElem!_pos _ _ (by simpa using hi)]
    simp [List.getElem?_eq_getElem hi]
  have h0 := (h.cell (i := i) (c := 0) (by simpa using hi) (by omega)).1
  have h1 := (h.cell (i := i) (c := 1) (by simpa using hi) (by omega)).1
  rw [hd] at h0 h1
  rw [Nat.zero_add, Nat.add_zero] at h0
  rw [Nat.zero_add] at h1
  exact ⟨h0, h1⟩

/-- the servers in their order -/
def sorted (d : List (Int × Nat)) : List (Int × Nat) := d.mergeSort fun x y => !(ltOf ordI) y x
theorem sorted_length (d : List (Int × Nat)) : (sorted d).length = d.length := by unfold sorted; simp

theorem kept_sort (w : World) (g n : Nat) (d : Array (Int × Nat)) (os : Array Obj) : Kept [g] w (sortWorldK encR 2 w g 0 n d os) := by
  refine ⟨rfl, rfl, rfl, ?_, ?_⟩
  · unfold sortWorldK; simp [putRowK, putRow, mapBlock, ahead]
  · intro k hk hn
    have hne : ¬ g = k := fun e => hn (by simp [e])
    unfold sortWorldK
    rw [heap_grow_old _ _ (by simpa [putRowK, putRow, mapBlock, ahead] using hk)]
    simp [putRowK, putRow, mapBlock, ahead, Array.getElem?_modify, hne]

set_option maxRecDepth 100000 in
theorem sort_any {w : World} {g cap n : Nat} {d : List (Int × Nat)} (hn : d.length = n) (hH : HoldsK encR 2 w g 0 d.toArray) (hb : g < w.heap.size) (hs : n ≤ 65536) :
    Calls Try.prog 13 #[.slice (some ⟨g, 0, none⟩) n cap, .func (.func 14) #[] #[]] w fun e w' => e = .returned (.tuple #[]) ∧ HoldsK encR 2 w' g 0 (sorted d).toArray ∧ Kept [g] w w' := by
  subst hn
  have eg : ∀ args w, (callFunc 14 args).run Try.prog w = .ok (.enter 14 args) w := enters_of Try.func14 (by kernel_rfl) rfl
  have hcon := AnyQ.slices_SortFunc_total sortRated 2 Try.isAgg38 Try.sizeOf38 encR (fun _ => rfl) (fun x v hv => by simp [encR] at hv; rcases hv with rfl | rfl <;> rfl) ordI swoOrd 14 #[] g 0 cap d.toArray w eg (fun _ _ _ _ x y => order_any _ x y) hH hb (by simp; omega) totOrd
  have hcon2 : Calls Try.prog 13 #[.slice (some ⟨g, 0, none⟩) d.length cap, .func (.func 14) #[] #[]] w fun e w' =>
      e = .returned (.tuple #[]) ∧ ∃ n os, w' = sortWorldK encR 2 w g 0 n (sorted d).toArray os := hcon
  refine hcon2.mono ?_
  rintro e w' ⟨he, n, os, rfl⟩
  refine ⟨he, ?_, kept_sort _ _ _ _ _⟩
  unfold sortWorldK
  refine holdsK_grow encR 2 _ _ _ _ _ (by simpa [putRowK, putRow, mapBlock, ahead] using hb) ?_
  exact holdsK_putRowK encR 2 _ _ _ d.toArray _ (holdsK_ahead encR 2 _ _ _ _ _ hH) (by simp [sorted_length])

theorem sort_none (w : World) (p : Option Addr) (cap : Nat) (fv : Value) :
    Calls Try.prog 13 #[.slice p 0 cap, fv] w fun e w' => e = .returned (.tuple #[]) ∧ w' = w :=
  AnyF.slices_SortFunc_none sortRated p cap fv w
end Go.Proofs.Ytiafnfjgmfnnoab
