/- Letters sorted by their numbers. -/
import Derived.Test.YtcohdkemfkiekaaULtrZ
namespace Go.Proofs.Ytcohdkemfkiekaa
open Go.RowKit Go.Maps Go.Sort
set_option linter.unusedSimpArgs false

def cmpI (x y : Int) : Int := if x < y then -1 else if y < x then 1 else 0
set_option maxRecDepth 100000 in
theorem nan_any (w : World) (x : Int) : Calls Try.prog 53 #[.int .i64 x] w fun e w' => e = .returned (.bool false) ∧ w' = w := by
  have h : (x != x) = false := by simp
  go_enter Try.func53, Try.ntmps53
  go_wp2
  go_ret
  exact ⟨rfl, rfl⟩
set_option maxRecDepth 100000 in
theorem cmp_any (w : World) (x y : Int) : Calls Try.prog 44 #[.int .i64 x, .int .i64 y] w fun e w' => e = .returned (.int .i64 (cmpI x y)) ∧ w' = w := by
  by_cases h1 : x < y
  · have hr : cmpI x y = -1 := by unfold cmpI; rw [if_pos h1]
    rw [hr]
    go_enter Try.func44, Try.ntmps44
    go_wp2_with (go_at_call 53; refine (nan_any _ _).mono ?_; rintro e w1 ⟨rfl, hq⟩; subst hq)
    go_ret
    exact ⟨rfl, rfl⟩
  · by_cases h2 : y < x
    · have hr : cmpI x y = 1 := by unfold cmpI; rw [if_neg h1, if_pos h2]
      rw [hr]
      go_enter Try.func44, Try.ntmps44
      go_wp2_with (go_at_call 53; refine (nan_any _ _).mono ?_; rintro e w1 ⟨rfl, hq⟩; subst hq)
      go_ret
      exact ⟨rfl, rfl⟩
    · have hr : cmpI x y = 0 := by unfold cmpI; rw [if_neg h1, if_neg h2]
      rw [hr]
      go_enter Try.func44, Try.ntmps44
      go_wp2_with (go_at_call 53; refine (nan_any _ _).mono ?_; rintro e w1 ⟨rfl, hq⟩; subst hq)
      go_ret
      exact ⟨rfl, rfl⟩
def ordL (x y : Lx) : Int := cmpI x.n y.n
theorem lt_ordL (x y : Lx) : ltOf ordL x y = decide (x.n < y.n) := by
  unfold ltOf ordL cmpI
  by_cases h1 : x.n < y.n
  · rw [if_pos h1]; simp [h1]
  · rw [if_neg h1]
    split <;> simp [h1]
theorem swoL : SWO (ltOf ordL) := by
  constructor <;> intros <;> simp only [lt_ordL, decide_eq_true_eq, decide_eq_false_iff_not] at * <;> omega
set_option maxRecDepth 100000 in
theorem order_any (w : World) (x y : Lx) : Calls Try.prog 43 #[.agg (ltrC x).toArray, .agg (ltrC y).toArray] w fun e w' => e = .returned (.int .i64 (ordL x y)) ∧ ∃ q os', w' = grow (w.drewN q) os' := by
  have HC := hide (fun W => cmp_any W x.n y.n)
  have hr : ordL x y = cmpI x.n y.n := rfl
  rw [hr]
  generalize cmpI x.n y.n = R at *
  unfold ltrC slL
  go_enter Try.func43, Try.ntmps43
  go_wp2_with (go_at_call 44; refine (unhide HC _).mono ?_; rintro e w1 ⟨rfl, hq⟩; subst hq)
  go_ret
  exact ⟨rfl, 0, _, by rw [alloc_eq_grow, alloc_eq_grow, grow_grow]; rfl⟩
theorem kept_sortL (w : World) (g n : Nat) (d : Array Lx) (os : Array Obj) : Kept [g] w (sortWorldK ltrC 4 w g 0 n d os) := by
  refine ⟨rfl, rfl, rfl, ?_, ?_⟩
  · unfold sortWorldK; simp [putRowK, putRow, mapBlock, ahead]
  · intro k hk hn
    have hne : ¬ g = k := fun e => hn (by simp [e])
    unfold sortWorldK
    rw [heap_grow_old _ _ (by simpa [putRowK, putRow, mapBlock, ahead] using hk)]
    simp [putRowK, putRow, mapBlock, ahead, Array.getElem?_modify, hne]
set_option maxRecDepth 100000 in
theorem sort_any {w : World} {g cap n : Nat} {d : List Lx} (hn : d.length = n) (hH : HoldsK ltrC 4 w g 0 d.toArray) (hb : g < w.heap.size) (hs : n ≤ 65536) :
    Calls Try.prog 42 #[.slice (some ⟨g, 0, none⟩) n cap, .func (.func 43) #[] #[]] w fun e w' => e = .returned (.tuple #[]) ∧ ∃ d' : List Lx, HoldsK ltrC 4 w' g 0 d'.toArray ∧ d'.Perm d ∧ (d'.Pairwise fun x y => x.n ≤ y.n) ∧ Kept [g] w w' := by
  subst hn
  have eg : ∀ args w, (callFunc 43 args).run Try.prog w = .ok (.enter 43 args) w := enters_of Try.func43 (by kernel_rfl) rfl
  have hcon := AnyQ.slices_SortFunc sortL 4 Try.isAgg48 Try.sizeOf48 ltrC (fun _ => rfl) (fun x v hv => by simp [ltrC] at hv; rcases hv with rfl | rfl | rfl | rfl <;> rfl) ordL swoL 43 #[] g 0 cap d.toArray w eg (fun _ _ _ _ x y => order_any _ x y) hH hb (by simp; omega)
  have hcon2 : Calls Try.prog 42 #[.slice (some ⟨g, 0, none⟩) d.length cap, .func (.func 43) #[] #[]] w fun e w' =>
      e = .returned (.tuple #[]) ∧ ∃ d' n os, PermIn 0 d.toArray.size d.toArray d' ∧ SortedIn (ltOf ordL) 0 d.toArray.size d' ∧ w' = sortWorldK ltrC 4 w g 0 n d' os := hcon
  refine hcon2.mono ?_
  rintro e w' ⟨he, d', n, os, ⟨p1, -, p3⟩, hs', rfl⟩
  have p1' : d'.size = d.length := by simpa using p1
  refine ⟨he, d'.toList, ?_, ?_, ?_, kept_sortL _ _ _ _ _⟩
  · unfold sortWorldK
    refine holdsK_grow ltrC 4 _ _ _ _ _ (by simpa [putRowK, putRow, mapBlock, ahead] using hb) ?_
    exact holdsK_putRowK ltrC 4 _ _ _ d.toArray _ (holdsK_ahead ltrC 4 _ _ _ _ _ hH) (by simpa using p1')
  · have e1 : d'.extract 0 d.toArray.size = d' := by rw [← p1, Array.extract_size]
    have e2 : d.toArray.extract 0 d.toArray.size = d.toArray := Array.extract_size
    rw [e1, e2] at p3
    simpa using p3
  · rw [List.pairwise_iff_getElem]
    intro i j hi hj hij
    have hi' : i < d'.size := by simpa using hi
    have hj' : j < d'.size := by simpa using hj
    have := hs' i j (Nat.zero_le _) hij (by simpa [p1'] using hj')
    rw [lt_ordL, getElem!_pos d' j hj', getElem!_pos d' i hi'] at this
    simp at this
    simpa using this
theorem sort_none (w : World) (p : Option Addr) (cap : Nat) (fv : Value) : Calls Try.prog 42 #[.slice p 0 cap, fv] w fun e w' => e = .returned (.tuple #[]) ∧ w' = w :=
  AnyF.slices_SortFunc_none sortL p cap fv w
theorem rises_ext : ∀ {a b : List (Int × Ms)}, Rises a → Rises b → (∀ p, p ∈ a ↔ p ∈ b) → a = b
  | [], [], _, _, _ => rfl
  | [], y :: b, _, _, h => by have := (h y).2 (by simp); cases this
  | x :: a, [], _, _, h => by have := (h x).1 (by simp); cases this
  | x :: a, y :: b, ha, hb, h => by
    obtain ⟨a1, a2⟩ := List.pairwise_cons.1 ha
    obtain ⟨b1, b2⟩ := List.pairwise_cons.1 hb
    have e : x = y := by
      have hx := (h x).1 (by simp)
      have hy := (h y).2 (by simp)
      rcases List.mem_cons.1 hx with e | hx
      · exact e
      · rcases List.mem_cons.1 hy with e | hy
        · exact e.symm
        · have h1 := b1 x hx
          have h2 := a1 y hy
          omega
    subst e
    rw [rises_ext a2 b2 (fun p => ⟨fun hp => ?_, fun hp => ?_⟩)]
    · rcases List.mem_cons.1 ((h p).1 (by simp [hp])) with e | h2
      · subst e; have := a1 p hp; omega
      · exact h2
    · rcases List.mem_cons.1 ((h p).2 (by simp [hp])) with e | h2
      · subst e; have := b1 p hp; omega
      · exact h2
end Go.Proofs.Ytcohdkemfkiekaa
