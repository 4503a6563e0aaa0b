/- The place of a value among the entries: a search that halves. -/
import Derived.Test.YtgiifedljebclaaDEnt
import Derived.Test.YtgiifedljebclaaRFlo
import Derived.Deep.RegionHeld3
import Derived.Deep.LoopGhost
import Derived.Shelf.Abstract
namespace Go.Proofs.Ytgiifedljebclaa.flo
open Go.RowKit

/-- a NaN comes ahead of every number -/
def gtV (a b : Nat) : Bool := !isN a && (isN b || decide (kk b < kk a))
theorem behindV : Behind gtV := by
  constructor
  · intro a b c h1 h2
    unfold gtV at *
    cases ha : isN a <;> cases hb : isN b <;> cases hc : isN c <;> simp_all
    omega
  · intro a b h
    unfold gtV at *
    cases ha : isN a <;> cases hb : isN b <;> simp_all
    omega
theorem stF : ∀ (w : World) (a : Addr) (y : Nat), (store a (.float .f64 y)).run Try.prog w = stored Try.prog w a (.float .f64 y) .plain := fun w a _ => run_store Try.prog w a _ .plain rfl
theorem neq_of {a : Nat} {x : Bool} (h : isN a = x) : (FloatKind.f64.format.order a a != some Ordering.eq) = x := by
  show (!(FloatKind.f64.format.order a a == some Ordering.eq)) = x
  rw [nan_self, h]; cases x <;> rfl
theorem eqq_of {a : Nat} {x : Bool} (h : isN a = x) : (FloatKind.f64.format.order a a == some Ordering.eq) = !x := by rw [nan_self, h]
set_option maxRecDepth 100000 in
theorem isnan_any {w : World} (a : Nat) : Calls Try.prog 86 #[.float .f64 a] w fun e w' => e = .returned (.bool (isN a)) ∧ w' = w := by
  have h1 := neq_of (a := a) rfl
  have h2 := eqq_of (a := a) rfl
  generalize isN a = x at *
  go_enter Try.func86, Try.ntmps86
  go_wp2
  go_ret
  exact ⟨rfl, rfl⟩
set_option maxRecDepth 100000 in
theorem cmp_yes {w : World} {a b : Nat} (h : gtV a b = true) : Calls Try.prog 75 #[.float .f64 a, .float .f64 b] w fun e w' => e = .returned (.int .i64 1) ∧ w' = w := by
  have HN := fun x => hide (isnan_any (w := w) x)
  unfold gtV at h
  simp only [Bool.and_eq_true, Bool.not_eq_true', Bool.or_eq_true, decide_eq_true_eq] at h
  obtain ⟨ha, hb⟩ := h
  cases hn : isN b with
  | true =>
    clear hb
    go_enter Try.func75, Try.ntmps75
    go_wp2_with (go_at_call 86; refine (unhide (HN _)).mono ?_; rintro e w' ⟨rfl, hq⟩; have hq2 := hq.symm; subst hq2; first | rw [ha] | rw [hn])
    go_ret
    exact ⟨rfl, rfl⟩
  | false =>
    rw [hn] at hb
    have hlt : kk b < kk a := by simpa using hb
    have ho := order_num ha hn
    rw [Int.compare_eq_gt.2 hlt] at ho
    have h1 : (FloatKind.f64.format.order a b == some Ordering.lt) = false := by rw [ho]; rfl
    have h2 : (FloatKind.f64.format.order a b == some Ordering.gt) = true := by rw [ho]; rfl
    clear hb hlt ho
    go_enter Try.func75, Try.ntmps75
    go_wp2_with (go_at_call 86; refine (unhide (HN _)).mono ?_; rintro e w' ⟨rfl, hq⟩; have hq2 := hq.symm; subst hq2; first | rw [ha] | rw [hn])
    go_ret
    exact ⟨rfl, rfl⟩
set_option maxRecDepth 100000 in
theorem cmp_no {w : World} {a b : Nat} (h : gtV a b = false) : Calls Try.prog 75 #[.float .f64 a, .float .f64 b] w fun e w' => ∃ c : Int, c ≤ 0 ∧ e = .returned (.int .i64 c) ∧ w' = w := by
  have HN := fun x => hide (isnan_any (w := w) x)
  cases ha : isN a with
  | true =>
    cases hn : isN b with
    | true =>
      go_enter Try.func75, Try.ntmps75
      go_wp2_with (go_at_call 86; refine (unhide (HN _)).mono ?_; rintro e w' ⟨rfl, hq⟩; have hq2 := hq.symm; subst hq2; first | rw [ha] | rw [hn])
      go_ret
      exact ⟨0, by omega, rfl, rfl⟩
    | false =>
      go_enter Try.func75, Try.ntmps75
      go_wp2_with (go_at_call 86; refine (unhide (HN _)).mono ?_; rintro e w' ⟨rfl, hq⟩; have hq2 := hq.symm; subst hq2; first | rw [ha] | rw [hn])
      go_ret
      exact ⟨-1, by omega, rfl, rfl⟩
  | false =>
    have hn : isN b = false := by unfold gtV at h; rw [ha] at h; simp at h; exact h.1
    have hle : kk a ≤ kk b := by unfold gtV at h; rw [ha, hn] at h; simpa using h
    have ho := order_num ha hn
    rcases Int.lt_or_eq_of_le hle with h3 | h3
    · rw [Int.compare_eq_lt.2 h3] at ho
      have h1 : (FloatKind.f64.format.order a b == some Ordering.lt) = true := by rw [ho]; rfl
      have h2 : (FloatKind.f64.format.order a b == some Ordering.gt) = false := by rw [ho]; rfl
      clear h hle h3 ho
      go_enter Try.func75, Try.ntmps75
      go_wp2_with (go_at_call 86; refine (unhide (HN _)).mono ?_; rintro e w' ⟨rfl, hq⟩; have hq2 := hq.symm; subst hq2; first | rw [ha] | rw [hn])
      go_ret
      exact ⟨-1, by omega, rfl, rfl⟩
    · rw [Int.compare_eq_eq.2 h3] at ho
      have h1 : (FloatKind.f64.format.order a b == some Ordering.lt) = false := by rw [ho]; rfl
      have h2 : (FloatKind.f64.format.order a b == some Ordering.gt) = false := by rw [ho]; rfl
      clear h hle h3 ho
      go_enter Try.func75, Try.ntmps75
      go_wp2_with (go_at_call 86; refine (unhide (HN _)).mono ?_; rintro e w' ⟨rfl, hq⟩; have hq2 := hq.symm; subst hq2; first | rw [ha] | rw [hn])
      go_ret
      exact ⟨0, by omega, rfl, rfl⟩

set_option maxRecDepth 100000 in
theorem clo_yes {w : World} {ba bx g cap i L : Nat} {y x : Nat} (ha : w.cell? ⟨ba, 0, none⟩ = some (.slice (some ⟨g, 0, none⟩) L cap)) (hx : w.cell? ⟨bx, 0, none⟩ = some (.float .f64 x)) (hc : w.cell? ⟨g, i * 3, none⟩ = some (.float .f64 y)) (hi : i < L) (hy : gtV y x = true) :
    Calls Try.prog 74 #[.int .i64 i, .pointer (some ⟨ba, 0, none⟩), .pointer (some ⟨bx, 0, none⟩)] w fun e w' => e = .returned (.bool true) ∧ Quiet w w' := by
  have HC := hide (fun w => cmp_yes (w := w) hy)
  clear hy
  go_enter Try.func74, Try.ntmps74
  go_wp2_with fail
  go_region_held3 (fun w' => w'.cell? ⟨ba, 0, none⟩ = some (.slice (some ⟨g, 0, none⟩) L cap) ∧ w'.cell? ⟨bx, 0, none⟩ = some (.float .f64 x) ∧ w'.cell? ⟨g, i * 3, none⟩ = some (.float .f64 y)) (go_keep) (first | (go_at_call 75; refine (unhide HC _).mono ?_; rintro e w3 ⟨rfl, hq⟩; have hq' := hq.symm; subst hq'; clear HC))
  all_goals go_wp2
  all_goals go_ret
  all_goals exact ⟨by first | rfl | (simp [Array.getD]; omega), (Quiet.refl w).drew⟩
set_option maxRecDepth 100000 in
theorem clo_no {w : World} {ba bx g cap i L : Nat} {y x : Nat} (ha : w.cell? ⟨ba, 0, none⟩ = some (.slice (some ⟨g, 0, none⟩) L cap)) (hx : w.cell? ⟨bx, 0, none⟩ = some (.float .f64 x)) (hc : w.cell? ⟨g, i * 3, none⟩ = some (.float .f64 y)) (hi : i < L) (hy : gtV y x = false) :
    Calls Try.prog 74 #[.int .i64 i, .pointer (some ⟨ba, 0, none⟩), .pointer (some ⟨bx, 0, none⟩)] w fun e w' => e = .returned (.bool false) ∧ Quiet w w' := by
  have HC := hide (fun w => cmp_no (w := w) hy)
  clear hy
  go_enter Try.func74, Try.ntmps74
  go_wp2_with fail
  go_region_held3 (fun w' => w'.cell? ⟨ba, 0, none⟩ = some (.slice (some ⟨g, 0, none⟩) L cap) ∧ w'.cell? ⟨bx, 0, none⟩ = some (.float .f64 x) ∧ w'.cell? ⟨g, i * 3, none⟩ = some (.float .f64 y)) (go_keep) (first | (go_at_call 75; refine (unhide HC _).mono ?_; rintro e w3 ⟨c, hc0, rfl, hq⟩; have hq' := hq.symm; subst hq'; clear HC))
  all_goals go_wp2
  all_goals go_ret
  all_goals exact ⟨by first | rfl | (simp [Array.getD]; omega), (Quiet.refl w).drew⟩

set_option maxHeartbeats 1000000 in
set_option maxRecDepth 100000 in
/-- the search: how many places are not yet so -/
theorem search_any {w : World} {fa : Nat} {cb : Array Value} {n k : Nat} {p : Nat → Bool} (eg : ∀ args w, (callFunc fa args).run Try.prog w = .ok (.enter fa args) w) (hn : n < 4611686018427387904) (hk : k ≤ n)
    (hf : ∀ W, Quiet w W → ∀ i : Nat, i < n → Calls Try.prog fa (#[.int .i64 i] ++ cb) W fun e w' => e = .returned (.bool (p i)) ∧ Quiet W w')
    (hlo : ∀ j, j < k → p j = false) (hhi : ∀ j, k ≤ j → j < n → p j = true) :
    Calls Try.prog 68 #[.int .i64 n, .func (.func fa) #[] cb] w fun e w' => e = .returned (.int .i64 k) ∧ Quiet w w' := by
  have HF := hide hf
  have HL := hide hlo
  have HH := hide hhi
  clear hf hlo hhi
  go_enter Try.func68, Try.ntmps68
  go_wp2
  go_loopg [5, 6] n (fun kx s5 s6 wr => ∃ (lo hi : Nat), s5 = .int .i64 lo ∧ s6 = .int .i64 hi ∧ lo ≤ k ∧ k ≤ hi ∧ hi ≤ n ∧ hi - lo ≤ kx ∧ Quiet w wr)
  case atStart => exact ⟨0, n, rfl, rfl, Nat.zero_le _, hk, Nat.le_refl _, by omega, Quiet.refl w⟩
  case round =>
    obtain ⟨lo, hi, rfl, rfl, h1, h2, h3, h4, hq⟩ := hrel
    by_cases hlt : lo < hi
    · have hc := unhide HF _ hq ((lo + hi) / 2) (by omega)
      rw [show (((lo + hi) / 2 : Nat) : Int) = ((lo : Int) + (hi : Int)) / 2 by omega] at hc
      have HQ := hide hq
      clear hq
      cases hp : p ((lo + hi) / 2) <;> rw [hp] at hc
      · have HP : Hid (k ≥ (lo + hi) / 2 + 1) := by
          show k ≥ (lo + hi) / 2 + 1
          rcases Nat.lt_or_ge ((lo + hi) / 2) k with h | h
          · exact h
          · have := unhide HH _ h (by omega); rw [hp] at this; cases this
        clear hp
        go_wp2_with (go_at_fn fa; refine hc.mono ?_; rintro e w' ⟨rfl, hq2⟩)
        go_roundg (hi - ((lo + hi) / 2 + 1))
        case measure => omega
        case rel =>
          have := unhide HP
          exact ⟨(lo + hi) / 2 + 1, hi, by rw [show ((lo : Int) + (hi : Int)) / 2 + 1 = (((lo + hi) / 2 + 1 : Nat) : Int) by omega], rfl, by omega, h2, h3, Nat.le_refl _, (unhide HQ).trans hq2⟩
      · have HP : Hid (k ≤ (lo + hi) / 2) := by
          show k ≤ (lo + hi) / 2
          rcases Nat.lt_or_ge ((lo + hi) / 2) k with h | h
          · have := unhide HL _ h; rw [hp] at this; cases this
          · exact h
        clear hp
        go_wp2_with (go_at_fn fa; refine hc.mono ?_; rintro e w' ⟨rfl, hq2⟩)
        go_roundg ((lo + hi) / 2 - lo)
        case measure => omega
        case rel =>
          have := unhide HP
          exact ⟨lo, (lo + hi) / 2, rfl, by rw [show ((lo : Int) + (hi : Int)) / 2 = (((lo + hi) / 2 : Nat) : Int) by omega], h1, by omega, by omega, Nat.le_refl _, (unhide HQ).trans hq2⟩
    · obtain rfl : lo = k := by omega
      go_wp2
      go_ret
      exact ⟨rfl, hq⟩

theorem rise_at {es : List (En Nat)} (hr : es.Pairwise fun a b => gtV a.v b.v = false) {x : Nat} {j : Nat} {e : En Nat} (h : es[j]? = some e) : gtV e.v x = decide (plc gtV es x ≤ j) := by
  obtain ⟨hj, rfl⟩ := List.getElem?_eq_some_iff.1 h
  by_cases hp : plc gtV es x ≤ j
  · rw [plc_behind behindV hr hj hp]; simp [hp]
  · rw [plc_ahead (gt := gtV) (x := x) hj (by omega)]; simp [hp]

set_option maxHeartbeats 1000000 in
set_option maxRecDepth 100000 in
theorem place_any {w : World} {v : Value} {es : List (En Nat)} (ho : w.ownsRow 0 93 3 v es.length (flatE es)) (hr : es.Pairwise fun a b => gtV a.v b.v = false) (hs : es.length ≤ 1099511627776) (x : Nat) :
    Calls Try.prog 51 #[v, (.float .f64 x)] w fun e w' => e = .returned (.int .i64 (plc gtV es x : Nat)) ∧ Kept [] w w' := by
  have hpl := plc_le gtV es x
  have HO := hide ho
  obtain ⟨va, vc, rfl⟩ := own_len ho
  have eg : ∀ args w, (callFunc 74 args).run Try.prog w = .ok (.enter 74 args) w := enters_of Try.func74 (by kernel_rfl) rfl
  have HS : Hid (∀ (W : World) (ba bx : Nat), W.cell? ⟨ba, 0, none⟩ = some (.slice va es.length vc) → W.cell? ⟨bx, 0, none⟩ = some (.float .f64 x) → Kept [] w W →
      Calls Try.prog 68 #[.int .i64 es.length, .func (.func 74) #[] #[.pointer (some ⟨ba, 0, none⟩), .pointer (some ⟨bx, 0, none⟩)]] W fun e w' => e = .returned (.int .i64 (plc gtV es x : Nat)) ∧ Quiet W w') := by
    intro W ba bx hba hbx hk
    refine search_any (p := fun j => decide (plc gtV es x ≤ j)) eg (by omega) hpl ?_ (fun j hj => by simp; omega) (fun j hj _ => by simp; omega)
    intro W2 hq i hi
    have hi' : es[i]? = some es[i] := List.getElem?_eq_getElem hi
    obtain ⟨g, cap, cur, hv, hg, hsz, hnc, hcm, hcs⟩ := own_form (own_kept (own_kept (unhide HO) hk (by simp)) hq.kept (by simp)) (by omega)
    cases hv
    have hc := hcs _ _ (flatE_at hi').1
    have hgt := rise_at hr (x := x) hi'
    have e1 := (hq.cell ⟨ba, 0, none⟩).trans hba
    have e2 := (hq.cell ⟨bx, 0, none⟩).trans hbx
    cases hd : decide (plc gtV es x ≤ i)
    · rw [hd] at hgt
      exact clo_no e1 e2 hc hi hgt
    · rw [hd] at hgt
      exact clo_yes e1 e2 hc hi hgt
  clear ho hr HO eg
  generalize plc gtV es x = q at *
  generalize es.length = L at *
  have HS2 := hide (unhide HS ((w.alloc (.cells #[.slice va L vc] 87)).alloc (.cells #[(.float .f64 x)] 47)) w.heap.size (w.heap.size + 1)
    (by rw [((Blk.new w #[.slice va L vc] 87).alloc _).cell]; rfl)
    (by have := Blk.new (w.alloc (.cells #[.slice va L vc] 87)) #[(.float .f64 x)] 47; simp at this; rw [this.cell]; rfl) (((Kept.refl [] w).alloc _).alloc _))
  clear HS
  go_enter Try.func51, Try.ntmps51
  go_wp2_with (go_at_call 68; refine (unhide HS2).mono ?_; rintro e w' ⟨rfl, hq⟩)
  go_ret
  exact ⟨rfl, (((Kept.refl [] w).alloc _).alloc _).trans hq.kept (by simp)⟩
end Go.Proofs.Ytgiifedljebclaa.flo
