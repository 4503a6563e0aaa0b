/- Of, Sum, Top, Row. -/
import Derived.Test.YthhgeobfolhpoaaVNew
namespace Go.Proofs.Ythhgeobfolhpoaa
open Go.RowKit

/-- what Of answers -/
def Mt.of (m : Mt) (s : Int) : Nat := if s < 0 ∨ (m.loads.length : Int) ≤ s then 0 else m.loads.getD s.toNat 0
set_option maxRecDepth 100000 in
theorem of_any {w : World} {b g : Nat} {m : Mt} (h : Mp w b g m) (s : Int) : Calls Try.prog 20 #[.pointer (some ⟨b, 0, none⟩), .int .i64 s] w fun e w' => e = .returned (.float .f64 (m.of s)) ∧ w' = w := by
  have HA := fun W (hq : Quiet w W) => hide (all_any (h.quiet hq))
  have hl2 := h.ok.l2
  unfold Mt.of
  by_cases h1 : s < 0
  · rw [if_pos (Or.inl h1)]
    have t1 : (s < 0) = True := by simp; exact h1
    clear h h1
    generalize m.loads.length = L at *
    go_enter Try.func20, Try.ntmps20
    go_wp2_with (first | (go_at_call 40; refine (unhide (HA _ (Quiet.refl _))).mono ?_; rintro e w1 ⟨rfl, hq⟩; have hq' := hq.symm; subst hq'; clear HA))
    go_ret
    exact ⟨rfl, rfl⟩
  · have t1 : (s < 0) = False := by simp; omega
    by_cases h2 : (m.loads.length : Int) ≤ s
    · rw [if_pos (Or.inr h2)]
      have t2 : ((m.loads.length : Int) ≤ s) = True := by simp; exact h2
      clear h h1 h2
      generalize m.loads.length = L at *
      go_enter Try.func20, Try.ntmps20
      go_wp2_with (first | (go_at_call 40; refine (unhide (HA _ (Quiet.refl _))).mono ?_; rintro e w1 ⟨rfl, hq⟩; have hq' := hq.symm; subst hq'; clear HA))
      go_ret
      exact ⟨rfl, rfl⟩
    · rw [if_neg (by omega)]
      obtain ⟨k, rfl⟩ : ∃ k : Nat, s = (k : Int) := ⟨s.toNat, by omega⟩
      have hc := h.load (j := k) (by omega)
      rw [Int.toNat_natCast]
      have t2 : ((m.loads.length : Int) ≤ (k : Int)) = False := by simp; omega
      have t3 : k < m.loads.length := by omega
      clear h h1 h2 t1
      generalize m.loads.length = L at *
      generalize m.loads.getD k 0 = x at *
      go_enter Try.func20, Try.ntmps20
      go_wp2_with (first | (go_at_call 40; refine (unhide (HA _ (Quiet.refl _))).mono ?_; rintro e w1 ⟨rfl, hq⟩; have hq' := hq.symm; subst hq'; clear HA))
      go_ret
      exact ⟨rfl, rfl⟩
set_option maxRecDepth 100000 in
theorem nof (w : World) (s : Int) : Calls Try.prog 20 #[.pointer none, .int .i64 s] w fun e w' => e = .returned (.float .f64 0) ∧ w' = w := by
  have HA := hide (nall w)
  by_cases h1 : s < 0
  · have t1 : (s < 0) = True := by simp; exact h1
    clear h1
    go_enter Try.func20, Try.ntmps20
    go_wp2_with (first | (go_at_call 40; refine (unhide HA).mono ?_; rintro e w1 ⟨rfl, hq⟩; have hq' := hq.symm; subst hq'; clear HA))
    go_ret
    exact ⟨rfl, rfl⟩
  · have t1 : (s < 0) = False := by simp; omega
    have t2 : ((0 : Int) ≤ s) = True := by simp; omega
    clear h1
    go_enter Try.func20, Try.ntmps20
    go_wp2_with (first | (go_at_call 40; refine (unhide HA).mono ?_; rintro e w1 ⟨rfl, hq⟩; have hq' := hq.symm; subst hq'; clear HA))
    go_ret
    exact ⟨rfl, rfl⟩

/-- the sum of the loads -/
def Mt.sum (m : Mt) : Nat := sumF m.loads m.loads.length
theorem Mt.sum_mid {m : Mt} (h : m.ok) (k : Nat) : mid (sumF m.loads k) := Proofs.Ythhgeobfolhpoaa.sum_mid fun j _ => h.lo j
set_option maxRecDepth 100000 in
theorem sum_any {w : World} {b g : Nat} {m : Mt} (h : Mp w b g m) : Calls Try.prog 26 #[.pointer (some ⟨b, 0, none⟩)] w fun e w' => e = .returned (.float .f64 m.sum) ∧ w' = w := by
  have HA := hide (all_any h)
  have hl2 := h.ok.l2
  have hcs := fun j (hj : j < m.loads.length) => h.load hj
  have had := fun k => (add_eq (Mt.sum_mid h.ok k).good (h.ok.lo k).fair).1
  have HSS : ∀ k, sumF m.loads (k + 1) = addF (sumF m.loads k) (m.loads.getD k 0) := fun k => rfl
  unfold Mt.sum
  clear h
  generalize m.loads = l at *
  generalize l.length = L at *
  go_enter Try.func26, Try.ntmps26
  go_wp2_with (first | (go_at_call 40; refine (unhide HA).mono ?_; rintro e w1 ⟨rfl, hq⟩; have hq' := hq.symm; subst hq'; clear HA))
  go_loop [3, 9] (fun s i => ∃ k : Nat, k ≤ L ∧ i = .int .i64 (k : Int) ∧ s = .float .f64 (sumF l k)) (fun _ i => L - (intOf i).toNat)
  case atStart => exact ⟨0, by omega, rfl, rfl⟩
  case round =>
    obtain ⟨k, hk, rfl, rfl⟩ := hrel
    by_cases hlt : k < L
    · have hc := hcs k hlt
      have hadd := had k
      have hss := hide (HSS k)
      clear hcs had HSS
      generalize l.getD k 0 = x at *
      generalize sumF l k = S at *
      generalize addF S x = A at *
      have hrun : ∀ t w, (binOp .add t (.float .f64 S) (.float .f64 x)).run Try.prog w = .ok (.float .f64 A) w := fun t w => run_float_arith w .add t .f64 _ _ _ hadd
      clear hadd
      go_wp2_with fail
      exact ⟨⟨k + 1, by omega, by simp, by rw [unhide hss]⟩, by simp [intOf]; omega⟩
    · obtain rfl : k = L := by omega
      clear hcs had HSS
      go_wp2_with fail
      go_ret
      exact ⟨rfl, rfl⟩
set_option maxRecDepth 100000 in
theorem nsum (w : World) : Calls Try.prog 26 #[.pointer none] w fun e w' => e = .returned (.float .f64 0) ∧ w' = w := by
  have HA := hide (nall w)
  go_enter Try.func26, Try.ntmps26
  go_wp2_with (first | (go_at_call 40; refine (unhide HA).mono ?_; rintro e w1 ⟨rfl, hq⟩; have hq' := hq.symm; subst hq'; clear HA))
  go_loop [3, 9] (fun s i => s = .float .f64 0 ∧ i = .int .i64 0) (fun _ _ => 0)
  case atStart => exact ⟨rfl, rfl⟩
  case round =>
    obtain ⟨rfl, rfl⟩ := hrel
    go_wp2_with fail
    go_ret
    exact ⟨rfl, rfl⟩

/-- the greatest load's place among the first k -/
def topF (l : List Nat) : Nat → Nat
  | 0 => 0
  | k + 1 => if l.getD (topF l k) 0 < l.getD k 0 then k else topF l k
theorem topF_lt (l : List Nat) {k : Nat} (h : 0 < k) : topF l k < k := by
  induction k with
  | zero => omega
  | succ k ih =>
    unfold topF
    split
    · omega
    · by_cases h0 : 0 < k
      · have := ih h0; omega
      · have : k = 0 := by omega
        subst this; simp [topF]
theorem gt_low {x y : Nat} (hx : low x) (hy : low y) : (FloatKind.f64.format.order x y == some Ordering.gt) = decide (y < x) := by
  rw [fmt, order_num hx.lt hy.lt]
  by_cases h0 : y < x
  · rw [Nat.compare_eq_gt.2 h0]; simp [h0]
  · rw [decide_eq_false h0]
    have : compare x y ≠ .gt := fun e => h0 (Nat.compare_eq_gt.1 e)
    cases hc : compare x y <;> simp_all
set_option maxRecDepth 100000 in
theorem top_any {w : World} {b g : Nat} {m : Mt} (h : Mp w b g m) : Calls Try.prog 28 #[.pointer (some ⟨b, 0, none⟩)] w fun e w' => e = .returned (.int .i64 ((topF m.loads m.loads.length : Nat) : Int)) ∧ w' = w := by
  have HA := hide (fun W (hq : Quiet w W) => all_any (h.quiet hq))
  have hl1 := h.ok.l1
  have hl2 := h.ok.l2
  have hcs := fun j (hj : j < m.loads.length) => h.load hj
  have hgt := fun i j => gt_low (h.ok.lo i) (h.ok.lo j)
  have HTT : ∀ k, topF m.loads (k + 1) = if m.loads.getD (topF m.loads k) 0 < m.loads.getD k 0 then k else topF m.loads k := fun k => rfl
  clear h
  generalize m.loads = l at *
  generalize l.length = L at *
  go_enter Try.func28, Try.ntmps28
  go_wp2_with (first | (go_at_call 40; refine (unhide HA _ (Quiet.refl _)).mono ?_; rintro e w1 ⟨rfl, hq⟩; have hq' := hq.symm; subst hq'; clear HA))
  go_loop [3, 11] (fun s i => ∃ k : Nat, k ≤ L ∧ i = .int .i64 (k : Int) ∧ ((k = 0 ∧ s = .int .i64 (-1)) ∨ (0 < k ∧ s = .int .i64 ((topF l k : Nat) : Int)))) (fun _ i => L - (intOf i).toNat)
  case atStart => exact ⟨0, by omega, rfl, Or.inl ⟨rfl, rfl⟩⟩
  case round =>
    obtain ⟨k, hk, rfl, hs⟩ := hrel
    by_cases hlt : k < L
    · have hc := hcs k hlt
      rcases hs with ⟨rfl, rfl⟩ | ⟨h0, rfl⟩
      · have HE : Hid (topF l (0 + 1) = 0) := by unfold Hid; rw [HTT]; simp [topF]
        have hlt2 : (0 : Int) < (L : Int) := by omega
        clear hcs hgt HTT
        generalize l.getD 0 0 = x at *
        go_wp2_with fail
        exact ⟨⟨0 + 1, by omega, by simp, Or.inr ⟨by omega, by rw [unhide HE]⟩⟩, by simp [intOf]; omega⟩
      · have hT := topF_lt l h0
        have hcT := hcs (topF l k) (by omega)
        have hg := hgt k (topF l k)
        have HE := hide (HTT k)
        have htl : topF l k < L := by omega
        clear hcs hgt HTT
        generalize topF l k = T at *
        have t1 : ((T : Int) < 0) = False := by simp
        generalize l.getD k 0 = x at *
        generalize l.getD T 0 = y at *
        by_cases hxy : y < x
        · rw [decide_eq_true hxy] at hg
          have HE2 : Hid (topF l (k + 1) = k) := by unfold Hid; rw [unhide HE, if_pos hxy]
          clear HE hxy
          go_wp2_with fail
          exact ⟨⟨k + 1, by omega, by simp, Or.inr ⟨by omega, by rw [unhide HE2]⟩⟩, by simp [intOf]; omega⟩
        · rw [decide_eq_false hxy] at hg
          have HE2 : Hid (topF l (k + 1) = T) := by unfold Hid; rw [unhide HE, if_neg hxy]
          clear HE hxy
          go_wp2_with fail
          exact ⟨⟨k + 1, by omega, by simp, Or.inr ⟨by omega, by rw [unhide HE2]⟩⟩, by simp [intOf]; omega⟩
    · obtain rfl : k = L := by omega
      rcases hs with ⟨h0, -⟩ | ⟨h0, rfl⟩
      · omega
      · clear hcs hgt HTT
        go_wp2_with fail
        go_ret
        exact ⟨rfl, rfl⟩
set_option maxRecDepth 100000 in
theorem ntop (w : World) : Calls Try.prog 28 #[.pointer none] w fun e w' => e = .returned (.int .i64 (-1)) ∧ w' = w := by
  have HA := hide (nall w)
  go_enter Try.func28, Try.ntmps28
  go_wp2_with (first | (go_at_call 40; refine (unhide HA).mono ?_; rintro e w1 ⟨rfl, hq⟩; have hq' := hq.symm; subst hq'; clear HA))
  go_loop [3, 11] (fun s i => s = .int .i64 (-1) ∧ i = .int .i64 0) (fun _ _ => 0)
  case atStart => exact ⟨rfl, rfl⟩
  case round =>
    obtain ⟨rfl, rfl⟩ := hrel
    go_wp2_with fail
    go_ret
    exact ⟨rfl, rfl⟩

set_option maxRecDepth 100000 in
set_option maxHeartbeats 1000000 in
theorem clone_any {w : World} {g L : Nat} {l : List Nat} (hr : Blk w g (flts l).toArray 46) (hL : l.length = L) (h1 : 1 ≤ L) (h2 : L ≤ 64) : Calls Try.prog 39 #[.slice (some ⟨g, 0, none⟩) L L] w fun e w' => ∃ v, e = .returned v ∧ w'.ownsRow w.heap.size 46 1 v L (flts l) ∧ Kept [] w w' := by
  obtain ⟨i0, hi, hz0, hz1, hz2⟩ := info_parts infoFp
  have HI := hide (⟨hi, hz0, hz1, hz2⟩ : _ ∧ _ ∧ _ ∧ _)
  clear hi hz0 hz1 hz2
  have hka : Kept [] w (w.alloc (.cells #[] 46)) := (Kept.refl [] w).alloc _
  have HO : Hid ((w.alloc (.cells #[] 46)).ownsRow w.heap.size 46 1 (.slice (some ⟨w.heap.size, 0, none⟩) 0 0) 0 []) := ⟨by simp, Or.inr ⟨w.heap.size, 0, #[], rfl, Nat.le_refl _, Blk.new _ _ _, by simp, by unfold maxLen; omega, by simp, by simp⟩⟩
  have HC : Hid (∀ j u, (flts l)[j]? = some u → (w.alloc (.cells #[] 46)).cell? ((⟨g, 0, none⟩ : Addr).add j) = some u) := by
    intro j u hj
    rw [Addr.add_mid, Nat.zero_add, (hr.kept hka (by simp)).cell]; simpa using hj
  have HLL : Hid ((flts l).length = L) := by unfold Hid; rw [flts_length]; exact hL
  have HON : Hid (∀ u ∈ flts l, u.oneCell' = true) := flts_one l
  have HKA := hide hka
  clear hr hka hL
  generalize flts l = fl at *
  have hnil := fun (W : World) => Lib.run_eql_slice_nil (P := Try.prog) W 43 46 (some ⟨g, 0, none⟩) L L 0 0 Try.underlying43
  go_enter Try.func39, Try.ntmps39
  go_wp2_with (first
    | (at_builtin; refine wpList_append_own_at _ rfl _ _ 43 rfl w.heap.size 46 i0 _ 1 8 Try.underlying43 (unhide HI).1 (unhide HI).2.1 (unhide HI).2.2.1 (unhide HI).2.2.2 rfl (by decide) _ _ _ rfl (unhide HO) ⟨g, 0, none⟩ L L fl rfl (by rw [unhide HLL]; simp) (unhide HC) (unhide HON) (by unfold maxLen; omega) (by omega) (by simp) ?_))
  intro v' w' ho hg hn hl
  have HOW := hide ho
  have HKW := hide ((unhide HKA).grown hg (fun k hk => Or.inr (by simp [Value.ownBlock] at hk; omega)))
  clear ho hg hn hl
  go_wp2
  go_ret
  exact ⟨v', rfl, unhide HOW, unhide HKW⟩
set_option maxRecDepth 100000 in
theorem nclone (w : World) : Calls Try.prog 39 #[.slice none 0 0] w fun e w' => e = .returned (.slice none 0 0) ∧ w' = w := by
  have hnil := fun (W : World) => Lib.run_eql_slice_nil (P := Try.prog) W 43 46 none 0 0 0 0 Try.underlying43
  go_enter Try.func39, Try.ntmps39
  go_wp2
  go_ret
  exact ⟨rfl, rfl⟩

/-- The slice v reads as these words. -/
def SeesF (w : World) (v : Value) (l : List Nat) : Prop :=
  ∃ a cap, v = .slice a l.length cap ∧ l.length ≤ cap ∧ cap ≤ maxLen ∧
    (l = [] ∨ ∃ b off, a = some ⟨b, off, none⟩ ∧ b < w.heap.size ∧ ∀ j, j < l.length → w.cell? ⟨b, off + j, none⟩ = some (.float .f64 (l.getD j 0)))
theorem SeesF.kept {F : List Nat} {w w' : World} {v : Value} {l : List Nat} (h : SeesF w v l) (hk : Kept F w w') (hn : l = [] ∨ ∀ k, v.ownBlock = some k → k ∉ F) : SeesF w' v l := by
  obtain ⟨a, cap, rfl, h1, h2, h4⟩ := h
  refine ⟨a, cap, rfl, h1, h2, ?_⟩
  rcases h4 with h4 | ⟨b, off, rfl, h5, h6⟩
  · exact Or.inl h4
  · rcases hn with hn | hn
    · exact Or.inl hn
    · refine Or.inr ⟨b, off, rfl, Nat.lt_of_lt_of_le h5 hk.size, fun j hj => ?_⟩
      rw [hk.cell (p := ⟨b, off + j, none⟩) h5 (hn b rfl)]
      exact h6 j hj
theorem SeesF.nil (w : World) : SeesF w (.slice none 0 0) [] := ⟨none, 0, rfl, by simp, by simp [maxLen], Or.inl rfl⟩
theorem SeesF.of_own {w : World} {base : Nat} {v : Value} {l : List Nat} (h : w.ownsRow base 46 1 v l.length (flts l)) : SeesF w v l := by
  rcases h.2 with ⟨h1, h2⟩ | ⟨g, cap, cur, hv, hg0, hg, hc, hm, hs, ht⟩
  · have : l = [] := List.eq_nil_of_length_eq_zero h2
    subst this
    rw [h1]; exact SeesF.nil w
  · refine ⟨some ⟨g, 0, none⟩, cap, hv, hc, hm, Or.inr ⟨g, 0, rfl, (Array.getElem?_eq_some_iff.1 hg).1, fun j hj => ?_⟩⟩
    have := h.cells (g := g) (by rw [hv]; rfl) j (.float .f64 (l.getD j 0)) (flts_at l hj)
    rw [Addr.add_mid] at this
    exact this
theorem at_flt {w : World} {a : Option Addr} {L : Nat} {l : List Nat} (hL : l.length = L) (h : l = [] ∨ ∃ b off, a = some ⟨b, off, none⟩ ∧ b < w.heap.size ∧ ∀ j, j < L → w.cell? ⟨b, off + j, none⟩ = some (.float .f64 (l.getD j 0))) {k : Nat} (hk : k < L) :
    ∃ b off, a = some ⟨b, off, none⟩ ∧ w.cell? ⟨b, off + k, none⟩ = some (.float .f64 (l.getD k 0)) := by
  rcases h with h | ⟨b, off, h1, _, h3⟩
  · subst h; simp at hL; omega
  · exact ⟨b, off, h1, h3 k hk⟩
set_option maxRecDepth 100000 in
theorem row_any {w : World} {b g : Nat} {m : Mt} (h : Mp w b g m) : Calls Try.prog 17 #[.pointer (some ⟨b, 0, none⟩)] w fun e w' => ∃ v, e = .returned v ∧ w'.ownsRow w.heap.size 46 1 v m.loads.length (flts m.loads) ∧ Kept [] w w' := by
  have HA := hide (all_any h)
  have HC := hide (clone_any h.row rfl h.ok.l1 h.ok.l2)
  clear h
  go_enter Try.func17, Try.ntmps17
  go_wp2_with (first
    | (go_at_call 40; refine (unhide HA).mono ?_; rintro e w1 ⟨rfl, hq⟩; have hq' := hq.symm; subst hq'; clear HA)
    | (go_at_call 39; refine (unhide HC).mono ?_; rintro e w1 ⟨v, rfl, hv, hk⟩; have HV := hide hv; have HK := hide hk; clear HC hv hk))
  go_ret
  exact ⟨v, rfl, unhide HV, unhide HK⟩
set_option maxRecDepth 100000 in
theorem nrow (w : World) : Calls Try.prog 17 #[.pointer none] w fun e w' => e = .returned (.slice none 0 0) ∧ w' = w := by
  have HA := hide (nall w)
  have HC := hide (nclone w)
  go_enter Try.func17, Try.ntmps17
  go_wp2_with (first
    | (go_at_call 40; refine (unhide HA).mono ?_; rintro e w1 ⟨rfl, hq⟩; have hq' := hq.symm; subst hq'; clear HA)
    | (go_at_call 39; refine (unhide HC).mono ?_; rintro e w1 ⟨rfl, hq⟩; have hq' := hq.symm; subst hq'; clear HC))
  go_ret
  exact ⟨rfl, rfl⟩
end Go.Proofs.Ythhgeobfolhpoaa
