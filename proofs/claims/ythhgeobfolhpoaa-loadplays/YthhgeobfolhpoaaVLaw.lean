/- The law's small functions: num, like, rows, fit, set, made. -/
import Derived.Test.YthhgeobfolhpoaaVAsk
namespace Go.Proofs.Ythhgeobfolhpoaa
open Go.RowKit

theorem kb : ∀ (w : World) (n : Nat), (callFunc 43 #[.float .f64 n]).run Try.prog w = .ok (.value (.int .u64 n)) w := by intro w n; kernel_rfl
theorem kf : ∀ (w : World) (n : Int), (callFunc 24 #[.int .u64 n]).run Try.prog w = .ok (.value (.float .f64 n.toNat)) w := by intro w n; kernel_rfl

set_option maxRecDepth 100000 in
theorem num_any (w : World) (x : Int) : Calls Try.prog 11 #[.int .i64 x] w fun e w' => e = .returned (.int .i64 x) ∧ w' = w := by
  go_enter Try.func11, Try.ntmps11
  go_wp2
  go_ret
  exact ⟨rfl, rfl⟩
theorem ne_good {x : Nat} (h : good x) : (FloatKind.f64.format.order x x != some Ordering.eq) = false := by
  rw [fmt, order_good h h, Nat.compare_eq_eq.2 rfl]; rfl
set_option maxRecDepth 100000 in
theorem like_same (w : World) {x : Nat} (h : good x) : Calls Try.prog 19 #[.float .f64 x, .float .f64 x] w fun e w' => e = .returned (.bool true) ∧ w' = w := by
  have t1 := ne_good h
  have HB := kb
  clear h
  go_enter Try.func19, Try.ntmps19
  go_wp2
  go_ret
  exact ⟨rfl, rfl⟩
set_option maxRecDepth 100000 in
set_option maxHeartbeats 1000000 in
theorem rows_same {w : World} {v u : Value} {l : List Nat} (hv : SeesF w v l) (hu : SeesF w u l) (hl : l.length ≤ 4398046511104) (hg : ∀ j, good (l.getD j 0)) : Calls Try.prog 21 #[v, u] w fun e w' => e = .returned (.bool true) ∧ Quiet w w' := by
  obtain ⟨p, pc, rfl, h1, h2, h4⟩ := hv
  obtain ⟨q, qc, rfl, h5, h6, h8⟩ := hu
  have HK := fun j W => hide (like_same W (hg j))
  generalize hLL : l.length = L at *
  have HL := hide hLL
  have H4 := hide h4
  have H8 := hide h8
  clear hLL h4 h8 hg
  go_enter Try.func21, Try.ntmps21
  go_wp2_with fail
  go_loopw [5] (fun i wr => ∃ k : Nat, k ≤ L ∧ i = .int .i64 (k : Int) ∧ Quiet w wr) (fun i _ => L - (intOf i).toNat)
  case atStart => exact ⟨0, by omega, rfl, Quiet.refl _⟩
  case round =>
    obtain ⟨k, hk, rfl, hq⟩ := hrel
    by_cases hlt : k < L
    · obtain ⟨b1, o1, e1, c1⟩ := at_flt (k := k) (unhide HL) (unhide H4) hlt
      obtain ⟨b2, o2, e2, c2⟩ := at_flt (k := k) (unhide HL) (unhide H8) hlt
      subst e1
      subst e2
      rw [← hq.cell] at c1 c2
      have HQ := hide hq
      replace HK := HK k
      clear hq H4 H8
      generalize l.getD k 0 = x at *
      go_wp2_with fail
      go_region_held3 (fun w' => w'.cell? ⟨b1, o1 + k, none⟩ = some (.float .f64 x) ∧ w'.cell? ⟨b2, o2 + k, none⟩ = some (.float .f64 x)) (first | exact ⟨c1, c2⟩) (first
        | (go_at_call 19; refine (unhide (HK _)).mono ?_; rintro e w1 ⟨rfl, hq⟩; have hq' := hq.symm; subst hq'; clear HK))
      go_wp2
      exact ⟨⟨k + 1, by omega, by simp, (unhide HQ).drew⟩, by simp [intOf]; omega⟩
    · obtain rfl : k = L := by omega
      have HQ := hide hq
      clear hq H4 H8 HK
      go_wp2_with fail
      go_ret
      exact ⟨rfl, unhide HQ⟩
set_option maxRecDepth 100000 in
theorem fit_any (w : World) (s h : Int) : Calls Try.prog 16 #[.int .i64 s, .int .i64 h] w fun e w' => e = .returned (.bool (decide (fits s h))) ∧ w' = w := by
  by_cases h1 : 1 ≤ s
  · by_cases h2 : s ≤ 64
    · by_cases h3 : 1 ≤ h
      · by_cases h4 : h ≤ 1048576
        · rw [decide_eq_true (show fits s h from ⟨h1, h2, h3, h4⟩)]
          go_enter Try.func16, Try.ntmps16
          go_wp2
          go_ret
          exact ⟨rfl, rfl⟩
        · rw [decide_eq_false (show ¬ fits s h from fun h => h4 h.2.2.2)]
          have t4 : (h ≤ 1048576) = False := by simp; omega
          go_enter Try.func16, Try.ntmps16
          go_wp2
          go_ret
          exact ⟨rfl, rfl⟩
      · rw [decide_eq_false (show ¬ fits s h from fun h => h3 h.2.2.1)]
        have t4 : (1 ≤ h) = False := by simp; omega
        go_enter Try.func16, Try.ntmps16
        go_wp2
        go_ret
        exact ⟨rfl, rfl⟩
    · rw [decide_eq_false (show ¬ fits s h from fun h => h2 h.2.1)]
      have t4 : (s ≤ 64) = False := by simp; omega
      go_enter Try.func16, Try.ntmps16
      go_wp2
      go_ret
      exact ⟨rfl, rfl⟩
  · rw [decide_eq_false (show ¬ fits s h from fun h => h1 h.1)]
    have t4 : (1 ≤ s) = False := by simp; omega
    go_enter Try.func16, Try.ntmps16
    go_wp2
    go_ret
    exact ⟨rfl, rfl⟩

theorem beq_nat (n : Nat) : (((n : Nat) : Int) == 0) = (n == 0) := by
  rw [Bool.eq_iff_iff]; simp only [beq_iff_eq]; omega
/-- a step's cells -/
def oc (o : OpM) : List Value := [.int .i64 o.kind, .int .i64 o.who, .int .i64 o.shard, .int .i64 o.now, .int .u64 (o.wt : Int)]
set_option maxRecDepth 100000 in
set_option maxHeartbeats 1000000 in
theorem set_any {w : World} {b g : Nat} {m : Mt} (h : Mp w b g m) (o : OpM) (ho : o.wt < 18446744073709551616) : Calls Try.prog 25 #[.pointer (some ⟨b, 0, none⟩), .agg (oc o).toArray] w fun e w' => e = .returned (.bool (o.yes m)) ∧ Mp w' b g (o.on m) ∧ Kept [b, g] w w' := by
  obtain ⟨W, hW⟩ : ∃ W, W = w.alloc (.cells (oc o).toArray 36) := ⟨_, rfl⟩
  have hka : Kept [] w W := by rw [hW]; exact (Kept.refl _ _).alloc _
  have hN : Blk W w.heap.size (oc o).toArray 36 := by rw [hW]; exact Blk.new _ _ _
  have hm := h.kept hka (by simp) (by simp)
  have d0 : W.cell? ⟨w.heap.size, 0, none⟩ = some (.int .i64 o.kind) := by rw [hN.cell]; simp [oc]
  have d2 : W.cell? ⟨w.heap.size, 2, none⟩ = some (.int .i64 o.shard) := by rw [hN.cell]; simp [oc]
  have d3 : W.cell? ⟨w.heap.size, 3, none⟩ = some (.int .i64 o.now) := by rw [hN.cell]; simp [oc]
  have d4 : W.cell? ⟨w.heap.size, 4, none⟩ = some (.int .u64 (o.wt : Int)) := by rw [hN.cell]; simp [oc]
  have HNM := fun x W => hide (num_any W x)
  have HHI := hide (fun W' (hq : Quiet W W') => hit_any (hm.quiet hq) o.shard o.now ho)
  have HGO := hide (fun W' (hq : Quiet W W') => go_any (hm.quiet hq) o.now)
  have HTR := hide (fun W' W2 (hq : Quiet W W') (hk : Kept [b, g] W' W2) => (((hka.mono (G := [b, g]) (fun _ hx => by cases hx)).trans (hq.kept.mono (G := [b, g]) (fun _ hx => by cases hx)) (fun x hx => Or.inl hx)).trans hk (fun x hx => Or.inl hx) : Kept [b, g] w W2))
  have HF := kf
  have HCE := hide (fun W' W2 (hq : Quiet W W') (hk : Kept [b, g] W' W2) (j : Nat) => (show W2.cell? ⟨w.heap.size, j, none⟩ = W.cell? ⟨w.heap.size, j, none⟩ from (hk.cell (p := ⟨w.heap.size, j, none⟩) (by rw [hq.heap]; exact hN.lt) (by have := h.head.lt; have := h.row.lt; simp; omega)).trans (hq.cell _)))
  have HKE := hide (show Mp W b g m ∧ Kept [b, g] w W from ⟨hm, hka.mono (fun _ hx => by cases hx)⟩)
  have hwt : ((o.wt : Nat) : Int).toNat = o.wt := by omega
  have hoc : (oc o).toArray = #[.int .i64 o.kind, .int .i64 o.who, .int .i64 o.shard, .int .i64 o.now, .int .u64 (o.wt : Int)] := rfl
  rw [hoc] at hW ⊢
  clear h hm hN hka hoc
  unfold OpM.yes OpM.on
  by_cases h1 : o.kind = 1
  · simp only [if_pos h1]
    rcases o with ⟨kd, who, sh, nw, wt⟩
    simp only at *
    subst h1
    go_enter Try.func25, Try.ntmps25
    go_wp2_with fail
    rw [← hW]
    have HW := hide hW
    clear hW
    go_region_held3 (fun w' => w'.cell? ⟨w.heap.size, 2, none⟩ = some (.int .i64 sh) ∧ w'.cell? ⟨w.heap.size, 3, none⟩ = some (.int .i64 nw) ∧ w'.cell? ⟨w.heap.size, 4, none⟩ = some (.int .u64 (wt : Int))) (first | (with_reducible exact ⟨d2, d3, d4⟩) | exact HS2 | exact ⟨d2, d3, d4⟩) (first
      | (go_at_call 29; refine (unhide HHI _ (by first | exact Quiet.refl _ | exact (Quiet.refl _).drew | exact (Quiet.refl _).drew.drew)).mono ?_; rintro e w1 ⟨rfl, hm1, hk1⟩
         have hk2 := unhide HTR _ _ (by first | exact Quiet.refl _ | exact (Quiet.refl _).drew | exact (Quiet.refl _).drew.drew) hk1
         have hce := unhide HCE _ _ (by first | exact Quiet.refl _ | exact (Quiet.refl _).drew | exact (Quiet.refl _).drew.drew) hk1
         have HS2 := (⟨(hce 2).trans d2, (hce 3).trans d3, (hce 4).trans d4⟩ : w1.cell? ⟨w.heap.size, 2, none⟩ = some (.int .i64 sh) ∧ w1.cell? ⟨w.heap.size, 3, none⟩ = some (.int .i64 nw) ∧ w1.cell? ⟨w.heap.size, 4, none⟩ = some (.int .u64 (wt : Int))))
      | (go_at_call 11; refine (unhide (HNM _ _)).mono ?_; rintro e w1 ⟨rfl, hq⟩; have hq' := hq.symm; subst hq'))
    go_wp2
    go_ret
    exact ⟨by rw [← beq_nat]; rfl, hm1, hk2⟩
  · simp only [if_neg h1]
    by_cases h2 : o.kind = 2
    · simp only [if_pos h2, decide_eq_true h2, Bool.true_and]
      rcases o with ⟨kd, who, sh, nw, wt⟩
      simp only at *
      subst h2
      clear h1
      go_enter Try.func25, Try.ntmps25
      go_wp2_with fail
      rw [← hW]
      have HW := hide hW
      clear hW
      go_wp2_with (first
        | (go_at_call 18; refine (unhide HGO _ (by first | exact Quiet.refl _ | exact (Quiet.refl _).drew | exact (Quiet.refl _).drew.drew)).mono ?_; rintro e w1 ⟨rfl, hm1, hk1⟩
           have hk2 := unhide HTR _ _ (by first | exact Quiet.refl _ | exact (Quiet.refl _).drew | exact (Quiet.refl _).drew.drew) hk1)
        | (go_at_call 11; refine (unhide (HNM _ _)).mono ?_; rintro e w1 ⟨rfl, hq⟩; have hq' := hq.symm; subst hq'))
      go_ret
      exact ⟨by rw [← beq_nat]; rfl, hm1, hk2⟩
    · simp only [if_neg h2, decide_eq_false h2, Bool.false_and]
      rcases o with ⟨kd, who, sh, nw, wt⟩
      simp only at *
      have t1 : (kd = 1) = False := by simp; exact h1
      have t2 : (kd = 2) = False := by simp; exact h2
      have u1 : (kd == 1) = false := by simp; exact h1
      have u2 : (kd == 2) = false := by simp; exact h2
      go_enter Try.func25, Try.ntmps25
      go_wp2_with fail
      rw [← hW]
      go_ret
      exact ⟨rfl, unhide HKE⟩
end Go.Proofs.Ythhgeobfolhpoaa
