/- The document's Sum, Mean, Spread, Top. -/
import Derived.Test.YthhgeobfolhpoaaVRf6
namespace Go.Proofs.Ythhgeobfolhpoaa
open Go.RowKit

theorem rowF {w : World} {base L : Nat} {v : Value} {l : List Nat} (h : w.ownsRow base 46 1 v L (flts l)) (hl : l.length = L) (h1 : 1 ≤ L) : ∃ g cap, v = .slice (some ⟨g, 0, none⟩) L cap ∧ base ≤ g ∧ g < w.heap.size ∧ ∀ j, j < L → w.cell? ⟨g, j, none⟩ = some (.float .f64 (l.getD j 0)) := by
  rcases h.2 with ⟨_, h0⟩ | ⟨g, cap, cur, e1, hg, hh, r⟩
  · omega
  · subst e1
    refine ⟨g, cap, rfl, hg, (Array.getElem?_eq_some_iff.1 hh).1, fun j hj => ?_⟩
    have := h.cells (g := g) rfl j _ (flts_at l (by rw [hl]; exact hj))
    rw [Addr.add_mid, Nat.zero_add] at this
    exact this

set_option maxRecDepth 100000 in
set_option maxHeartbeats 1000000 in
theorem rsum_any {w : World} {b pc : Nat} {pa : Option Addr} {r : Rt} (h : Rp w b pa pc r) {m : Mt} (hm : Rel m r) (hlen : r.all.length ≤ 9223372036854775807) :
    Calls Try.prog 33 #[.pointer (some ⟨b, 0, none⟩)] w fun e w' => e = .returned (.float .f64 m.sum) ∧ Kept [] w w' := by
  have HR := hide (rrow_any h hm hlen)
  have hl1 := hm.ok.l1
  have hl2 := hm.ok.l2
  have had := fun k => (add_eq (Mt.sum_mid hm.ok k).good (hm.ok.lo k).fair).1
  have HSS : ∀ k, sumF m.loads (k + 1) = addF (sumF m.loads k) (m.loads.getD k 0) := fun k => rfl
  have HE : Hid (m.sum = sumF m.loads m.loads.length) := rfl
  rw [unhide HE]
  clear h hm HE
  generalize m.loads = l at *
  obtain ⟨L, hL⟩ : ∃ L, l.length = L := ⟨_, rfl⟩
  rw [hL] at HR hl1 hl2 ⊢
  have HL := hide hL
  clear hL
  go_enter Try.func33, Try.ntmps33
  go_wp2_with (first | (go_at_call 37; refine (unhide HR).mono ?_; rintro e w1 ⟨v, rfl, ho, hk⟩; obtain ⟨g, cap, rfl, hg, hgl, hcs⟩ := rowF ho (unhide HL) hl1; have HK := hide hk; clear HR ho hk))
  go_loop [4, 5] (fun s i => ∃ k : Nat, k ≤ L ∧ i = .int .i64 (k : Int) ∧ s = .float .f64 (sumF l k)) (fun _ i => L - (intOf i).toNat)
  case atStart => exact ⟨0, by omega, rfl, rfl⟩
  case round =>
    obtain ⟨k, hk, rfl, rfl⟩ := hrel
    by_cases hlt : k < L
    · have hc := hcs k hlt
      have h3 := had k
      have hss := hide (HSS k)
      have t1 : (k : Int) < (L : Int) := by omega
      clear hcs had HSS
      generalize l.getD k 0 = x at *
      generalize sumF l k = S at *
      generalize addF S x = A at *
      have r3 : ∀ t w, (binOp .add t (.float .f64 S) (.float .f64 x)).run Try.prog w = .ok (.float .f64 A) w := fun t w => run_float_arith w .add t .f64 _ _ _ h3
      clear h3
      go_wp2_with fail
      exact ⟨⟨k + 1, by omega, by simp, by rw [unhide hss]⟩, by simp [intOf]; omega⟩
    · obtain rfl : k = L := by omega
      clear hcs had HSS
      go_wp2_with fail
      go_ret
      exact ⟨rfl, unhide HK⟩
set_option maxRecDepth 100000 in
set_option maxHeartbeats 1000000 in
theorem rmean_any {w : World} {b pc : Nat} {pa : Option Addr} {r : Rt} (h : Rp w b pa pc r) {m : Mt} (hm : Rel m r) (hlen : r.all.length ≤ 9223372036854775807) :
    Calls Try.prog 34 #[.pointer (some ⟨b, 0, none⟩)] w fun e w' => e = .returned (.float .f64 m.mean) ∧ Kept [] w w' := by
  have HS : Hid (∀ W, Quiet w W → Calls Try.prog 33 #[.pointer (some ⟨b, 0, none⟩)] W fun e w' => e = .returned (.float .f64 m.sum) ∧ Kept [] w w') := fun W hW => (rsum_any (h.kept hW.kept (by simp) (by simp)) hm hlen).mono fun e w' ⟨he, hk⟩ => ⟨he, hW.kept.trans hk (by simp)⟩
  obtain ⟨c0, -, -, -⟩ := h.cells
  rw [hm.n] at c0
  have hbl := h.head.lt
  have hdv := (div_ok (s := m.sum) (Mt.sum_mid hm.ok m.loads.length).good hm.ok.l1 hm.ok.l2).1
  have HE : Hid (m.mean = divF m.sum (floatOfInt .f64 ((m.loads.length : Nat) : Int))) := rfl
  rw [unhide HE]
  clear HE h hm
  generalize m.sum = S at *
  generalize m.loads.length = L at *
  generalize hF : floatOfInt .f64 ((L : Nat) : Int) = F at *
  generalize divF S F = D at *
  have r3 : ∀ t w, (binOp .quo t (.float .f64 S) (.float .f64 F)).run Try.prog w = .ok (.float .f64 D) w := fun t w => run_float_arith w .quo t .f64 _ _ _ hdv
  clear hdv
  go_enter Try.func34, Try.ntmps34
  go_wp2_with fail
  go_region_held3 (fun W => W.cell? ⟨b, 0, none⟩ = some (.int .i64 (L : Int))) (go_keep)
    (first | (go_at_call 33; refine (unhide HS _ (by first | exact Quiet.refl _ | exact (Quiet.refl _).drew)).mono ?_; rintro e w1 ⟨rfl, hk⟩; have HK := hide hk; have d0 := (hk.cell (p := ⟨b, 0, none⟩) hbl (by simp)).trans c0; clear HS hk))
  go_wp2_with fail
  go_ret
  exact ⟨rfl, unhide HK⟩

set_option maxRecDepth 100000 in
set_option maxHeartbeats 2000000 in
theorem rspread_any {w : World} {b pc : Nat} {pa : Option Addr} {r : Rt} (h : Rp w b pa pc r) {m : Mt} (hm : Rel m r) (hlen : r.all.length ≤ 9223372036854775807) :
    Calls Try.prog 35 #[.pointer (some ⟨b, 0, none⟩)] w fun e w' => e = .returned (.float .f64 m.spread) ∧ Kept [] w w' := by
  have HR := hide (rrow_any h hm hlen)
  have HME : Hid (∀ W, Kept [] w W → Calls Try.prog 34 #[.pointer (some ⟨b, 0, none⟩)] W fun e w' => e = .returned (.float .f64 m.mean) ∧ Kept [] W w') := fun W hW => rmean_any (h.kept hW (by simp) (by simp)) hm hlen
  obtain ⟨c0, -, -, -⟩ := h.cells
  rw [hm.n] at c0
  have hbl := h.head.lt
  have hmg := Mt.mean_good hm.ok
  have hl1 := hm.ok.l1
  have hl2 := hm.ok.l2
  have hsub := fun k => (sub_ok (hm.ok.lo k) hmg).1
  have hsq := fun k => (sq_ok (sub_ok (hm.ok.lo k) hmg).2).1
  have had := fun k => (add_gg (sprS_good hm.ok.lo hmg k) (sq_ok (sub_ok (hm.ok.lo k) hmg).2).2).1
  have hdv := (div_ok (sprS_good hm.ok.lo hmg m.loads.length) hm.ok.l1 hm.ok.l2).1
  have hsr := (sqrt_ok (div_ok (sprS_good hm.ok.lo hmg m.loads.length) hm.ok.l1 hm.ok.l2).2).1
  have HKS := fun W => ksq W hsr
  have HSS : ∀ k, sprS m.loads m.mean (k + 1) = addF (sprS m.loads m.mean k) (mulF (subF (m.loads.getD k 0) m.mean) (subF (m.loads.getD k 0) m.mean)) := fun k => rfl
  have HE : Hid (m.spread = sqrtF (divF (sprS m.loads m.mean m.loads.length) (floatOfInt .f64 ((m.loads.length : Nat) : Int)))) := rfl
  clear h hm hmg hsr
  rw [unhide HE]
  generalize m.mean = a at *
  generalize m.loads = l at *
  clear HE
  obtain ⟨L, hL⟩ : ∃ L, l.length = L := ⟨_, rfl⟩
  rw [hL] at HR c0 hl1 hl2 hdv HKS ⊢
  generalize hF : floatOfInt .f64 (L : Int) = F at *
  generalize hqq : divF (sprS l a L) F = qq at *
  generalize sqrtF qq = rr at *
  have HL := hide hL
  have t2 : (L = 0) = False := by simp; omega
  clear hqq hL
  go_enter Try.func35, Try.ntmps35
  go_wp2_with (first
    | (go_at_call 37; refine (unhide HR).mono ?_; rintro e w1 ⟨v, rfl, ho, hk⟩; obtain ⟨g, cap, rfl, hg, hgl, hcs1⟩ := rowF ho (unhide HL) hl1; have HK := hide hk; have HM := hide (unhide HME _ hk); clear HR ho hk HME)
    | (go_at_call 34; refine (unhide HM).mono ?_; rintro e w2 ⟨rfl, hk2⟩; have HK2 := hide ((unhide HK).trans hk2 (by simp)); have hcs := fun j (hj : j < L) => (hk2.cell (p := ⟨g, j, none⟩) hgl (by simp)).trans (hcs1 j hj); have d0 := ((unhide HK2).cell (p := ⟨b, 0, none⟩) hbl (by simp)).trans c0; clear HM hk2 hcs1))
  go_loop [5, 6] (fun s i => ∃ k : Nat, k ≤ L ∧ i = .int .i64 (k : Int) ∧ s = .float .f64 (sprS l a k)) (fun _ i => L - (intOf i).toNat)
  case atStart => exact ⟨0, by omega, rfl, rfl⟩
  case round =>
    obtain ⟨k, hk, rfl, rfl⟩ := hrel
    by_cases hlt : k < L
    · have hc := hcs k hlt
      have h1 := hsub k
      have h2 := hsq k
      have h3 := had k
      have hss := hide (HSS k)
      have t1 : (k : Int) < (L : Int) := by omega
      clear hcs hsub hsq had HSS HKS hdv
      generalize l.getD k 0 = x at *
      generalize subF x a = d at *
      generalize mulF d d = q at *
      generalize sprS l a k = S at *
      generalize addF S q = A at *
      have r1 : ∀ t w, (binOp .sub t (.float .f64 x) (.float .f64 a)).run Try.prog w = .ok (.float .f64 d) w := fun t w => run_float_arith w .sub t .f64 _ _ _ h1
      have r2 : ∀ t w, (binOp .mul t (.float .f64 d) (.float .f64 d)).run Try.prog w = .ok (.float .f64 q) w := fun t w => run_float_arith w .mul t .f64 _ _ _ h2
      have r3 : ∀ t w, (binOp .add t (.float .f64 S) (.float .f64 q)).run Try.prog w = .ok (.float .f64 A) w := fun t w => run_float_arith w .add t .f64 _ _ _ h3
      clear h1 h2 h3
      go_wp2_with fail
      exact ⟨⟨k + 1, by omega, by simp, by rw [unhide hss]⟩, by simp [intOf]; omega⟩
    · obtain rfl : k = L := by omega
      generalize sprS l a k = S at *
      have r1 : ∀ t w, (binOp .quo t (.float .f64 S) (.float .f64 F)).run Try.prog w = .ok (.float .f64 qq) w := fun t w => run_float_arith w .quo t .f64 _ _ _ hdv
      clear hcs hsub hsq had HSS hdv
      have HSQ := fun W => hide (sqrt_call W HKS)
      clear HKS
      go_wp2_with (first
        | (go_at_call 46; refine (unhide (HSQ _)).mono ?_; rintro e w1 ⟨rfl, hq⟩; have hq' := hq.symm; subst hq'; clear HSQ))
      go_ret
      exact ⟨rfl, unhide HK2⟩

set_option maxRecDepth 100000 in
set_option maxHeartbeats 2000000 in
theorem rtop_any {w : World} {b pc : Nat} {pa : Option Addr} {r : Rt} (h : Rp w b pa pc r) {m : Mt} (hm : Rel m r) (hlen : r.all.length ≤ 9223372036854775807) :
    Calls Try.prog 36 #[.pointer (some ⟨b, 0, none⟩)] w fun e w' => e = .returned (.int .i64 ((topF m.loads m.loads.length : Nat) : Int)) ∧ Kept [] w w' := by
  have HR := hide (rrow_any h hm hlen)
  have hl1 := hm.ok.l1
  have hl2 := hm.ok.l2
  have hgt := fun i j => gt_low (hm.ok.lo i) (hm.ok.lo j)
  have HTT : ∀ k, topF m.loads (k + 1) = if m.loads.getD (topF m.loads k) 0 < m.loads.getD k 0 then k else topF m.loads k := fun k => rfl
  clear h hm
  generalize m.loads = l at *
  obtain ⟨L, hL⟩ : ∃ L, l.length = L := ⟨_, rfl⟩
  rw [hL] at HR hl1 hl2 ⊢
  have HL := hide hL
  clear hL
  go_enter Try.func36, Try.ntmps36
  go_wp2_with (first | (go_at_call 37; refine (unhide HR).mono ?_; rintro e w1 ⟨v, rfl, ho, hk⟩; obtain ⟨g, cap, rfl, hg, hgl, hcs⟩ := rowF ho (unhide HL) hl1; have HK := hide hk; clear HR ho hk))
  go_loopw [4, 5] (fun s i wr => ∃ k : Nat, k ≤ L ∧ i = .int .i64 (k : Int) ∧ ((k = 0 ∧ s = .int .i64 (-1)) ∨ (0 < k ∧ s = .int .i64 ((topF l k : Nat) : Int))) ∧ ∃ j, wr = w1.drewN j) (fun _ i _ => L - (intOf i).toNat)
  case atStart => exact ⟨0, by omega, rfl, Or.inl ⟨rfl, rfl⟩, 0, rfl⟩
  case round =>
    obtain ⟨k, hk, rfl, hs, j, rfl⟩ := hrel
    by_cases hlt : k < L
    · have hc := hcs k hlt
      have tk : (k : Int) < (L : Int) := by omega
      have tk0 : (0 : Int) ≤ (k : Int) := by omega
      rcases hs with ⟨rfl, rfl⟩ | ⟨h0, rfl⟩
      · have HE : Hid (topF l (0 + 1) = 0) := by unfold Hid; rw [HTT]; simp [topF]
        have hlt2 : (0 : Int) < (L : Int) := by omega
        clear hcs hgt HTT
        generalize l.getD 0 0 = x at *
        go_wp2_with fail
        go_region
        go_wp2_with fail
        exact ⟨⟨0 + 1, by omega, by simp, Or.inr ⟨by omega, by rw [unhide HE]⟩, j + 1, rfl⟩, by simp [intOf]; omega⟩
      · have hT := topF_lt l h0
        have hcT := hcs (topF l k) (by omega)
        have hg := hgt k (topF l k)
        have HE := hide (HTT k)
        have htl : topF l k < L := by omega
        clear hcs hgt HTT
        generalize topF l k = T at *
        have t1 : ((T : Int) < 0) = False := by simp
        have t3 : (T : Int) < (L : Int) := by omega
        have t4 : (0 : Int) ≤ (T : Int) := by omega
        generalize l.getD k 0 = x at *
        generalize l.getD T 0 = y at *
        by_cases hxy : y < x
        · rw [decide_eq_true hxy] at hg
          have HE2 : Hid (topF l (k + 1) = k) := by unfold Hid; rw [unhide HE, if_pos hxy]
          clear HE hxy
          go_wp2_with fail
          go_region_held3 (fun W => W.cell? ⟨g, k, none⟩ = some (.float .f64 x) ∧ W.cell? ⟨g, T, none⟩ = some (.float .f64 y)) (go_keep) (fail)
          go_wp2_with fail
          exact ⟨⟨k + 1, by omega, by simp, Or.inr ⟨by omega, by rw [unhide HE2]⟩, j + 1, rfl⟩, by simp [intOf]; omega⟩
        · rw [decide_eq_false hxy] at hg
          have HE2 : Hid (topF l (k + 1) = T) := by unfold Hid; rw [unhide HE, if_neg hxy]
          clear HE hxy
          go_wp2_with fail
          go_region_held3 (fun W => W.cell? ⟨g, k, none⟩ = some (.float .f64 x) ∧ W.cell? ⟨g, T, none⟩ = some (.float .f64 y)) (go_keep) (fail)
          go_wp2_with fail
          exact ⟨⟨k + 1, by omega, by simp, Or.inr ⟨by omega, by rw [unhide HE2]⟩, j + 1, rfl⟩, by simp [intOf]; omega⟩
    · obtain rfl : k = L := by omega
      rcases hs with ⟨h0, -⟩ | ⟨h0, rfl⟩
      · omega
      · clear hcs hgt HTT
        go_wp2_with fail
        go_ret
        exact ⟨rfl, (unhide HK).drewN _⟩
end Go.Proofs.Ythhgeobfolhpoaa
