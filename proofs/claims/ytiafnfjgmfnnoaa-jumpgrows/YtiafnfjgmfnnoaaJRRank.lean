/- The document's Rank. -/
import Derived.Test.YtiafnfjgmfnnoaaJRl
import Derived.Test.YtiafnfjgmfnnoaaJRScore
namespace Go.Proofs.Ytiafnfjgmfnnoaa
open Go.RowKit Go.Sort Go.Shelf

theorem info22p : (Try.prog.info? 22).map (fun i => (i.zero, i.size, i.bytes)) = some (some (.int .u64 0), 1, 8) := by kernel_rfl
theorem info4p : (Try.prog.info? 4).map (fun i => (i.zero, i.size, i.bytes)) = some (some (.bool false), 1, 1) := by kernel_rfl
def sliceLen : Value → Nat
  | .slice _ k _ => k
  | _ => 0
theorem row_kept {F : List Nat} {w w' : World} {b n : Nat} {t : TypeId} {f : Nat → Value} (h : w.rowIs b t n f) (hk : Kept F w w') (hn : b ∉ F) : w'.rowIs b t n f := h.of_block (hk.block b h.lt hn)
theorem row_drewN {w : World} {b n : Nat} {t : TypeId} {f : Nat → Value} (h : w.rowIs b t n f) (m : Nat) : (w.drewN m).rowIs b t n f := h

theorem own_base {w : World} {base base2 : Nat} {e : TypeId} {s : Nat} {v : Value} {n : Nat} {xs : List Value} (h : w.ownsRow base e s v n xs) (hb : base2 ≤ base) : w.ownsRow base2 e s v n xs := by
  refine ⟨h.1, ?_⟩
  rcases h.2 with h2 | ⟨g, cap, cur, hv, hg, r⟩
  · exact Or.inl h2
  · exact Or.inr ⟨g, cap, cur, hv, by omega, r⟩

/-- scores as far as they are reckoned; who is left, so far -/
def scAt (sc : Nat → Nat) (k : Nat) : Nat → Value := fun j => .int .u64 ((if j < k then sc j else 0 : Nat) : Int)
def lfAt (f : Nat → Bool) (k : Nat) : Nat → Value := fun j => .bool (decide (j < k) && f j)
def scAll (sc : Nat → Nat) : Nat → Value := fun j => .int .u64 (sc j : Int)
def lfAll (f : Nat → Bool) : Nat → Value := fun j => .bool (f j)

/-- the servers' scores -/
def scs (h : Nat) (ws : List Int) : Nat → Nat := fun k => score h k (ws.getD k 0)

theorem fits_wf {n : Nat} {ws : List Int} (hn : n ≤ 65536) {k : Nat} (hk : k < n) : decide (fits k (ws.getD k 0)) = wf ws k := by
  unfold wf fits
  refine decide_eq_decide.2 ?_
  omega

set_option maxRecDepth 100000 in
set_option maxHeartbeats 2000000 in
theorem rrank_any {w : World} {v : Value} {ws : List Int} (hs : SeesI w v ws) (h : Nat) (hh : h < 18446744073709551616) :
    Calls Try.prog 26 #[.int .u64 h, v] w fun e w' => ∃ a cap, e = .returned (.slice a (rankOf h ws).length cap) ∧ w'.ownsRow w.heap.size 3 1 (.slice a (rankOf h ws).length cap) (rankOf h ws).length (ints (rankOf h ws)) ∧ Kept [] w w' := by
  have HS := hide hs
  obtain ⟨p, pc, rfl, h1, h2, -⟩ := hs
  by_cases hL : ws.length ≤ 65536
  · have HR : Hid (rankOf h ws = (sorted (rl (scs h ws) (wf ws) ws.length)).map (·.1)) := by unfold Hid rankOf; rw [if_pos hL, rat_rl]; rfl
    obtain ⟨i3, hi, hz0, hz1, hz2⟩ := info_parts info3p
    have HI3 := hide (⟨hi, hz0, hz1, hz2⟩ : _ ∧ _ ∧ _ ∧ _)
    clear hi hz0 hz1 hz2
    obtain ⟨i22, hi, hz0, hz1, hz2⟩ := info_parts info22p
    have HI22 := hide (⟨hi, hz0, hz1, hz2⟩ : _ ∧ _ ∧ _ ∧ _)
    clear hi hz0 hz1 hz2
    obtain ⟨i4, hi, hz0, hz1, hz2⟩ := info_parts info4p
    have HI4 := hide (⟨hi, hz0, hz1, hz2⟩ : _ ∧ _ ∧ _ ∧ _)
    clear hi hz0 hz1 hz2
    have HSC := hide (fun w s wt => rscore_any w h s wt hh)
    have HCN := hide (fun w s wt => rcan_any w s wt)
    have HFW := hide (fun k hk => fits_wf (ws := ws) hL (k := k) hk)
    generalize hLL : ws.length = n at *
    have HL := hide hLL
    clear hLL
    have t0 : ((n : Int) > 65536) = False := by simp; omega
    have hb8 : 8 * n ≤ 281474976710656 := by omega
    have hb1 : 1 * n ≤ 281474976710656 := by omega
    go_enter Try.func26, Try.ntmps26
    go_wp2_with (first
      | (at_make; refine wpList_make_row _ rfl _ _ 62 rfl 22 i22 (.int .u64 0) Try.underlying62 (unhide HI22).1 (unhide HI22).2.1 (unhide HI22).2.2.1 rfl .i64 .i64 n rfl rfl (by rw [(unhide HI22).2.2.2]; exact hb8) (by omega) ?_)
      | (at_make; refine wpList_make_row _ rfl _ _ 63 rfl 4 i4 (.bool false) Try.underlying63 (unhide HI4).1 (unhide HI4).2.1 (unhide HI4).2.2.1 rfl .i64 .i64 n rfl rfl (by rw [(unhide HI4).2.2.2]; exact hb1) (by omega) ?_))
    go_loopw [8] (fun i wr => ∃ k : Nat, k ≤ n ∧ i = .int .i64 k ∧ wr.rowIs w.heap.size 22 n (scAt (scs h ws) k) ∧ wr.rowIs (w.heap.size + 1) 4 n (lfAt (wf ws) k) ∧ Kept [] w wr ∧ w.heap.size + 2 ≤ wr.heap.size) (fun i _ => n - (intOf i).toNat)
    case atStart =>
      refine ⟨0, by omega, rfl, ?_, ?_, ((Kept.refl [] w).alloc _).alloc _, by simp⟩
      · exact ((World.rowIs_made w (.int .u64 0) n 22).alloc _).congr (fun j _ => by simp [scAt])
      · have := (World.rowIs_made (w.alloc (.cells (madeCells #[.int .u64 0] n) 22)) (.bool false) n 4).congr (g := lfAt (wf ws) 0) (fun j _ => by simp [lfAt])
        rw [World.size_alloc] at this
        exact this
    case round =>
      obtain ⟨k, hk, rfl, hr1, hr2, hkp, hsz⟩ := hrel
      have HR1 := hide hr1
      have HR2 := hide hr2
      have HK := hide hkp
      clear hr1 hr2 hkp
      by_cases hkl : k < n
      · have hs1 := (unhide HS).kept (unhide HK) (Or.inr (by simp))
        obtain ⟨a', c', hv, -, -, h4⟩ := hs1
        have hv1 : a' = p := by cases hv; rfl
        subst hv1
        obtain ⟨b, off, hpa, hc⟩ := at_int (k := k) (unhide HL) h4 hkl
        have hbw : b < w.heap.size := by
          obtain ⟨a2, c2, hv2, -, -, h5⟩ := unhide HS
          have e : a2 = a' := by cases hv2; rfl
          rcases h5 with h5 | ⟨b5, o5, h6, h7, _⟩
          · have := unhide HL; rw [h5] at this; simp at this; omega
          · rw [e, hpa] at h6; cases h6; exact h7
        subst hpa
        clear hv h4
        have HSx := hide (unhide HSC wr k (ws.getD k 0))
        have HCx := hide (fun w => unhide HCN w k (ws.getD k 0))
        rw [unhide HFW k hkl] at HCx
        have HSK : Hid (score h k (ws.getD k 0) = scs h ws k) := rfl
        rw [unhide HSK] at HSx
        clear HSK
        generalize scs h ws = sc at *
        generalize ws.getD k 0 = x at *
        have t1 : (k : Int) < (n : Int) := by omega
        go_wp2_with (first
          | (go_at_call 23; refine (unhide HSx).mono ?_; rintro e w1 ⟨rfl, hk1⟩; have HK1 := hide hk1; have hc1 : w1.cell? ⟨b, off + k, none⟩ = some (.int .i64 x) := (hk1.cell (p := ⟨b, off + k, none⟩) (by show b < _; omega) (by simp)).trans hc; have HR1b := hide (row_kept (unhide HR1) hk1 (by simp)); have HR2b := hide (row_kept (unhide HR2) hk1 (by simp)); have hcs := (unhide HR1b).cell hkl; have hfs := (unhide HR1b).frozen k; clear hk1 hc))
        refine (unhide HCx _).mono ?_
        rintro e w2 ⟨rfl, hq⟩
        have hq' := hq.symm
        subst hq'
        have hcl := (unhide HR2b).cell hkl
        have hfl := (unhide HR2b).frozen k
        have HN : Hid (((w1.setCell ⟨w.heap.size, k, none⟩ (.int .u64 (sc k : Int))).setCell ⟨w.heap.size + 1, k, none⟩ (.bool (wf ws k))).rowIs w.heap.size 22 n (scAt sc (k + 1)) ∧ ((w1.setCell ⟨w.heap.size, k, none⟩ (.int .u64 (sc k : Int))).setCell ⟨w.heap.size + 1, k, none⟩ (.bool (wf ws k))).rowIs (w.heap.size + 1) 4 n (lfAt (wf ws) (k + 1)) ∧ Kept [] w ((w1.setCell ⟨w.heap.size, k, none⟩ (.int .u64 (sc k : Int))).setCell ⟨w.heap.size + 1, k, none⟩ (.bool (wf ws k))) ∧ w.heap.size + 2 ≤ ((w1.setCell ⟨w.heap.size, k, none⟩ (.int .u64 (sc k : Int))).setCell ⟨w.heap.size + 1, k, none⟩ (.bool (wf ws k))).heap.size) := by
          refine ⟨?_, ?_, ?_, ?_⟩
          · refine (((unhide HR1b).set k _).setOther (by simp) _).congr ?_
            intro j _
            unfold scAt
            by_cases hj : j = k
            · subst hj; simp
            · rw [if_neg hj]
              by_cases hj2 : j < k
              · rw [if_pos hj2, if_pos (by omega)]
              · rw [if_neg hj2, if_neg (by omega)]
          · refine (((unhide HR2b).setOther (by simp) _).set k _).congr ?_
            intro j _
            unfold lfAt
            by_cases hj : j = k
            · subst hj; simp
            · rw [if_neg hj]
              by_cases hj2 : j < k
              · rw [decide_eq_true hj2, decide_eq_true (show j < k + 1 by omega)]
              · rw [decide_eq_false hj2, decide_eq_false (show ¬ j < k + 1 by omega)]
          · exact (((unhide HK).trans (unhide HK1) (by simp)).setCell (Or.inr (Nat.le_refl _)) _).setCell (Or.inr (by simp)) _
          · have := (unhide HK1).size
            simp [World.setCell]
            omega
        generalize lfAt (wf ws) k k = y0 at hcl
        generalize scAt sc k k = y1 at hcs
        go_wp2
        obtain ⟨q1, q2, q3, q4⟩ := unhide HN
        exact ⟨⟨k + 1, by omega, by simp, q1, q2, q3, q4⟩, by simp [intOf]; omega⟩
      · obtain rfl : k = n := by omega
        have HR1b : Hid (wr.rowIs w.heap.size 22 k (scAll (scs h ws))) := (unhide HR1).congr (fun j hj => by unfold scAt scAll; rw [if_pos hj])
        have HR2b : Hid (wr.rowIs (w.heap.size + 1) 4 k (lfAll (wf ws))) := (unhide HR2).congr (fun j hj => by unfold lfAt lfAll; rw [decide_eq_true hj]; simp)
        clear HR1 HR2 HFW HSC HCN
        obtain ⟨RR, hRR⟩ : ∃ RR, rankOf h ws = RR := ⟨_, rfl⟩
        have HRR := hide hRR
        have HRL : Hid (RR = (sorted (rl (scs h ws) (wf ws) k)).map (·.1)) := (unhide HRR).symm.trans (unhide HR)
        clear hRR
        have HRN : Hid (RR.length ≤ k) := by unfold Hid; rw [unhide HRL, List.length_map, sorted_length, ← show rat h ws k = rl (scs h ws) (wf ws) k from rat_rl h ws k]; exact rat_length h ws k
        generalize scs h ws = sc at *
        have t1 : ((k : Int) < (k : Int)) = False := by simp
        go_wp2_with fail
        go_loopw [9] (fun r wx => ∃ (out : List Int) (f : Nat → Bool), wx.ownsRow (w.heap.size + 2) 3 1 r out.length (ints out) ∧ wx.rowIs w.heap.size 22 k (scAll sc) ∧ wx.rowIs (w.heap.size + 1) 4 k (lfAll f) ∧ RR = out ++ (sorted (rl sc f k)).map (·.1) ∧ Kept [] w wx ∧ w.heap.size + 2 ≤ wx.heap.size) (fun r _ => k - sliceLen r)
        case atStart => exact ⟨[], wf ws, World.ownsRow_nil _ _ _ _, unhide HR1b, unhide HR2b, by simpa using unhide HRL, unhide HK, hsz⟩
        case round =>
          obtain ⟨out, f, ho, hr1, hr2, hout, hkw, hsw⟩ := hrel
          obtain ⟨ra, rc, rfl⟩ := own_len ho
          clear HR1b HR2b HRL HK hsz
          refine world_at (R := fun W => W.ownsRow (w.heap.size + 2) 3 1 (.slice ra out.length rc) out.length (ints out) ∧ W.rowIs w.heap.size 22 k (scAll sc) ∧ W.rowIs (w.heap.size + 1) 4 k (lfAll f) ∧ Kept [] w W ∧ w.heap.size + 2 ≤ W.heap.size) ⟨ho, hr1, hr2, hkw, hsw⟩ ?_
          clear ho hr1 hr2 hkw hsw
          rintro W ⟨ho, hr1, hr2, hkw, hsw⟩
          have HO := hide ho
          have HR1 := hide hr1
          have HR2 := hide hr2
          have HOUT := hide hout
          have HK := hide hkw
          clear ho hr1 hr2 hout hkw
          go_wp2_with fail
          have HCL : Hid (∀ j, j < k → W.cell? ⟨w.heap.size + 1, j, none⟩ = some (.bool (f j))) := fun j hj => (unhide HR2).cell hj
          have HCS : Hid (∀ j, j < k → W.cell? ⟨w.heap.size, j, none⟩ = some (.int .u64 (sc j : Int))) := fun j hj => (unhide HR1).cell hj
          go_loopw [10, 11] (fun bs i wx => ∃ j : Nat, j ≤ k ∧ i = .int .i64 j ∧ ((bs = .int .i64 (-1) ∧ ∀ q, q < j → f q = false) ∨ ∃ b : Nat, b < j ∧ bs = .int .i64 b ∧ f b = true ∧ ∀ q, q < j → f q = true → ¬ ahd ((q : Int), sc q) ((b : Int), sc b)) ∧ ∃ m, wx = W.drewN m) (fun _ i _ => k - (intOf i).toNat)
          case atStart => exact ⟨0, by omega, rfl, Or.inl ⟨rfl, fun q hq => by omega⟩, 0, rfl⟩
          case round =>
            obtain ⟨j, hj, rfl, hbs, m5, hq5⟩ := hrel
            subst hq5
            by_cases hjk : j < k
            · have hcl := unhide HCL j hjk
              have hcs := unhide HCS j hjk
              have u1 : ((j : Int) < (k : Int)) = True := by simp; omega
              rcases hbs with ⟨rfl, hno⟩ | ⟨b, hbj, rfl, hfb, hbest⟩
              · cases hfj : f j with
                | false =>
                  rw [hfj] at hcl
                  have HREL : Hid (∀ q, q < j + 1 → f q = false) := fun q hq => by
                    by_cases e : q = j
                    · rw [e]; exact hfj
                    · exact hno q (by omega)
                  clear hno hfj
                  go_wp2
                  go_quiet (fail)
                  go_wp2
                  go_roundw
                  case rel => exact ⟨j + 1, by omega, by simp, Or.inl ⟨rfl, unhide HREL⟩, _, rfl⟩
                  case measure => simp [intOf]; omega
                | true =>
                  rw [hfj] at hcl
                  have HREL : Hid (∀ q, q < j + 1 → f q = true → ¬ ahd ((q : Int), sc q) ((j : Int), sc j)) := fun q hq hfq => by
                    by_cases e : q = j
                    · rw [e]; unfold ahd; omega
                    · exact absurd (hno q (by omega)) (by rw [hfq]; simp)
                  have HFJ := hide hfj
                  clear hno hfj
                  go_wp2
                  go_quiet (fail)
                  go_wp2
                  go_roundw
                  case rel => exact ⟨j + 1, by omega, by simp, Or.inr ⟨j, by omega, rfl, unhide HFJ, unhide HREL⟩, _, rfl⟩
                  case measure => simp [intOf]; omega
              · have hcb := unhide HCS b (by omega)
                have u2 : ((b : Int) < 0) = False := by simp
                have u3 : ((b : Int) < (k : Int)) = True := by simp; omega
                cases hfj : f j with
                | false =>
                  rw [hfj] at hcl
                  have HREL : Hid (∀ q, q < j + 1 → f q = true → ¬ ahd ((q : Int), sc q) ((b : Int), sc b)) := fun q hq hfq => by
                    by_cases e : q = j
                    · rw [e, hfj] at hfq; cases hfq
                    · exact hbest q (by omega) hfq
                  have HFB := hide hfb
                  clear hbest hfj hfb
                  go_wp2
                  go_quiet (fail)
                  go_wp2
                  go_roundw
                  case rel => exact ⟨j + 1, by omega, by simp, Or.inr ⟨b, by omega, rfl, unhide HFB, unhide HREL⟩, _, rfl⟩
                  case measure => simp [intOf]; omega
                | true =>
                  rw [hfj] at hcl
                  by_cases hgt : sc b < sc j
                  · have HREL : Hid (∀ q, q < j + 1 → f q = true → ¬ ahd ((q : Int), sc q) ((j : Int), sc j)) := fun q hq hfq => by
                      by_cases e : q = j
                      · rw [e]; unfold ahd; omega
                      · have := hbest q (by omega) hfq
                        unfold ahd at *
                        simp only at *
                        omega
                    have HFJ := hide hfj
                    clear hbest hfj hfb
                    have u4 : ((sc b : Int) < (sc j : Int)) = True := by simp; omega
                    generalize sc b = yb at *
                    generalize hyj : sc j = yj at *
                    have HYJ := hide hyj
                    clear hyj
                    go_wp2
                    go_quiet (fail)
                    go_wp2
                    go_roundw
                    case rel => exact ⟨j + 1, by omega, by simp, Or.inr ⟨j, by omega, rfl, unhide HFJ, by rw [unhide HYJ]; exact unhide HREL⟩, _, rfl⟩
                    case measure => simp [intOf]; omega
                  · have HREL : Hid (∀ q, q < j + 1 → f q = true → ¬ ahd ((q : Int), sc q) ((b : Int), sc b)) := fun q hq hfq => by
                      by_cases e : q = j
                      · rw [e]; unfold ahd; simp only; omega
                      · exact hbest q (by omega) hfq
                    have HFB := hide hfb
                    clear hbest hfj hfb
                    have u4 : ((sc b : Int) < (sc j : Int)) = False := by simp; omega
                    generalize hyb : sc b = yb at *
                    generalize sc j = yj at *
                    have HYB := hide hyb
                    clear hyb
                    go_wp2
                    go_quiet (fail)
                    go_wp2
                    go_roundw
                    case rel => exact ⟨j + 1, by omega, by simp, Or.inr ⟨b, by omega, rfl, unhide HFB, by rw [unhide HYB]; exact unhide HREL⟩, _, rfl⟩
                    case measure => simp [intOf]; omega
            · obtain rfl : j = k := by omega
              have u1 : ((j : Int) < (j : Int)) = False := by simp
              rcases hbs with ⟨rfl, hno⟩ | ⟨b, hbj, rfl, hfb, hbest⟩
              · have hnil : rl sc f j = [] := List.eq_nil_iff_forall_not_mem.2 (fun x hx => by
                  obtain ⟨q, h1, h2, _⟩ := mem_rl.1 hx
                  rw [hno q h1] at h2
                  cases h2)
                have HRO : Hid (RR = out) := by have h9 := unhide HOUT; rw [hnil, sorted_nil, List.map_nil, List.append_nil] at h9; exact h9
                have HOB : Hid ((W.drewN m5).ownsRow w.heap.size 3 1 (.slice ra out.length rc) out.length (ints out)) := own_base (unhide HO) (by omega)
                have HKD : Hid (Kept [] w (W.drewN m5)) := (unhide HK).drewN m5
                clear hno hnil
                go_wp2
                go_ret
                refine ⟨ra, rc, ?_, ?_, unhide HKD⟩
                · rw [unhide HRR, unhide HRO]; rfl
                · rw [unhide HRR, unhide HRO]; exact unhide HOB
              · have HCB := unhide HCL b hbj
                have hfz := (unhide HR2).frozen b
                have u2 : ((b : Int) < 0) = False := by simp
                have u3 : ((b : Int) < (j : Int)) = True := by simp; omega
                have hsf : sorted (rl sc f j) = ((b : Int), sc b) :: sorted (rl sc (off f b) j) := sorted_first (rl_perm hbj hfb) (fun y hy => by
                  obtain ⟨q, h1, h2, rfl⟩ := mem_rl.1 hy
                  exact hbest q h1 h2)
                have HOUT2 : Hid (RR = (out ++ [(b : Int)]) ++ (sorted (rl sc (off f b) j)).map (·.1)) := by
                  have h9 := unhide HOUT
                  rw [hsf] at h9
                  unfold Hid
                  rw [h9, List.map_cons, List.append_assoc]
                  rfl
                have hol : out.length < j := by
                  have h9 := congrArg List.length (unhide HOUT2)
                  have h8 := unhide HRN
                  simp at h9
                  omega
                have hka : Kept [w.heap.size + 1] W ((W.drewN m5).setCell ⟨w.heap.size + 1, b, none⟩ (.bool false)) := ((Kept.refl _ W).drewN m5).setCell (Or.inl (by simp)) _
                have HKA := hide hka
                have HOA : Hid (((W.drewN m5).setCell ⟨w.heap.size + 1, b, none⟩ (.bool false)).ownsRow (w.heap.size + 2) 3 1 (.slice ra out.length rc) out.length (ints out)) := own_kept (unhide HO) hka (fun q hq => by have := ((unhide HO).lt q hq).1; simp; omega)
                have HRA : Hid (((W.drewN m5).setCell ⟨w.heap.size + 1, b, none⟩ (.bool false)).rowIs w.heap.size 22 j (scAll sc)) := row_kept (unhide HR1) hka (by simp)
                have HLA : Hid (((W.drewN m5).setCell ⟨w.heap.size + 1, b, none⟩ (.bool false)).rowIs (w.heap.size + 1) 4 j (lfAll (off f b))) := ((row_drewN (unhide HR2) m5).set b _).congr (fun q _ => by
                  unfold lfAll off
                  by_cases e : q = b
                  · rw [if_pos e, if_pos e]
                  · rw [if_neg e, if_neg e])
                have HSA : Hid (w.heap.size + 2 ≤ ((W.drewN m5).setCell ⟨w.heap.size + 1, b, none⟩ (.bool false)).heap.size) := Nat.le_trans hsw hka.size
                have HKB : Hid (Kept [] w ((W.drewN m5).setCell ⟨w.heap.size + 1, b, none⟩ (.bool false))) := (unhide HK).trans hka (by simp)
                have HCN : Hid (∀ q u, [Value.int .i64 (b : Int)][q]? = some u → (((W.drewN m5).setCell ⟨w.heap.size + 1, b, none⟩ (.bool false)).alloc (.cells #[.int .i64 (b : Int)] 3)).cell? ((⟨W.heap.size, 0, none⟩ : Addr).add q) = some u) := by
                  have h9 := cell_one_new ((W.drewN m5).setCell ⟨w.heap.size + 1, b, none⟩ (.bool false)) (.int .i64 (b : Int)) 3
                  have e9 : ((W.drewN m5).setCell ⟨w.heap.size + 1, b, none⟩ (.bool false)).heap.size = W.heap.size := by simp [World.setCell, World.drewN]
                  rw [e9] at h9
                  exact h9
                clear hka hsf hbest
                have HOL := hide hol
                generalize hml : out.length = m at *
                have HML := hide hml
                clear hml
                have hm6 : m ≤ 65536 := by omega
                go_wp2_with (first
                  | (at_builtin; refine wpList_append_own_at _ rfl _ _ 25 rfl (w.heap.size + 2) 3 i3 (.int .i64 0) 1 8 Try.underlying25 (unhide HI3).1 (unhide HI3).2.1 (unhide HI3).2.2.1 (unhide HI3).2.2.2 rfl (by decide) _ _ _ rfl ((unhide HOA).alloc _) ⟨W.heap.size, 0, none⟩ 1 1 [.int .i64 (b : Int)] rfl rfl (unhide HCN) (ints_oneCell .i64 [(b : Int)]) (by unfold maxLen; omega) (by omega) (by have := unhide HSA; rw [World.size_alloc]; omega) ?_))
                intro v' w3 hown' hgrow hnil hloc
                obtain ⟨va, vc, rfl⟩ := own_len hown'
                have hk3 : Kept (Value.slice ra m rc).ownBlock.toList ((W.drewN m5).setCell ⟨w.heap.size + 1, b, none⟩ (.bool false)) w3 := ((Kept.refl _ _).alloc _).grown hgrow (fun q hq => Or.inl (by rw [hq]; simp))
                have hfar : ∀ q, q < w.heap.size + 2 → q ∉ (Value.slice ra m rc).ownBlock.toList := fun q hq hm => by
                  have := ((unhide HOA).lt q (by simpa using hm)).1
                  omega
                have HREL : Hid (w3.ownsRow (w.heap.size + 2) 3 1 (.slice va (m + 1) vc) (out ++ [(b : Int)]).length (ints (out ++ [(b : Int)])) ∧ w3.rowIs w.heap.size 22 j (scAll sc) ∧ w3.rowIs (w.heap.size + 1) 4 j (lfAll (off f b)) ∧ Kept [] w w3 ∧ w.heap.size + 2 ≤ w3.heap.size) := by
                  refine ⟨?_, row_kept (unhide HRA) hk3 (hfar _ (by omega)), row_kept (unhide HLA) hk3 (hfar _ (by omega)), ?_, Nat.le_trans (unhide HSA) hk3.size⟩
                  · rw [List.length_append, ints_append, unhide HML]; exact hown'
                  · exact (unhide HKB).trans hk3 (fun q hq => Or.inr (by
                      have := ((unhide HOA).lt q (by simpa using hq)).1
                      omega))
                clear hown' hgrow hnil hloc hk3 hfar
                go_wp2
                obtain ⟨q1, q2, q3, q4, q5⟩ := unhide HREL
                refine ⟨⟨out ++ [(b : Int)], off f b, q1, q2, q3, unhide HOUT2, q4, q5⟩, ?_⟩
                have h8 := unhide HOL
                have h9 := unhide HML
                simp [sliceLen]
                omega
  · have HR : rankOf h ws = [] := by unfold rankOf; rw [if_neg hL]
    rw [HR]
    have t0 : ((ws.length : Int) > 65536) = True := by simp; omega
    generalize ws.length = L at *
    go_enter Try.func26, Try.ntmps26
    go_wp2
    go_ret
    exact ⟨none, 0, rfl, World.ownsRow_nil _ _ _ _, Kept.refl _ _⟩
end Go.Proofs.Ytiafnfjgmfnnoaa
