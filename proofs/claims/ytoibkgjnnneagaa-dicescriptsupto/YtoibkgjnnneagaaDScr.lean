/- DiceScripts returns true. -/
import Derived.Test.YtoibkgjnnneagaaDScrA
import Derived.Deep.RegionHeld3
namespace Go.Proofs.Ytoibkgjnnneagaa
open Go.RowKit

theorem infoPd : (Try.prog.info? 26).map (fun i => (i.zero, i.size, i.bytes)) = some (some (.pointer none), 1, 8) := by kernel_rfl
theorem infoPm : (Try.prog.info? 29).map (fun i => (i.zero, i.size, i.bytes)) = some (some (.pointer none), 1, 8) := by kernel_rfl
theorem kept_more {a b c : World} (h : Kept [] a b) (h2 : Kept [] b c) : Kept [] a c := h.trans h2 (fun x hx => by simp at hx)
theorem kept_own {w0 w w' : World} {vd vm : Value} {ps : List (Nat × Nat)} {tl : List Value} {k : Nat} {p : Nat × Nat} (hk : Kept [] w0 w) (h : Duo w0.heap.size w vd vm ps tl) (hp : ps[k]? = some p) (hb : Both w w' p.1 p.2) : Kept [] w0 w' := by
  obtain ⟨h1, h2, -⟩ := h.fam.own k p hp
  exact hk.trans hb.2 (fun x hx => by simp at hx; rcases hx with rfl | rfl; exact Or.inr h1; exact Or.inr h2)

set_option maxRecDepth 100000 in
set_option maxHeartbeats 8000000 in
theorem scripts_walk {w : World} {v u : Value} {l : List Nat} {os : List OpD} (hv : SeesU w v l) (hll : l.length ≤ 1048576) (hl64 : ∀ j, j < l.length → l.getD j 0 < 18446744073709551616) (hu : Ops w u os) :
    Calls Try.prog 3 #[v, u] w fun e w' => e = .returned (.bool true) ∧ Kept [] w w' := by
  obtain ⟨id, hid, hd0, hd1, hd2⟩ := info_parts infoPd
  have HID := hide (⟨hid, hd0, hd1, hd2⟩ : _ ∧ _ ∧ _ ∧ _)
  obtain ⟨im, him, hm0, hm1, hm2⟩ := info_parts infoPm
  have HIM := hide (⟨him, hm0, hm1, hm2⟩ : _ ∧ _ ∧ _ ∧ _)
  clear hid hd0 hd1 hd2 him hm0 hm1 hm2
  have HS := hide hv
  have HL64 := hide hl64
  have HU := hide hu
  obtain ⟨p, pc, rfl, h1, h2, -⟩ := hv
  obtain ⟨q, qc, rfl, hn, -⟩ := hu
  generalize hLL : l.length = L at *
  have HL := hide hLL
  generalize hNN : os.length = N at *
  have HN := hide hNN
  clear hLL hNN hl64
  go_enter Try.func3, Try.ntmps3
  go_wp2_with fail
  go_loopw [5, 6, 7] (fun r s i wr => ∃ ps : List (Nat × Nat), ps.length ≤ L ∧ i = .int .i64 (ps.length : Int) ∧ Duo w.heap.size wr r s ps [] ∧ Kept [] w wr) (fun _ _ i _ => L - (intOf i).toNat)
  case atStart => exact ⟨[], by simp, rfl, ⟨World.ownsRow_nil _ _ _ _, World.ownsRow_nil _ _ _ _, Fam.nil _ _⟩, Kept.refl _ _⟩
  case round =>
    obtain ⟨ps, hps, rfl, hduo, hkp⟩ := hrel
    obtain ⟨ra, rc, rfl⟩ := own_len hduo.rd
    obtain ⟨sa, sc, rfl⟩ := own_len hduo.rm
    have hfam := hduo.fam
    have hrd : wr.ownsRow w.heap.size 26 1 (.slice ra ps.length rc) ps.length (ptd ps) := by have := hduo.rd; rw [List.append_nil] at this; exact this
    have hrm : wr.ownsRow w.heap.size 29 1 (.slice sa ps.length sc) ps.length (ptm ps) := by have := hduo.rm; rw [List.append_nil] at this; exact this
    have HK := hide hkp
    obtain ⟨k, hk⟩ : ∃ k, ps.length = k := ⟨_, rfl⟩
    simp only [List.length_nil, Nat.add_zero]
    rw [hk] at hps hrd hrm ⊢
    have HRD := hide hrd
    have HRM := hide hrm
    have HFM := hide hfam
    have HKL := hide hk
    clear hduo hkp hk hrd hrm hfam
    by_cases hlt : k < L
    · obtain ⟨b, off, hpa, hc⟩ := ((unhide HS).kept (unhide HK) (Or.inr (by simp))).at (k := k) hlt
      subst hpa
      have hx64 := unhide HL64 k hlt
      generalize l.getD k 0 = x at *
      have HNW := fun W => hide (new_any W x hx64)
      have HRN := fun W => hide (rnew_any W x hx64)
      have HOB : Hid (b < w.heap.size) := by
        obtain ⟨b', off', e', hc'⟩ := (unhide HS).at (k := k) hlt
        cases e'
        exact World.block_lt_of_cell? w _ hc'
      have HCS : Hid (∀ W, Kept [] wr W → W.cell? ⟨b, off + k, none⟩ = some (.int .u64 (x : Int))) := fun W hk => (hk.cell (p := ⟨b, off + k, none⟩) (by have := (unhide HK).size; have := unhide HOB; show b < _; omega) (by simp)).trans hc
      have HLT := hide (unhide HFM).lt
      go_wp2_with (first
        | (go_at_call 9; refine (unhide (HNW _)).mono ?_; rintro e w1 ⟨nb, rfl, hd1, hb1, hk1⟩; have HD1 := hide hd1; have HB1 := hide hb1; have HK1 := hide hk1; clear HNW hd1 hb1 hk1)
        | (at_builtin; refine wpList_append_own_at _ rfl _ _ 24 rfl w.heap.size 26 id _ 1 8 Try.underlying24 (unhide HID).1 (unhide HID).2.1 (unhide HID).2.2.1 (unhide HID).2.2.2 rfl (by decide) _ _ _ rfl ((own_kept (unhide HRD) (unhide HK1) (by simp)).alloc _) ⟨w1.heap.size, 0, none⟩ 1 1 [.pointer (some ⟨nb, 0, none⟩)] rfl rfl (cell_one_new _ _ _) (by simp [Value.oneCell']) (by unfold maxLen; omega) (by omega) (by have := (unhide HK).size; have := (unhide HK1).size; simp; omega) ?_))
      intro v1 w2 ho1 hg1 hx1 hx2
      obtain ⟨va, vc, rfl⟩ := own_len ho1
      have hty := own_type ((own_kept (unhide HRD) (unhide HK1) (by simp)).alloc (.cells #[.pointer (some ⟨nb, 0, none⟩)] 26))
      have HO2 := hide ho1
      have HM2 := hide (own_grown ((own_kept (unhide HRM) (unhide HK1) (by simp)).alloc _) hg1 hty (by decide))
      have HF2 := hide (((unhide HFM).kept ((unhide HK1).alloc _)).grown hg1 hty (by decide) (by decide))
      have HN2 : Hid (Dc w2 nb x) := ⟨blk_grown hg1 hty (by decide) ((unhide HD1).blk.alloc _), hx64⟩
      have HKw : Hid (Kept [] w w2) := ((kept_more (unhide HK) (unhide HK1)).alloc _).grown hg1 (fun k hk => Or.inr ((unhide HRD).lt k hk).1)
      have HKr : Hid (wr.heap.size ≤ w2.heap.size) := by have h1 := (unhide HK1).size; have h2 := hg1.size; simp at h2; unfold Hid; omega
      have hcx : w2.cell? ⟨b, off + k, none⟩ = some (.int .u64 (x : Int)) := by
        rw [(unhide HKw).cell (p := ⟨b, off + k, none⟩) (unhide HOB) (by simp), ← (unhide HK).cell (p := ⟨b, off + k, none⟩) (unhide HOB) (by simp)]
        exact hc
      clear ho1 hg1 hx1 hx2 hty HCS hc
      go_wp2_with (first
        | (go_at_call 10; refine (unhide (HRN _)).mono ?_; rintro e w3 ⟨nm, rfl, hd3, hb3, hk3⟩; have HD3 := hide hd3; have HB3 := hide hb3; have HK3 := hide hk3; clear HRN hd3 hb3 hk3)
        | (at_builtin; refine wpList_append_own_at _ rfl _ _ 25 rfl w.heap.size 29 im _ 1 8 Try.underlying25 (unhide HIM).1 (unhide HIM).2.1 (unhide HIM).2.2.1 (unhide HIM).2.2.2 rfl (by decide) _ _ _ rfl ((own_kept (unhide HM2) (unhide HK3) (by simp)).alloc _) ⟨w3.heap.size, 0, none⟩ 1 1 [.pointer (some ⟨nm, 0, none⟩)] rfl rfl (cell_one_new _ _ _) (by simp [Value.oneCell']) (by unfold maxLen; omega) (by omega) (by have := (unhide HKw).size; have := (unhide HK3).size; simp; omega) ?_))
      intro v4 w4 ho4 hg4 hx4 hx5
      obtain ⟨va4, vc4, rfl⟩ := own_len ho4
      have hty := own_type ((own_kept (unhide HM2) (unhide HK3) (by simp)).alloc (.cells #[.pointer (some ⟨nm, 0, none⟩)] 29))
      have HD4 := hide (own_grown ((own_kept (unhide HO2) (unhide HK3) (by simp)).alloc _) hg4 hty (by decide))
      have HF4 := hide (((unhide HF2).kept ((unhide HK3).alloc _)).grown hg4 hty (by decide) (by decide))
      have HA4 : Hid (Dc w4 nb x) := ⟨blk_grown hg4 hty (by decide) (((unhide HN2).blk.kept (unhide HK3) (by simp)).alloc _), hx64⟩
      have HB4 : Hid (Rc w4 nm x) := ⟨blk_grown hg4 hty (by decide) ((unhide HD3).blk.alloc _), hx64⟩
      have HK4 : Hid (Kept [] w w4) := ((kept_more (unhide HKw) (unhide HK3)).alloc _).grown hg4 (fun k hk => Or.inr ((unhide HM2).lt k hk).1)
      have HO4 := hide ho4
      clear ho4 hg4 hx4 hx5 hty
      go_wp2_with fail
      have hfin : Duo w.heap.size w4 (.slice va (k + 1) vc) (.slice va4 (k + 1) vc4) (ps ++ [(nb, nm)]) [] := by
        have hkl := unhide HKL
        subst hkl
        refine ⟨?_, ?_, (unhide HF4).push (unhide HA4) (unhide HB4) (fun i p hp => ?_) ?_ ?_⟩
        · have := unhide HD4
          rw [ptd_app, List.append_nil, List.length_append]
          simpa [ptd] using this
        · have := unhide HO4
          rw [ptm_app, List.append_nil, List.length_append]
          simpa [ptm] using this
        · have h1 := unhide HLT i p hp
          have h2 := unhide HB1
          have h3 := unhide HB3
          have h4 := unhide HKr
          omega
        · have h2 := unhide HB1
          have h4 := (unhide HK).size
          omega
        · have h3 := unhide HB3
          have h4 := (unhide HKw).size
          omega
      exact ⟨⟨ps ++ [(nb, nm)], by rw [List.length_append, unhide HKL]; simp; omega, by rw [List.length_append, unhide HKL]; simp, hfin, unhide HK4⟩, by simp [intOf]; omega⟩
    · obtain rfl : k = L := by omega
      clear HS HL64 HL
      go_wp2_with (first
        | (at_builtin; refine wpList_append_own_at _ rfl _ _ 24 rfl w.heap.size 26 id _ 1 8 Try.underlying24 (unhide HID).1 (unhide HID).2.1 (unhide HID).2.2.1 (unhide HID).2.2.2 rfl (by decide) _ _ _ rfl ((unhide HRD).alloc _) ⟨wr.heap.size, 0, none⟩ 1 1 [.pointer none] rfl rfl (cell_one_new _ _ _) (by simp [Value.oneCell']) (by unfold maxLen; omega) (by omega) (by have := (unhide HK).size; simp; omega) ?_))
      intro v1 w2 ho1 hg1 hx1 hx2
      obtain ⟨va, vc, rfl⟩ := own_len ho1
      have hty := own_type ((unhide HRD).alloc (.cells #[.pointer none] 26))
      have HO2 := hide ho1
      have HM2 := hide (own_grown ((unhide HRM).alloc _) hg1 hty (by decide))
      have HF2 := hide (((unhide HFM).kept ((Kept.refl _ _).alloc _)).grown hg1 hty (by decide) (by decide))
      have HKw : Hid (Kept [] w w2) := ((unhide HK).alloc _).grown hg1 (fun k hk => Or.inr ((unhide HRD).lt k hk).1)
      clear ho1 hg1 hx1 hx2 hty HRD HRM HFM HK
      go_wp2_with (first
        | (at_builtin; refine wpList_append_own_at _ rfl _ _ 25 rfl w.heap.size 29 im _ 1 8 Try.underlying25 (unhide HIM).1 (unhide HIM).2.1 (unhide HIM).2.2.1 (unhide HIM).2.2.2 rfl (by decide) _ _ _ rfl ((unhide HM2).alloc _) ⟨w2.heap.size, 0, none⟩ 1 1 [.pointer none] rfl rfl (cell_one_new _ _ _) (by simp [Value.oneCell']) (by unfold maxLen; omega) (by omega) (by have := (unhide HKw).size; simp; omega) ?_))
      intro v4 w4 ho4 hg4 hx4 hx5
      obtain ⟨va4, vc4, rfl⟩ := own_len ho4
      have hty := own_type ((unhide HM2).alloc (.cells #[.pointer none] 29))
      have HD4 := hide (own_grown ((unhide HO2).alloc _) hg4 hty (by decide))
      have HF4 := hide (((unhide HF2).kept ((Kept.refl _ _).alloc _)).grown hg4 hty (by decide) (by decide))
      have HK4 : Hid (Kept [] w w4) := ((unhide HKw).alloc _).grown hg4 (fun k hk => Or.inr ((unhide HM2).lt k hk).1)
      have HDU : Hid (Duo w.heap.size w4 (.slice va (k + 1) vc) (.slice va4 (k + 1) vc4) ps [.pointer none]) := by
        have hkl := unhide HKL
        refine ⟨?_, ?_, unhide HF4⟩
        · rw [hkl]; exact unhide HD4
        · rw [hkl]; exact ho4
      clear ho4 hg4 hx4 hx5 hty HO2 HM2 HF2 HKw HD4 HF4 HID HIM
      go_wp2_with fail
      go_loopw [10] (fun i wr => ∃ j : Nat, j ≤ N ∧ i = .int .i64 (j : Int) ∧ Duo w.heap.size wr (.slice va (k + 1) vc) (.slice va4 (k + 1) vc4) ps [.pointer none] ∧ Kept [] w wr) (fun i _ => N - (intOf i).toNat)
      case atStart => exact ⟨0, by omega, rfl, unhide HDU, unhide HK4⟩
      case round =>
        obtain ⟨j, hj, rfl, hdu, hkp⟩ := hrel
        clear HDU HK4
        have HDU := hide hdu
        have HKP := hide hkp
        clear hdu hkp
        by_cases hlt : j < N
        · obtain ⟨o, ho⟩ : ∃ o, os[j]? = some o := ⟨os[j]'(by rw [unhide HN]; exact hlt), List.getElem?_eq_getElem _⟩
          obtain ⟨q', qc', hv', -, hall⟩ := unhide HU
          have hq : q = q' := by cases hv'; rfl
          subst hq
          obtain ⟨hok, ob, off, hqa, hbl, hrg⟩ := hall j o ho
          subst hqa
          have HRG := hide (range_kept hrg (unhide HKP) hbl (by simp))
          have HOK := hide hok
          have HRW := hide hrg
          have d1 : wr.cell? ⟨ob, off + j * 5 + 1, none⟩ = some (.int .i64 o.wh) := unhide HRG 1 _ rfl
          have HRO := fun W => hide (round_any W o.wh (k + 1) (by omega) (by omega))
          have hr0 := Int.emod_nonneg o.wh (b := ((k + 1 : Nat) : Int)) (by omega)
          have hr1 := Int.emod_lt_of_pos o.wh (b := ((k + 1 : Nat) : Int)) (by omega)
          obtain ⟨t, ht⟩ : ∃ t : Nat, o.wh % ((k + 1 : Nat) : Int) = (t : Int) := ⟨_, (Int.toNat_of_nonneg hr0).symm⟩
          rw [ht] at HRO hr1
          have htk : t < k + 1 := by omega
          clear hv' hall hrg hok hr0 hr1 ht ho
          by_cases htl : t < k
          · obtain ⟨p, hp⟩ : ∃ p, ps[t]? = some p := ⟨ps[t]'(by rw [unhide HKL]; exact htl), List.getElem?_eq_getElem _⟩
            obtain ⟨g1, e1, hg1, c1⟩ := own_at (unhide HDU).rd (i := t) (u := .pointer (some ⟨p.1, 0, none⟩)) (by rw [List.getElem?_append_left (by rw [ptd_len, unhide HKL]; exact htl)]; simp [ptd, hp])
            obtain ⟨g2, e2, hg2, c2⟩ := own_at (unhide HDU).rm (i := t) (u := .pointer (some ⟨p.2, 0, none⟩)) (by rw [List.getElem?_append_left (by rw [ptm_len, unhide HKL]; exact htl)]; simp [ptm, hp])
            subst e1
            subst e2
            have HST : Hid (∀ W, Quiet wr W → Calls Try.prog 12 #[.pointer (some ⟨p.1, 0, none⟩), .pointer (some ⟨p.2, 0, none⟩), .agg (oc o).toArray] W fun e w' => e = .returned (.bool true) ∧ Duo w.heap.size w' (.slice (some ⟨g1, 0, none⟩) (k + 1) vc) (.slice (some ⟨g2, 0, none⟩) (k + 1) vc4) ps [.pointer none] ∧ Kept [] w w' ∧ w'.cell? ⟨ob, off + j * 5, none⟩ = some (.int .i64 o.kind) ∧ w'.cell? ⟨ob, off + j * 5 + 1, none⟩ = some (.int .i64 o.wh) ∧ w'.cell? ⟨ob, off + j * 5 + 2, none⟩ = some (.int .i64 o.n) ∧ w'.cell? ⟨ob, off + j * 5 + 3, none⟩ = some (.int .u64 (o.far : Int)) ∧ w'.cell? ⟨ob, off + j * 5 + 4, none⟩ = some o.wv ∧ w'.cell? ⟨g1, t, none⟩ = some (.pointer (some ⟨p.1, 0, none⟩)) ∧ w'.cell? ⟨g2, t, none⟩ = some (.pointer (some ⟨p.2, 0, none⟩))) := by
              intro W hQ
              have hdu := (unhide HDU).kept hQ.kept
              have hkp := kept_more (unhide HKP) hQ.kept
              obtain ⟨a1, a2, s, b1, b2⟩ := hdu.fam.own t p hp
              obtain ⟨k1, k2, k3, k4⟩ := unhide HOK
              refine (steps_pair b1 b2 ?_ o.kind o.wh o.n o.far k1 (k4.kept hkp (Or.inr (by simp))) ?_ k2 k3).mono ?_
              · intro x
                have y := b1.blk
                rw [x] at y
                have z := b2.blk
                unfold Blk at y z
                rw [y] at z
                simp at z
              · rcases sees_below k4 with h | h
                · exact Or.inl h
                · exact Or.inr fun z hz => by have := h z hz; omega
              · rintro e w' ⟨rfl, hb⟩
                have hdu' := hdu.step hp hb
                have hkp' := kept_own hkp hdu hp hb
                have hr' := range_kept (unhide HRW) hkp' hbl (by simp)
                obtain ⟨g1', e1', -, c1'⟩ := own_at hdu'.rd (i := t) (u := .pointer (some ⟨p.1, 0, none⟩)) (by rw [List.getElem?_append_left (by rw [ptd_len, unhide HKL]; exact htl)]; simp [ptd, hp])
                obtain ⟨g2', e2', -, c2'⟩ := own_at hdu'.rm (i := t) (u := .pointer (some ⟨p.2, 0, none⟩)) (by rw [List.getElem?_append_left (by rw [ptm_len, unhide HKL]; exact htl)]; simp [ptm, hp])
                cases e1'
                cases e2'
                exact ⟨rfl, hdu', hkp', hr' 0 _ rfl, hr' 1 _ rfl, hr' 2 _ rfl, hr' 3 _ rfl, hr' 4 _ rfl, c1', c2'⟩
            have t0 : (0 : Int) ≤ (t : Int) := by omega
            have t1 : (t : Int) < (k : Int) + 1 := by omega
            clear hg1 hg2
            go_wp2_with (first
              | (go_at_call 11; refine (unhide (HRO _)).mono ?_; rintro e w5 ⟨rfl, hq⟩; have hq' := hq.symm; subst hq'; clear HRO)
              | fail)
            have q0 : wr.cell? ⟨ob, off + j * 5, none⟩ = some (.int .i64 o.kind) := unhide HRG 0 _ rfl
            have q2 : wr.cell? ⟨ob, off + j * 5 + 2, none⟩ = some (.int .i64 o.n) := unhide HRG 2 _ rfl
            have q3 : wr.cell? ⟨ob, off + j * 5 + 3, none⟩ = some (.int .u64 (o.far : Int)) := unhide HRG 3 _ rfl
            have q4 : wr.cell? ⟨ob, off + j * 5 + 4, none⟩ = some o.wv := unhide HRG 4 _ rfl
            unfold oc at HST
            clear HRG HOK HRW
            generalize o.kind = o0 at *
            generalize o.wh = o1 at *
            generalize o.n = o2 at *
            generalize ((o.far : Nat) : Int) = o3 at *
            generalize o.wv = o4 at *
            go_region_held3 (fun W => W.cell? ⟨ob, off + j * 5, none⟩ = some (.int .i64 o0) ∧ W.cell? ⟨ob, off + j * 5 + 1, none⟩ = some (.int .i64 o1) ∧ W.cell? ⟨ob, off + j * 5 + 2, none⟩ = some (.int .i64 o2) ∧ W.cell? ⟨ob, off + j * 5 + 3, none⟩ = some (.int .u64 o3) ∧ W.cell? ⟨ob, off + j * 5 + 4, none⟩ = some o4 ∧ W.cell? ⟨g1, t, none⟩ = some (.pointer (some ⟨p.1, 0, none⟩)) ∧ W.cell? ⟨g2, t, none⟩ = some (.pointer (some ⟨p.2, 0, none⟩))) (go_keep) (first
              | (go_at_call 12; refine (unhide HST _ (by first | exact Quiet.refl _ | exact (Quiet.refl _).drew | exact (Quiet.refl _).drewN _)).mono ?_; rintro e w6 ⟨rfl, hdu6, hkp6, x0, x1, x2, x3, x4, x5, x6⟩; have HDU6 := hide hdu6; have HKP6 := hide hkp6; clear HST hdu6 hkp6))
            go_wp2_with fail
            exact ⟨⟨j + 1, by omega, by simp, unhide HDU6, unhide HKP6⟩, by simp [intOf]; omega⟩
          · have htk2 : t = k := by omega
            obtain ⟨g1, e1, hg1, c1⟩ := own_at (unhide HDU).rd (i := t) (u := .pointer none) (by rw [List.getElem?_append_right (by rw [ptd_len, unhide HKL]; omega), ptd_len, unhide HKL, htk2, Nat.sub_self]; rfl)
            obtain ⟨g2, e2, hg2, c2⟩ := own_at (unhide HDU).rm (i := t) (u := .pointer none) (by rw [List.getElem?_append_right (by rw [ptm_len, unhide HKL]; omega), ptm_len, unhide HKL, htk2, Nat.sub_self]; rfl)
            subst e1
            subst e2
            have HST : Hid (∀ W, Quiet wr W → Calls Try.prog 12 #[.pointer none, .pointer none, .agg (oc o).toArray] W fun e w' => e = .returned (.bool true) ∧ Duo w.heap.size w' (.slice (some ⟨g1, 0, none⟩) (k + 1) vc) (.slice (some ⟨g2, 0, none⟩) (k + 1) vc4) ps [.pointer none] ∧ Kept [] w w' ∧ w'.cell? ⟨ob, off + j * 5, none⟩ = some (.int .i64 o.kind) ∧ w'.cell? ⟨ob, off + j * 5 + 1, none⟩ = some (.int .i64 o.wh) ∧ w'.cell? ⟨ob, off + j * 5 + 2, none⟩ = some (.int .i64 o.n) ∧ w'.cell? ⟨ob, off + j * 5 + 3, none⟩ = some (.int .u64 (o.far : Int)) ∧ w'.cell? ⟨ob, off + j * 5 + 4, none⟩ = some o.wv ∧ w'.cell? ⟨g1, t, none⟩ = some (.pointer none) ∧ w'.cell? ⟨g2, t, none⟩ = some (.pointer none)) := by
              intro W hQ
              have hdu := (unhide HDU).kept hQ.kept
              have hkp := kept_more (unhide HKP) hQ.kept
              obtain ⟨k1, k2, k3, k4⟩ := unhide HOK
              refine (steps_nil o.kind o.wh o.n (o.far : Int) (k4.kept hkp (Or.inr (by simp))) k2).mono ?_
              · rintro e w' ⟨rfl, hb⟩
                have hdu' := hdu.kept hb
                have hkp' := kept_more hkp hb
                have hr' := range_kept (unhide HRW) hkp' hbl (by simp)
                obtain ⟨g1', e1', -, c1'⟩ := own_at hdu'.rd (i := t) (u := .pointer none) (by rw [List.getElem?_append_right (by rw [ptd_len, unhide HKL]; omega), ptd_len, unhide HKL, htk2, Nat.sub_self]; rfl)
                obtain ⟨g2', e2', -, c2'⟩ := own_at hdu'.rm (i := t) (u := .pointer none) (by rw [List.getElem?_append_right (by rw [ptm_len, unhide HKL]; omega), ptm_len, unhide HKL, htk2, Nat.sub_self]; rfl)
                cases e1'
                cases e2'
                exact ⟨rfl, hdu', hkp', hr' 0 _ rfl, hr' 1 _ rfl, hr' 2 _ rfl, hr' 3 _ rfl, hr' 4 _ rfl, c1', c2'⟩
            have t0 : (0 : Int) ≤ (t : Int) := by omega
            have t1 : (t : Int) < (k : Int) + 1 := by omega
            clear hg1 hg2 htk2 htl
            go_wp2_with (first
              | (go_at_call 11; refine (unhide (HRO _)).mono ?_; rintro e w5 ⟨rfl, hq⟩; have hq' := hq.symm; subst hq'; clear HRO)
              | fail)
            have q0 : wr.cell? ⟨ob, off + j * 5, none⟩ = some (.int .i64 o.kind) := unhide HRG 0 _ rfl
            have q2 : wr.cell? ⟨ob, off + j * 5 + 2, none⟩ = some (.int .i64 o.n) := unhide HRG 2 _ rfl
            have q3 : wr.cell? ⟨ob, off + j * 5 + 3, none⟩ = some (.int .u64 (o.far : Int)) := unhide HRG 3 _ rfl
            have q4 : wr.cell? ⟨ob, off + j * 5 + 4, none⟩ = some o.wv := unhide HRG 4 _ rfl
            unfold oc at HST
            clear HRG HOK HRW
            generalize o.kind = o0 at *
            generalize o.wh = o1 at *
            generalize o.n = o2 at *
            generalize ((o.far : Nat) : Int) = o3 at *
            generalize o.wv = o4 at *
            go_region_held3 (fun W => W.cell? ⟨ob, off + j * 5, none⟩ = some (.int .i64 o0) ∧ W.cell? ⟨ob, off + j * 5 + 1, none⟩ = some (.int .i64 o1) ∧ W.cell? ⟨ob, off + j * 5 + 2, none⟩ = some (.int .i64 o2) ∧ W.cell? ⟨ob, off + j * 5 + 3, none⟩ = some (.int .u64 o3) ∧ W.cell? ⟨ob, off + j * 5 + 4, none⟩ = some o4 ∧ W.cell? ⟨g1, t, none⟩ = some (.pointer none) ∧ W.cell? ⟨g2, t, none⟩ = some (.pointer none)) (go_keep) (first
              | (go_at_call 12; refine (unhide HST _ (by first | exact Quiet.refl _ | exact (Quiet.refl _).drew | exact (Quiet.refl _).drewN _)).mono ?_; rintro e w6 ⟨rfl, hdu6, hkp6, x0, x1, x2, x3, x4, x5, x6⟩; have HDU6 := hide hdu6; have HKP6 := hide hkp6; clear HST hdu6 hkp6))
            go_wp2_with fail
            exact ⟨⟨j + 1, by omega, by simp, unhide HDU6, unhide HKP6⟩, by simp [intOf]; omega⟩
        · obtain rfl : j = N := by omega
          clear HU HN
          go_wp2_with fail
          go_loopw [13] (fun i wr => ∃ t : Nat, t ≤ k + 1 ∧ i = .int .i64 (t : Int) ∧ Duo w.heap.size wr (.slice va (k + 1) vc) (.slice va4 (k + 1) vc4) ps [.pointer none] ∧ Kept [] w wr) (fun i _ => k + 1 - (intOf i).toNat)
          case atStart => exact ⟨0, by omega, rfl, unhide HDU, unhide HKP⟩
          case round =>
            obtain ⟨t, ht, rfl, hdu, hkp⟩ := hrel
            clear HDU HKP
            have HDU := hide hdu
            have HKP := hide hkp
            clear hdu hkp
            by_cases hlt3 : t < k + 1
            · by_cases htl : t < k
              · obtain ⟨p, hp⟩ : ∃ p, ps[t]? = some p := ⟨ps[t]'(by rw [unhide HKL]; exact htl), List.getElem?_eq_getElem _⟩
                obtain ⟨g1, e1, hg1, c1⟩ := own_at (unhide HDU).rd (i := t) (u := .pointer (some ⟨p.1, 0, none⟩)) (by rw [List.getElem?_append_left (by rw [ptd_len, unhide HKL]; exact htl)]; simp [ptd, hp])
                obtain ⟨g2, e2, hg2, c2⟩ := own_at (unhide HDU).rm (i := t) (u := .pointer (some ⟨p.2, 0, none⟩)) (by rw [List.getElem?_append_left (by rw [ptm_len, unhide HKL]; exact htl)]; simp [ptm, hp])
                subst e1
                subst e2
                have HST : Hid (∀ W, Quiet wr W → Calls Try.prog 12 #[.pointer (some ⟨p.1, 0, none⟩), .pointer (some ⟨p.2, 0, none⟩), .agg #[.int .i64 1, .int .i64 0, .int .i64 0, .int .u64 0, .slice none 0 0]] W fun e w' => e = .returned (.bool true) ∧ Duo w.heap.size w' (.slice (some ⟨g1, 0, none⟩) (k + 1) vc) (.slice (some ⟨g2, 0, none⟩) (k + 1) vc4) ps [.pointer none] ∧ Kept [] w w' ∧ w'.cell? ⟨g1, t, none⟩ = some (.pointer (some ⟨p.1, 0, none⟩)) ∧ w'.cell? ⟨g2, t, none⟩ = some (.pointer (some ⟨p.2, 0, none⟩))) := by
                  intro W hQ
                  have hdu := (unhide HDU).kept hQ.kept
                  have hkp := kept_more (unhide HKP) hQ.kept
                  obtain ⟨a1, a2, s, b1, b2⟩ := hdu.fam.own t p hp
                  refine (steps_pair b1 b2 ?_ 1 0 0 0 (v := .slice none 0 0) (l := []) (by omega) ⟨none, 0, rfl, by simp, by simp [maxLen], Or.inl rfl⟩ (Or.inl rfl) (by simp) (by simp)).mono ?_
                  · intro x
                    have y := b1.blk
                    rw [x] at y
                    have z := b2.blk
                    unfold Blk at y z
                    rw [y] at z
                    simp at z
                  · rintro e w' ⟨rfl, hb⟩
                    have hdu' := hdu.step hp hb
                    have hkp' := kept_own hkp hdu hp hb
                    obtain ⟨g1', e1', -, c1'⟩ := own_at hdu'.rd (i := t) (u := .pointer (some ⟨p.1, 0, none⟩)) (by rw [List.getElem?_append_left (by rw [ptd_len, unhide HKL]; exact htl)]; simp [ptd, hp])
                    obtain ⟨g2', e2', -, c2'⟩ := own_at hdu'.rm (i := t) (u := .pointer (some ⟨p.2, 0, none⟩)) (by rw [List.getElem?_append_left (by rw [ptm_len, unhide HKL]; exact htl)]; simp [ptm, hp])
                    cases e1'
                    cases e2'
                    exact ⟨rfl, hdu', hkp', c1', c2'⟩
                have t0 : (0 : Int) ≤ (t : Int) := by omega
                have t1 : (t : Int) < (k : Int) + 1 := by omega
                clear hg1 hg2
                go_wp2_with fail
                go_region_held3 (fun W => W.cell? ⟨g1, t, none⟩ = some (.pointer (some ⟨p.1, 0, none⟩)) ∧ W.cell? ⟨g2, t, none⟩ = some (.pointer (some ⟨p.2, 0, none⟩))) (go_keep) (first
                  | (go_at_call 12; refine (unhide HST _ (by first | exact Quiet.refl _ | exact (Quiet.refl _).drew | exact (Quiet.refl _).drewN _)).mono ?_; rintro e w6 ⟨rfl, hdu6, hkp6, x5, x6⟩; have HDU6 := hide hdu6; have HKP6 := hide hkp6; clear HST hdu6 hkp6))
                go_wp2_with fail
                exact ⟨⟨t + 1, by omega, by simp, unhide HDU6, unhide HKP6⟩, by simp [intOf]; omega⟩
              · have htk2 : t = k := by omega
                obtain ⟨g1, e1, hg1, c1⟩ := own_at (unhide HDU).rd (i := t) (u := .pointer none) (by rw [List.getElem?_append_right (by rw [ptd_len, unhide HKL]; omega), ptd_len, unhide HKL, htk2, Nat.sub_self]; rfl)
                obtain ⟨g2, e2, hg2, c2⟩ := own_at (unhide HDU).rm (i := t) (u := .pointer none) (by rw [List.getElem?_append_right (by rw [ptm_len, unhide HKL]; omega), ptm_len, unhide HKL, htk2, Nat.sub_self]; rfl)
                subst e1
                subst e2
                have HST : Hid (∀ W, Quiet wr W → Calls Try.prog 12 #[.pointer none, .pointer none, .agg #[.int .i64 1, .int .i64 0, .int .i64 0, .int .u64 0, .slice none 0 0]] W fun e w' => e = .returned (.bool true) ∧ Duo w.heap.size w' (.slice (some ⟨g1, 0, none⟩) (k + 1) vc) (.slice (some ⟨g2, 0, none⟩) (k + 1) vc4) ps [.pointer none] ∧ Kept [] w w' ∧ w'.cell? ⟨g1, t, none⟩ = some (.pointer none) ∧ w'.cell? ⟨g2, t, none⟩ = some (.pointer none)) := by
                  intro W hQ
                  have hdu := (unhide HDU).kept hQ.kept
                  have hkp := kept_more (unhide HKP) hQ.kept
                  refine (steps_nil 1 0 0 0 (v := .slice none 0 0) (l := []) ⟨none, 0, rfl, by simp, by simp [maxLen], Or.inl rfl⟩ (by simp)).mono ?_
                  · rintro e w' ⟨rfl, hb⟩
                    have hdu' := hdu.kept hb
                    have hkp' := kept_more hkp hb
                    obtain ⟨g1', e1', -, c1'⟩ := own_at hdu'.rd (i := t) (u := .pointer none) (by rw [List.getElem?_append_right (by rw [ptd_len, unhide HKL]; omega), ptd_len, unhide HKL, htk2, Nat.sub_self]; rfl)
                    obtain ⟨g2', e2', -, c2'⟩ := own_at hdu'.rm (i := t) (u := .pointer none) (by rw [List.getElem?_append_right (by rw [ptm_len, unhide HKL]; omega), ptm_len, unhide HKL, htk2, Nat.sub_self]; rfl)
                    cases e1'
                    cases e2'
                    exact ⟨rfl, hdu', hkp', c1', c2'⟩
                have t0 : (0 : Int) ≤ (t : Int) := by omega
                have t1 : (t : Int) < (k : Int) + 1 := by omega
                clear hg1 hg2 htk2 htl
                go_wp2_with fail
                go_region_held3 (fun W => W.cell? ⟨g1, t, none⟩ = some (.pointer none) ∧ W.cell? ⟨g2, t, none⟩ = some (.pointer none)) (go_keep) (first
                  | (go_at_call 12; refine (unhide HST _ (by first | exact Quiet.refl _ | exact (Quiet.refl _).drew | exact (Quiet.refl _).drewN _)).mono ?_; rintro e w6 ⟨rfl, hdu6, hkp6, x5, x6⟩; have HDU6 := hide hdu6; have HKP6 := hide hkp6; clear HST hdu6 hkp6))
                go_wp2_with fail
                exact ⟨⟨t + 1, by omega, by simp, unhide HDU6, unhide HKP6⟩, by simp [intOf]; omega⟩
            · obtain rfl : t = k + 1 := by omega
              obtain ⟨g1, e1, -, c1⟩ := own_at (unhide HDU).rd (i := k) (u := .pointer none) (by rw [List.getElem?_append_right (by rw [ptd_len, unhide HKL]; omega), ptd_len, unhide HKL]; simp)
              subst e1
              have HNP := fun W => hide (npick W none 0 0)
              go_wp2_with (first
                | (go_at_call 13; refine (unhide (HNP _)).mono ?_; rintro e w8 ⟨rfl, hq⟩; have hq' := hq.symm; subst hq'; clear HNP))
              go_ret
              exact ⟨rfl, unhide HKP⟩
end Go.Proofs.Ytoibkgjnnneagaa
