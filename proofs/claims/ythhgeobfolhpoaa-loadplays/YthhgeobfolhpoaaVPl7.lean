/- LoadPlays returns true. -/
import Derived.Test.YthhgeobfolhpoaaVPl6
import Derived.Deep.RegionHeld3
import Derived.Deep.DeepCutAuto
namespace Go.Proofs.Ythhgeobfolhpoaa
open Go.RowKit

set_option maxRecDepth 100000 in
set_option maxHeartbeats 8000000 in
theorem plays_walk {w : World} {sv : Value} {os : List OpM} (hs : Ops w sv os) (hos : os.length ≤ 5000000000000) (s1 h1 s2 h2 : Int) :
    Calls Try.prog 3 #[.int .i64 s1, .int .i64 h1, .int .i64 s2, .int .i64 h2, sv] w fun e w' => e = .returned (.bool true) ∧ Kept [] w w' := by
  have HNUM := hide num_any
  have HS := hide hs
  obtain ⟨sa, sc, rfl, -⟩ := hs
  generalize hLO : os.length = LO at *
  have HLO := hide hLO
  clear hLO
  have HN1 := fun W => hide (new_h W s1 h1)
  have HN2 := fun W => hide (new_h W s2 h2)
  have HR1 := fun W => hide (rnew_h W s1 h1)
  have HR2 := fun W => hide (rnew_h W s2 h2)
  generalize hen : errN s1 h1 = en at *
  generalize hen2 : errN s2 h2 = en2 at *
  generalize hma : mkN s1 h1 = ma at *
  generalize hmb : mkN s2 h2 = mb at *
  clear hen hen2 hma hmb
  go_enter Try.func3, Try.ntmps3
  go_wp2_with (first
    | (go_at_call_of 9 (Value.int IntKind.i64 s1); refine (unhide (HN1 _)).mono ?_; rintro e w2 ⟨ba, Xa, rfl, hda, hn2⟩; have HDA := hide hda; have HX2 := hide hn2; clear HN1 hda hn2)
    | (go_at_call_of 9 (Value.int IntKind.i64 s2); refine (unhide (HN2 _)).mono ?_; rintro e w3 ⟨bb, Xb, rfl, hdb, hn3⟩; have HDB := hide hdb; have HX3 := hide hn3; clear HN2 hdb hn3)
    | (go_at_call_of 10 (Value.int IntKind.i64 s1); refine (unhide (HR1 _)).mono ?_; rintro e w4 ⟨ra, Ya, rfl, hra, hn4⟩; have HRA := hide hra; have HX4 := hide hn4; clear HR1 hra hn4
       have hq1 : (optA ma ba).isNone = (optA ma ra).isNone := by unfold optA; simp)
    | (go_at_call_of 10 (Value.int IntKind.i64 s2); refine (unhide (HR2 _)).mono ?_; rintro e w5 ⟨rb, Yb, rfl, hrb, hn5⟩; have HRB := hide hrb; have HX5 := hide hn5; clear HR2 hrb hn5
       have hq2 : (optA mb bb).isNone = (optA mb rb).isNone := by unfold optA; simp
       have HST := hide (sta_start (unhide HDA) (unhide HX2) (unhide HDB) (unhide HX3) (unhide HRA) (unhide HX4) (unhide HRB) (unhide HX5)))
    | (go_at_call 11; refine (unhide HNUM _ _).mono ?_; rintro e wq ⟨rfl, hq⟩; have hq' := hq.symm; subst hq'; clear hq))
  have HS9 : Hid (Sta w ((w5.alloc (.cells #[.pointer (optA ma ba), .pointer (optA mb bb), .pointer none] 23)).alloc (.cells #[.pointer (optA ma ra), .pointer (optA mb rb), .pointer none] 27)) (.pointer (optA ma ba)) (.pointer (optA ma ra)) (.pointer (optA mb bb)) (.pointer (optA mb rb))
      [(w5.heap.size + 1, #[.pointer (optA ma ra), .pointer (optA mb rb), .pointer none], 27), (w5.heap.size, #[.pointer (optA ma ba), .pointer (optA mb bb), .pointer none], 23)] 0) := by
    unfold Hid
    have := ((unhide HST).push #[.pointer (optA ma ba), .pointer (optA mb bb), .pointer none] 23).push #[.pointer (optA ma ra), .pointer (optA mb rb), .pointer none] 27
    simpa using this
  clear HST HDA HX2 HDB HX3 HRA HX4 HRB HX5 hq1 hq2
  generalize optA ma ba = oa at *
  generalize optA ma ra = ox at *
  generalize optA mb bb = ob at *
  generalize optA mb rb = oy at *
  go_loopw [23] (fun i wr => ∃ k : Nat, k ≤ LO ∧ i = .int .i64 k ∧ Sta w wr (.pointer oa) (.pointer ox) (.pointer ob) (.pointer oy) [(w5.heap.size + 1, #[.pointer ox, .pointer oy, .pointer none], 27), (w5.heap.size, #[.pointer oa, .pointer ob, .pointer none], 23)] k) (fun i _ => LO - (intOf i).toNat)
  case atStart => exact ⟨0, by omega, rfl, unhide HS9⟩
  case round =>
    clear HS9
    obtain ⟨k, hk, rfl, hst⟩ := hrel
    by_cases hkl : k < LO
    · obtain ⟨o, hok⟩ : ∃ o, os[k]? = some o := ⟨_, List.getElem?_eq_getElem (by rw [unhide HLO]; exact hkl)⟩
      obtain ⟨sa', sc', hse, -, hsc⟩ := unhide HS
      injection hse with e1 e2 e3
      subst e1
      obtain ⟨hwt, pb, off, rfl, hpb, hrg⟩ := hsc k o hok
      have hr := range_kept hrg hst.kept hpb (by simp)
      obtain ⟨kd, who, sh, nw, wt⟩ := o
      simp only at hwt
      have b0 : wr.cell? ⟨pb, off + k * 5, none⟩ = some (.int .i64 kd) := hr 0 _ rfl
      have b1 : wr.cell? ⟨pb, off + k * 5 + 1, none⟩ = some (.int .i64 who) := hr 1 _ rfl
      have b2 : wr.cell? ⟨pb, off + k * 5 + 2, none⟩ = some (.int .i64 sh) := hr 2 _ rfl
      have b3 : wr.cell? ⟨pb, off + k * 5 + 3, none⟩ = some (.int .i64 nw) := hr 3 _ rfl
      have b4 : wr.cell? ⟨pb, off + k * 5 + 4, none⟩ = some (.int .u64 (wt : Int)) := hr 4 _ rfl
      have HP : ∀ W, Hid (Calls Try.prog 12 #[.int .i64 who, .int .i64 3] W fun e w' => (∃ q : Nat, q < 3 ∧ e = .returned (.int .i64 (q : Int))) ∧ w' = W) := fun W => place_any W who 3 (by omega) (by omega)
      have HST := hide hst
      have HRG := hide hrg
      have HPB := hide hpb
      have t1 : (k : Int) < (LO : Int) := by omega
      have t0 : (0 : Int) ≤ (k : Int) := by omega
      clear hst hsc hok hrg hr e2 e3 hpb HS
      go_wp2_with (first
        | (go_at_call 12; refine (unhide (HP _)).mono ?_; rintro e wq ⟨⟨t, ht, rfl⟩, hq⟩; have hq' := hq.symm; subst hq'; clear hq HP))
      have HC : Hid (∀ W, Quiet wr W → Calls Try.prog 13 #[dAt (.pointer oa) (.pointer ob) t, dAt (.pointer ox) (.pointer oy) t, .agg #[.int .i64 kd, .int .i64 who, .int .i64 sh, .int .i64 nw, .int .u64 (wt : Int)]] W fun e w' => e = .returned (.bool true) ∧ Sta w w' (.pointer oa) (.pointer ox) (.pointer ob) (.pointer oy) [(w5.heap.size + 1, #[.pointer ox, .pointer oy, .pointer none], 27), (w5.heap.size, #[.pointer oa, .pointer ob, .pointer none], 23)] (k + 1) ∧
          w'.cell? ⟨w5.heap.size, t, none⟩ = some (dAt (.pointer oa) (.pointer ob) t) ∧ w'.cell? ⟨w5.heap.size + 1, t, none⟩ = some (dAt (.pointer ox) (.pointer oy) t) ∧ w'.rangeAt pb (off + k * 5) (oc ⟨kd, who, sh, nw, wt⟩)) := fun W hW => (sta_call ⟨kd, who, sh, nw, wt⟩ (unhide HST) ht hwt (by omega) hW).mono fun e w' ⟨he, h1, h2, h3⟩ => ⟨he, h1, h2, h3, range_kept (unhide HRG) h1.kept (unhide HPB) (by simp)⟩
      have c1 := (((unhide HST).blk (e := (w5.heap.size, #[.pointer oa, .pointer ob, .pointer none], 23)) (by simp)).cell t).trans (dAt_cell ht)
      have c2 := (((unhide HST).blk (e := (w5.heap.size + 1, #[.pointer ox, .pointer oy, .pointer none], 27)) (by simp)).cell t).trans (dAt_cell ht)
      have t4 : (0 : Int) ≤ (t : Int) := by omega
      have t5 : (t : Int) < 3 := by omega
      generalize hdt : dAt (.pointer oa) (.pointer ob) t = dt at *
      generalize hmt : dAt (.pointer ox) (.pointer oy) t = mt at *
      clear hdt hmt HST
      go_region_held3 (fun W => W.cell? ⟨w5.heap.size, t, none⟩ = some dt ∧ W.cell? ⟨w5.heap.size + 1, t, none⟩ = some mt ∧ W.cell? ⟨pb, off + k * 5, none⟩ = some (.int .i64 kd) ∧ W.cell? ⟨pb, off + k * 5 + 1, none⟩ = some (.int .i64 who) ∧ W.cell? ⟨pb, off + k * 5 + 2, none⟩ = some (.int .i64 sh) ∧ W.cell? ⟨pb, off + k * 5 + 3, none⟩ = some (.int .i64 nw) ∧ W.cell? ⟨pb, off + k * 5 + 4, none⟩ = some (.int .u64 (wt : Int))) (go_keep) (first
        | (go_at_call 13; refine (unhide HC _ (by first | exact Quiet.refl _ | exact (Quiet.refl _).drew | exact (Quiet.refl _).drewN _)).mono ?_; rintro e w8 ⟨rfl, hs8, x1, x2, hr8⟩; have HS8 := hide hs8
           have y0 : w8.cell? ⟨pb, off + k * 5, none⟩ = some (.int .i64 kd) := hr8 0 _ rfl
           have y1 : w8.cell? ⟨pb, off + k * 5 + 1, none⟩ = some (.int .i64 who) := hr8 1 _ rfl
           have y2 : w8.cell? ⟨pb, off + k * 5 + 2, none⟩ = some (.int .i64 sh) := hr8 2 _ rfl
           have y3 : w8.cell? ⟨pb, off + k * 5 + 3, none⟩ = some (.int .i64 nw) := hr8 3 _ rfl
           have y4 : w8.cell? ⟨pb, off + k * 5 + 4, none⟩ = some (.int .u64 (wt : Int)) := hr8 4 _ rfl
           clear HC hs8 hr8))
      go_wp2_with fail
      exact ⟨⟨k + 1, by omega, by simp, unhide HS8⟩, by simp [intOf]; omega⟩
    · obtain rfl : k = LO := by omega
      have HST := hide hst
      clear hst hk HS
      go_wp2_with fail
      go_loopw [25] (fun i wr => ∃ t : Nat, t ≤ 3 ∧ i = .int .i64 t ∧ Sta w wr (.pointer oa) (.pointer ox) (.pointer ob) (.pointer oy) [(w5.heap.size + 1, #[.pointer ox, .pointer oy, .pointer none], 27), (w5.heap.size, #[.pointer oa, .pointer ob, .pointer none], 23)] (k + 3 * t)) (fun i _ => 3 - (intOf i).toNat)
      case atStart => exact ⟨0, by omega, rfl, unhide HST⟩
      case round =>
        clear HST
        obtain ⟨t, ht3, rfl, hst⟩ := hrel
        have HST := hide hst
        clear hst
        by_cases ht : t < 3
        · have t5 : ((t : Int) < 3) = True := by simp; omega
          have t4 : (0 : Int) ≤ (t : Int) := by omega
          go_wp2_with fail
          go_loopw [26] (fun i wr => ∃ j : Nat, 3 ≤ j ∧ j ≤ 6 ∧ i = .int .i64 j ∧ Sta w wr (.pointer oa) (.pointer ox) (.pointer ob) (.pointer oy) [(w5.heap.size + 1, #[.pointer ox, .pointer oy, .pointer none], 27), (w5.heap.size, #[.pointer oa, .pointer ob, .pointer none], 23)] (k + 3 * t + (j - 3))) (fun i _ => 6 - (intOf i).toNat)
          case atStart => exact ⟨3, by omega, by omega, rfl, unhide HST⟩
          case round =>
            clear HST
            obtain ⟨j, hj3, hj6, rfl, hst⟩ := hrel
            by_cases hj : j < 6
            · have HC : Hid (∀ W, Quiet wr W → Calls Try.prog 13 #[dAt (.pointer oa) (.pointer ob) t, dAt (.pointer ox) (.pointer oy) t, .agg #[.int .i64 (j : Int), .int .i64 0, .int .i64 ((j : Int) - 3), .int .i64 0, .int .u64 0]] W fun e w' => e = .returned (.bool true) ∧ Sta w w' (.pointer oa) (.pointer ox) (.pointer ob) (.pointer oy) [(w5.heap.size + 1, #[.pointer ox, .pointer oy, .pointer none], 27), (w5.heap.size, #[.pointer oa, .pointer ob, .pointer none], 23)] (k + 3 * t + (j - 3) + 1) ∧
                  w'.cell? ⟨w5.heap.size, t, none⟩ = some (dAt (.pointer oa) (.pointer ob) t) ∧ w'.cell? ⟨w5.heap.size + 1, t, none⟩ = some (dAt (.pointer ox) (.pointer oy) t)) := fun W hW => sta_call ⟨(j : Int), 0, (j : Int) - 3, 0, 0⟩ hst ht (by simp) (by omega) hW
              have c1 := ((hst.blk (e := (w5.heap.size, #[.pointer oa, .pointer ob, .pointer none], 23)) (by simp)).cell t).trans (dAt_cell ht)
              have c2 := ((hst.blk (e := (w5.heap.size + 1, #[.pointer ox, .pointer oy, .pointer none], 27)) (by simp)).cell t).trans (dAt_cell ht)
              have t6 : ((j : Int) < 6) = True := by simp; omega
              have hw3 : IntKind.i64.wrap ((j : Int) - 3) = (j : Int) - 3 := by rw [IntKind.wrap_i64]; omega
              generalize hdt : dAt (.pointer oa) (.pointer ob) t = dt at *
              generalize hmt : dAt (.pointer ox) (.pointer oy) t = mt at *
              clear hdt hmt hst
              go_wp2_with fail
              go_region_held3 (fun W => W.cell? ⟨w5.heap.size, t, none⟩ = some dt ∧ W.cell? ⟨w5.heap.size + 1, t, none⟩ = some mt) (go_keep) (first
                | (go_at_call 13; refine (unhide HC _ (by first | exact Quiet.refl _ | exact (Quiet.refl _).drew | exact (Quiet.refl _).drewN _)).mono ?_; rintro e w8 ⟨rfl, hs8, x1, x2⟩; have HS8 := hide hs8; clear HC hs8))
              go_wp2_with fail
              exact ⟨⟨j + 1, by omega, by omega, by simp, (unhide HS8).more (by omega)⟩, by simp [intOf]; omega⟩
            · obtain rfl : j = 6 := by omega
              have HST := hide hst
              clear hst
              go_wp2_with fail
              exact ⟨⟨t + 1, by omega, by simp, (unhide HST).more (by omega)⟩, by simp [intOf]; omega⟩
        · have HKP := hide (unhide HST).kept
          obtain rfl : t = 3 := by omega
          go_wp2_with fail
          go_ret
          exact ⟨rfl, unhide HKP⟩
end Go.Proofs.Ythhgeobfolhpoaa
