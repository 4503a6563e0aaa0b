/- kept: a row that was lent is as it was. -/
import Derived.Test.YtigmofbammofbaaKTwin
import Derived.BigRegion
import Derived.Deep.RegionHeld3
import Derived.Deep.DeepCutAuto
namespace Go.Proofs.Ytigmofbammofbaa
open Go.RowKit

theorem three (w : World) (A B C : Obj) : Kept [] w (((w.alloc A).alloc B).alloc C).drew ∧ (((w.alloc A).alloc B).alloc C).drew.heap[w.heap.size]? = some A ∧ (((w.alloc A).alloc B).alloc C).drew.heap[w.heap.size + 1]? = some B ∧ (((w.alloc A).alloc B).alloc C).drew.heap[w.heap.size + 1 + 1]? = some C := by
  refine ⟨((((Kept.refl [] w).alloc A).alloc B).alloc C).drew, ?_, ?_, ?_⟩
  · show (((w.alloc A).alloc B).alloc C).heap[w.heap.size]? = some A
    exact (Below.heap_alloc _ _ _ (by simp; omega)).trans ((Below.heap_alloc _ _ _ (by simp)).trans (heap_alloc_new w A))
  · show (((w.alloc A).alloc B).alloc C).heap[w.heap.size + 1]? = some B
    have e : w.heap.size + 1 = (w.alloc A).heap.size := by simp
    rw [e]
    exact (Below.heap_alloc _ _ _ (by simp)).trans (heap_alloc_new _ B)
  · show (((w.alloc A).alloc B).alloc C).heap[w.heap.size + 1 + 1]? = some C
    have e : w.heap.size + 1 + 1 = ((w.alloc A).alloc B).heap.size := by simp
    rw [e]
    exact heap_alloc_new _ C

theorem leaf0 {w wr : World} (hk : Kept [] w wr) (X V U : Array Value) : Hid (Kept [] w (((wr.alloc (.cells X 62)).alloc (.cells V 54)).alloc (.cells U 54)).drew) ∧ Hid (Blk (((wr.alloc (.cells X 62)).alloc (.cells V 54)).alloc (.cells U 54)).drew (wr.heap.size) X 62) ∧ Hid (Blk (((wr.alloc (.cells X 62)).alloc (.cells V 54)).alloc (.cells U 54)).drew (wr.heap.size + 1) V 54) ∧ Hid (Blk (((wr.alloc (.cells X 62)).alloc (.cells V 54)).alloc (.cells U 54)).drew (wr.heap.size + 1 + 1) U 54) :=
  ⟨hk.trans (three wr _ _ _).1 (by simp), (three wr _ _ _).2.1, (three wr _ _ _).2.2.1, (three wr _ _ _).2.2.2⟩
theorem leaf1 {w wr : World} (hk : Kept [] w wr) (X V U : Array Value) : Hid (Kept [] w (((wr.alloc (.cells X 62)).alloc (.cells U 54)).alloc (.cells V 54)).drew) ∧ Hid (Blk (((wr.alloc (.cells X 62)).alloc (.cells U 54)).alloc (.cells V 54)).drew (wr.heap.size) X 62) ∧ Hid (Blk (((wr.alloc (.cells X 62)).alloc (.cells U 54)).alloc (.cells V 54)).drew (wr.heap.size + 1 + 1) V 54) ∧ Hid (Blk (((wr.alloc (.cells X 62)).alloc (.cells U 54)).alloc (.cells V 54)).drew (wr.heap.size + 1) U 54) :=
  ⟨hk.trans (three wr _ _ _).1 (by simp), (three wr _ _ _).2.1, (three wr _ _ _).2.2.2, (three wr _ _ _).2.2.1⟩
theorem leaf2 {w wr : World} (hk : Kept [] w wr) (X V U : Array Value) : Hid (Kept [] w (((wr.alloc (.cells V 54)).alloc (.cells X 62)).alloc (.cells U 54)).drew) ∧ Hid (Blk (((wr.alloc (.cells V 54)).alloc (.cells X 62)).alloc (.cells U 54)).drew (wr.heap.size + 1) X 62) ∧ Hid (Blk (((wr.alloc (.cells V 54)).alloc (.cells X 62)).alloc (.cells U 54)).drew (wr.heap.size) V 54) ∧ Hid (Blk (((wr.alloc (.cells V 54)).alloc (.cells X 62)).alloc (.cells U 54)).drew (wr.heap.size + 1 + 1) U 54) :=
  ⟨hk.trans (three wr _ _ _).1 (by simp), (three wr _ _ _).2.2.1, (three wr _ _ _).2.1, (three wr _ _ _).2.2.2⟩
theorem leaf3 {w wr : World} (hk : Kept [] w wr) (X V U : Array Value) : Hid (Kept [] w (((wr.alloc (.cells V 54)).alloc (.cells U 54)).alloc (.cells X 62)).drew) ∧ Hid (Blk (((wr.alloc (.cells V 54)).alloc (.cells U 54)).alloc (.cells X 62)).drew (wr.heap.size + 1 + 1) X 62) ∧ Hid (Blk (((wr.alloc (.cells V 54)).alloc (.cells U 54)).alloc (.cells X 62)).drew (wr.heap.size) V 54) ∧ Hid (Blk (((wr.alloc (.cells V 54)).alloc (.cells U 54)).alloc (.cells X 62)).drew (wr.heap.size + 1) U 54) :=
  ⟨hk.trans (three wr _ _ _).1 (by simp), (three wr _ _ _).2.2.2, (three wr _ _ _).2.1, (three wr _ _ _).2.2.1⟩
theorem leaf4 {w wr : World} (hk : Kept [] w wr) (X V U : Array Value) : Hid (Kept [] w (((wr.alloc (.cells U 54)).alloc (.cells X 62)).alloc (.cells V 54)).drew) ∧ Hid (Blk (((wr.alloc (.cells U 54)).alloc (.cells X 62)).alloc (.cells V 54)).drew (wr.heap.size + 1) X 62) ∧ Hid (Blk (((wr.alloc (.cells U 54)).alloc (.cells X 62)).alloc (.cells V 54)).drew (wr.heap.size + 1 + 1) V 54) ∧ Hid (Blk (((wr.alloc (.cells U 54)).alloc (.cells X 62)).alloc (.cells V 54)).drew (wr.heap.size) U 54) :=
  ⟨hk.trans (three wr _ _ _).1 (by simp), (three wr _ _ _).2.2.1, (three wr _ _ _).2.2.2, (three wr _ _ _).2.1⟩
theorem leaf5 {w wr : World} (hk : Kept [] w wr) (X V U : Array Value) : Hid (Kept [] w (((wr.alloc (.cells U 54)).alloc (.cells V 54)).alloc (.cells X 62)).drew) ∧ Hid (Blk (((wr.alloc (.cells U 54)).alloc (.cells V 54)).alloc (.cells X 62)).drew (wr.heap.size + 1 + 1) X 62) ∧ Hid (Blk (((wr.alloc (.cells U 54)).alloc (.cells V 54)).alloc (.cells X 62)).drew (wr.heap.size + 1) V 54) ∧ Hid (Blk (((wr.alloc (.cells U 54)).alloc (.cells V 54)).alloc (.cells X 62)).drew (wr.heap.size) U 54) :=
  ⟨hk.trans (three wr _ _ _).1 (by simp), (three wr _ _ _).2.2.2, (three wr _ _ _).2.2.1, (three wr _ _ _).2.1⟩
theorem lent_marks {S : Nat → Prop} {w : World} {b cap TL : Nat} {bs : List Nat} (h : LentIn S w (.slice (some ⟨b, 0, none⟩) TL cap) bs) (hl : bs.length = TL) : w.cell? ⟨b, TL, none⟩ = some (.int .u8 201) ∧ w.cell? ⟨b, TL + 1, none⟩ = some (.int .u8 77) := by
  obtain ⟨b', cap', hv, _, _, _, _, _, _, h7, h8⟩ := h
  cases hv
  exact ⟨h7, h8⟩

def KeptC (r : Row) : Prop := ∀ (S : Nat → Prop) (w : World) (gv fv xv : Value), RowK S w gv fv r → RowP w xv r →
  Calls Try.prog 14 #[gv, fv, xv] w fun e w' => e = .returned (.bool true) ∧ Kept [] w w'

set_option maxRecDepth 100000 in
set_option maxHeartbeats 4000000 in
theorem kept_any (r : Row) : KeptC r := by
  refine Row.parts_ind (fun r hC => ?_) r
  rintro S w gv fv xv ⟨b, cap, c, cap', rfl, h1, h2, h3, h4, h5, rfl, q1, q2, q3, q4, hat⟩ ⟨xa, xcap, rfl, x1, x2, x3⟩
  unfold maxLen at h2 q2 x2
  have hkb := kb
  have H3 := hide x3
  have HC := hide hC
  have HAT := hide hat
  clear x3 hC hat
  generalize hL : r.len = L at *
  have HL := hide hL
  clear hL
  have t0 : L < L + 1 := by omega
  have t0' : (L : Int) < (L : Int) + 1 := by omega
  have t00 : L + 1 ≤ cap := by omega
  have t01 : ((L : Int) + 1) ≤ (cap : Int) := by omega
  have hwr : IntKind.i64.wrap ((L : Int) + 1) = (L : Int) + 1 := by rw [IntKind.wrap_i64]; omega
  go_enter Try.func14, Try.ntmps14
  go_wp2_with fail
  go_loopw [7] (fun i wr => ∃ (k : Nat) (s : Row), i = .int .i64 k ∧ k + s.len = L ∧ PartsOk KeptC s ∧ AtK S w s b (k * 7) c (k * 7) ∧ (s = .nil ∨ ∃ xb off, xa = some ⟨xb, off, none⟩ ∧ xb < w.heap.size ∧ AtP w s xb (off + k * 7)) ∧ Kept [] w wr) (fun i _ => L - (intOf i).toNat)
  case atStart => exact ⟨0, r, rfl, by rw [unhide HL]; omega, unhide HC, by simpa using unhide HAT, by
      rcases unhide H3 with h | ⟨b, off, q1, q2, q3⟩
      · exact Or.inl h
      · exact Or.inr ⟨b, off, q1, q2, by simpa using q3⟩, Kept.refl _ _⟩
  case round =>
    obtain ⟨k, s, rfl, hk, hps, hak, hat, hkp⟩ := hrel
    clear hwr t0 t0' t00 t01 h5
    have HK := hide hkp
    clear hkp
    cases s with
    | nil =>
      simp only [Row.len, Nat.add_zero] at hk
      subst hk
      have t1 : ((k : Int) < (k : Int)) = False := by simp
      go_wp2
      go_ret
      exact ⟨rfl, unhide HK⟩
    | cons h p s =>
      simp only [Row.len] at hk
      obtain ⟨hC1, hC2⟩ := hps
      rw [AtK_cons] at hak
      obtain ⟨⟨hok, tv, pv, qv, hcb, hcc, htx, hrk⟩, hakr⟩ := hak
      rcases hat with hat | ⟨xb, off, hra, hxb, hat⟩
      · cases hat
      subst hra
      rw [AtP_cons] at hat
      obtain ⟨⟨⟨hok2, hpr⟩, xt, xp, hcx, hxt, hxp⟩, hrest⟩ := hat
      have HAT2 : Hid (s = .nil ∨ ∃ b' off', (some ⟨xb, off, none⟩ : Option Addr) = some ⟨b', off', none⟩ ∧ b' < w.heap.size ∧ AtP w s b' (off' + (k + 1) * 7)) := Or.inr ⟨xb, off, rfl, hxb, by rw [show off + (k + 1) * 7 = off + k * 7 + 7 by omega]; exact hrest⟩
      have HAK2 : Hid (AtK S w s b ((k + 1) * 7) c ((k + 1) * 7)) := by unfold Hid; rw [show (k + 1) * 7 = k * 7 + 7 by omega]; exact hakr
      have HC2 := hide hC2
      have HC1 := hide hC1
      have HRK := hide hrk
      have HXP := hide hxp
      have HXT := hide hxt
      have HTX := hide htx
      obtain ⟨b0, b1, b2, b3, b4, b5, b6⟩ := hcb.kept (unhide HK) h3 (by simp)
      obtain ⟨c0, c1, c2, c3, c4, c5, c6⟩ := hcc.kept (unhide HK) q3 (by simp)
      obtain ⟨x0, x1', x2', x3, x4, x5, x6⟩ := hcx.kept (unhide HK) hxb
      obtain ⟨tb, tc, htv, tl1, tl2, -⟩ := htx
      obtain ⟨pb, pc, qb, qc, hpv, -, -, -, -, -, hqv, -⟩ := hrk
      obtain ⟨ya, yc, hxtv, -⟩ := hxt
      obtain ⟨za, zc, hxpv, -⟩ := hxp
      clear hC1 hC2 hakr hrest hcb hcc hcx hok2
      subst htv hpv hqv hxtv hxpv
      obtain ⟨kind, bb, nn, re, prr, im, text⟩ := h
      simp only at *
      subst hpr
      generalize hTL : text.length = TL at *
      generalize hPL : p.len = PL at *
      have HTL := hide hTL
      have HPL := hide hPL
      have HOK := hide hok
      clear hTL hPL hok
      unfold maxLen at tl2
      have t1 : (k : Int) < (L : Int) := by omega
      have hwrN : w.heap.size ≤ wr.heap.size := (unhide HK).size
      have hbW : b < wr.heap.size := by omega
      have hcW : c < wr.heap.size := by omega
      have hxW : xb < wr.heap.size := by omega
      have hb1 : b < wr.heap.size + 1 := by omega
      have hb2 : b < wr.heap.size + 1 + 1 := by omega
      have hb2' : b < wr.heap.size + 2 := by omega
      have hb3 : b < wr.heap.size + 1 + 1 + 1 := by omega
      have hb3' : b < wr.heap.size + 3 := by omega
      have nb0 : ¬ b = wr.heap.size := by omega
      have nb1 : ¬ b = wr.heap.size + 1 := by omega
      have nb2 : ¬ b = wr.heap.size + 1 + 1 := by omega
      have nb2' : ¬ b = wr.heap.size + 2 := by omega
      have hc1 : c < wr.heap.size + 1 := by omega
      have hc2 : c < wr.heap.size + 1 + 1 := by omega
      have hc2' : c < wr.heap.size + 2 := by omega
      have hc3 : c < wr.heap.size + 1 + 1 + 1 := by omega
      have hc3' : c < wr.heap.size + 3 := by omega
      have nc0 : ¬ c = wr.heap.size := by omega
      have nc1 : ¬ c = wr.heap.size + 1 := by omega
      have nc2 : ¬ c = wr.heap.size + 1 + 1 := by omega
      have nc2' : ¬ c = wr.heap.size + 2 := by omega
      have hxb1 : xb < wr.heap.size + 1 := by omega
      have hxb2 : xb < wr.heap.size + 1 + 1 := by omega
      have hxb2' : xb < wr.heap.size + 2 := by omega
      have hxb3 : xb < wr.heap.size + 1 + 1 + 1 := by omega
      have hxb3' : xb < wr.heap.size + 3 := by omega
      have nxb0 : ¬ xb = wr.heap.size := by omega
      have nxb1 : ¬ xb = wr.heap.size + 1 := by omega
      have nxb2 : ¬ xb = wr.heap.size + 1 + 1 := by omega
      have nxb2' : ¬ xb = wr.heap.size + 2 := by omega
      go_wp2_with fail
      go_cut [8, 9, 10] (fun t8 t9 t10 wc => ∃ W xn vn wn, W = wc ∧ t8 = .pointer (some ⟨xn, 0, none⟩) ∧ t9 = .pointer (some ⟨vn, 0, none⟩) ∧ t10 = .pointer (some ⟨wn, 0, none⟩) ∧ Hid (Kept [] w W) ∧ Hid (Blk W xn #[.int .i64 kind, .bool bb, .int .i64 nn, .int .u64 (prr : Int), .int .u64 (im : Int), .slice ya TL yc, .slice za PL zc] 62) ∧ Hid (Blk W vn #[.int .i64 kind, .bool bb, .int .i64 nn, .float .f64 prr, .complex .f64 prr im, .slice (some ⟨tb, 0, none⟩) TL tc, .slice (some ⟨pb, 0, none⟩) PL pc] 54) ∧ Hid (Blk W wn #[.int .i64 kind, .bool bb, .int .i64 nn, .float .f64 prr, .complex .f64 prr im, .slice (some ⟨tb, 0, none⟩) TL tc, .slice (some ⟨qb, 0, none⟩) PL qc] 54))
      case first =>
        have hsf := fun (w : World) (a : Addr) (m : Nat) (md : Mode) => run_store Try.prog w a (.float .f64 m) md rfl
        have hsc := fun (w : World) (a : Addr) (m n : Nat) (md : Mode) => run_store Try.prog w a (.complex .f64 m n) md rfl
        go_region
        all_goals
          go_wp2_with fail
          go_meet
          refine ⟨_, _, _, _, rfl, rfl, rfl, rfl, ?_⟩
          first | with_reducible exact leaf0 (unhide HK) _ _ _ | with_reducible exact leaf1 (unhide HK) _ _ _ | with_reducible exact leaf2 (unhide HK) _ _ _ | with_reducible exact leaf3 (unhide HK) _ _ _ | with_reducible exact leaf4 (unhide HK) _ _ _ | with_reducible exact leaf5 (unhide HK) _ _ _
      case rest =>
        obtain ⟨W, xn, vn, wn, rfl, rfl, rfl, rfl, HKW, HX, HV, HW⟩ := hcut
        clear b0 b1 b2 b3 b4 b5 b6 c0 c1 c2 c3 c4 c5 c6 x0 x1' x2' x3 x4 x5 x6
        have hwW : w.heap.size ≤ W.heap.size := (unhide HKW).size
        obtain ⟨b0, b1, b2, b3, b4, b5, b6⟩ := blk7 (unhide HV)
        obtain ⟨c0, c1, c2, c3, c4, c5, c6⟩ := blk7 (unhide HW)
        obtain ⟨x0, x1', x2', x3, x4, x5, x6⟩ := blk7 (unhide HX)
        have u1 : TL + 2 ≤ tc := by omega
        have u2 : ((TL : Int) + 2) ≤ (tc : Int) := by omega
        have u3 : IntKind.i64.wrap ((TL : Int) + 2) = (TL : Int) + 2 := by rw [IntKind.wrap_i64]; omega
        have u4 : IntKind.i64.wrap ((TL : Int) + 1) = (TL : Int) + 1 := by rw [IntKind.wrap_i64]; omega
        go_wp2_with fail
        go_cut [12] (fun t wc => ∃ W2, W2 = wc ∧ t = .bool true ∧ Hid (Quiet W W2))
        case first =>
          go_region
          all_goals
            go_wp2_with fail
            go_meet
            exact ⟨_, rfl, rfl, (Quiet.refl W).drew⟩
        case rest =>
          obtain ⟨W2, rfl, rfl, HQ⟩ := hcut
          clear b0 b1 b2 b3 b4 b5 b6 c0 c1 c2 c3 c4 c5 c6 x0 x1' x2' x3 x4 x5 x6
          have hq := (unhide HQ).kept
          have HK2 := hide ((unhide HKW).trans hq (by simp))
          have HX2 := hide ((unhide HX).kept hq (by simp))
          have HV2 := hide ((unhide HV).kept hq (by simp))
          have HW2 := hide ((unhide HW).kept hq (by simp))
          clear HX HV HW HQ hq HKW
          have b5 := (blk7 (unhide HV2)).2.2.2.2.2.1
          have x5 := (blk7 (unhide HX2)).2.2.2.2.2.1
          have HSM := hide (fun (V : World) (hk : Kept [] w V) => same_yes (((unhide HTX).sees.1).kept hk (Or.inr (by simp))) ((unhide HXT).kept hk (Or.inr (by simp))))
          have HS1 := hide (unhide HSM _ (unhide HK2))
          have u5 : TL < TL + 2 := by omega
          have u6 : ((TL : Int) < (TL : Int) + 2) := by omega
          have u7 : TL + 1 < TL + 2 := by omega
          have u8 : ((TL : Int) + 1 < (TL : Int) + 2) := by omega
          go_wp2_with (first
            | (go_at_call 15; refine (unhide HS1).mono ?_; rintro e w3 ⟨rfl, hk3⟩; have HK3 := hide ((unhide HK2).trans hk3 (by simp)); have HX3 := hide ((unhide HX2).kept hk3 (by simp)); have HV3 := hide ((unhide HV2).kept hk3 (by simp)); have HW3 := hide ((unhide HW2).kept hk3 (by simp)); have c5 := (blk7 (unhide HW3)).2.2.2.2.2.1; have x5' := (blk7 (unhide HX3)).2.2.2.2.2.1; have HS2 := hide (unhide HSM _ (unhide HK3)); clear hk3 HS1 HX2 HV2 HW2 b5 x5)
            | (go_at_call 15; refine (unhide HS2).mono ?_; rintro e w4 ⟨rfl, hk4⟩; have HK4 := hide ((unhide HK3).trans hk4 (by simp)); obtain ⟨x0, x1', x2', x3, x4, x5, x6⟩ := blk7 ((unhide HX3).kept hk4 (by simp)); obtain ⟨b0, b1, b2, b3, b4, b5, b6⟩ := blk7 ((unhide HV3).kept hk4 (by simp)); have c6 := (blk7 ((unhide HW3).kept hk4 (by simp))).2.2.2.2.2.2; obtain ⟨m1, m2⟩ := lent_marks ((unhide HTX).kept (unhide HK4) (by simp)) (unhide HTL); have HC4 := hide (unhide HC1 S w4 _ _ _ ((unhide HRK).kept (unhide HK4) (by simp)) ((unhide HXP).kept (unhide HK4))); clear hk4 HS2 HX3 HV3 HW3 c5 x5')
            | (go_at_call 14; refine (unhide HC4).mono ?_; rintro e w5 ⟨rfl, hk5⟩; have HK5 := hide ((unhide HK4).trans hk5 (by simp)); clear hk5 HC4))
          exact ⟨⟨k + 1, s, by simp, by omega, unhide HC2, unhide HAK2, unhide HAT2, unhide HK5⟩, by simp [intOf]; omega⟩
end Go.Proofs.Ytigmofbammofbaa
