/- told: a row that was answered is this one. -/
import Derived.Test.YtigmofbammofbabKLent
import Derived.BigRegion
import Derived.Deep.DeepCutAuto
namespace Go.Proofs.Ytigmofbammofbab
open Go.RowKit

def toldH (h x : Hd) : Prop := x.kind = h.kind ∧ x.b = h.b ∧ x.n = h.n ∧ x.text = h.text ∧ h.re = (if x.kind = 4 then x.re else 0) ∧ h.pr = (if x.kind = 5 then x.re else 0) ∧ h.im = (if x.kind = 5 then x.im else 0)
def toldR : Row → Row → Prop
  | .nil, .nil => True
  | .cons h p r, .cons x q s => toldH h x ∧ toldR p q ∧ toldR r s
  | _, _ => False
theorem toldR_len (r : Row) : ∀ s, toldR r s → r.len = s.len := by
  induction r with
  | nil => intro s h; cases s with
    | nil => rfl
    | cons x q s => cases h
  | cons h p r _ ihr => intro s hs; cases s with
    | nil => cases hs
    | cons x q s => simp only [Row.len]; rw [ihr s hs.2.2]

theorem pair (w : World) (A B : Obj) : Kept [] w ((w.alloc A).alloc B).drew ∧ ((w.alloc A).alloc B).drew.heap[w.heap.size]? = some A ∧ ((w.alloc A).alloc B).drew.heap[w.heap.size + 1]? = some B := by
  refine ⟨(((Kept.refl [] w).alloc A).alloc B).drew, ?_, ?_⟩
  · show ((w.alloc A).alloc B).heap[w.heap.size]? = some A
    exact (Below.heap_alloc _ _ _ (by simp)).trans (heap_alloc_new w A)
  · show ((w.alloc A).alloc B).heap[w.heap.size + 1]? = some B
    have e : w.heap.size + 1 = (w.alloc A).heap.size := by simp
    rw [e]
    exact heap_alloc_new _ B
theorem pairA {w wr : World} (hk : Kept [] w wr) (X V : Array Value) : Hid (Kept [] w ((wr.alloc (.cells X 62)).alloc (.cells V 48)).drew) ∧ Hid (Blk ((wr.alloc (.cells X 62)).alloc (.cells V 48)).drew wr.heap.size X 62) ∧ Hid (Blk ((wr.alloc (.cells X 62)).alloc (.cells V 48)).drew (wr.heap.size + 1) V 48) :=
  ⟨hk.trans (pair wr _ _).1 (by simp), (pair wr _ _).2.1, (pair wr _ _).2.2⟩
theorem pairB {w wr : World} (hk : Kept [] w wr) (X V : Array Value) : Hid (Kept [] w ((wr.alloc (.cells V 48)).alloc (.cells X 62)).drew) ∧ Hid (Blk ((wr.alloc (.cells V 48)).alloc (.cells X 62)).drew (wr.heap.size + 1) X 62) ∧ Hid (Blk ((wr.alloc (.cells V 48)).alloc (.cells X 62)).drew wr.heap.size V 48) :=
  ⟨hk.trans (pair wr _ _).1 (by simp), (pair wr _ _).2.2, (pair wr _ _).2.1⟩

def ToldC (r : Row) : Prop := ∀ (q : Row) (S : Nat → Prop) (w : World) (gv xv : Value), RowV S w gv r → RowP w xv q → toldR r q →
  Calls Try.prog 13 #[gv, xv] w fun e w' => e = .returned (.bool true) ∧ Kept [] w w'

set_option maxRecDepth 100000 in
set_option maxHeartbeats 4000000 in
theorem told_any (r : Row) : ToldC r := by
  refine Row.parts_ind (fun r hC => ?_) r
  rintro q S w gv xv ⟨ga, gcap, rfl, g1, g2, g3⟩ ⟨xa, xcap, rfl, x1, x2, x3⟩ htold
  have hlen := toldR_len r q htold
  unfold maxLen at g2 x2
  have hkb := kb
  have G3 := hide g3
  have X3 := hide x3
  have HC := hide hC
  have HTD := hide htold
  clear g3 x3 hC htold
  rw [← hlen] at x1 ⊢
  generalize hL : r.len = L at *
  have HL := hide hL
  clear hL
  have HL2 := hide hlen
  clear hlen
  go_enter Try.func13, Try.ntmps13
  go_wp2_with fail
  go_loopw [5] (fun i wr => ∃ (k : Nat) (s u : Row), i = .int .i64 k ∧ k + s.len = L ∧ toldR s u ∧ PartsOk ToldC s ∧ (s = .nil ∨ ∃ b off, ga = some ⟨b, off, none⟩ ∧ b < w.heap.size ∧ S b ∧ AtV S w s b (off + k * 7)) ∧ (u = .nil ∨ ∃ b off, xa = some ⟨b, off, none⟩ ∧ b < w.heap.size ∧ AtP w u b (off + k * 7)) ∧ Kept [] w wr) (fun i _ => L - (intOf i).toNat)
  case atStart => exact ⟨0, r, q, rfl, by rw [unhide HL]; omega, unhide HTD, unhide HC, by
      rcases unhide G3 with h | ⟨b, off, q1, q2, q3, q4⟩
      · exact Or.inl h
      · exact Or.inr ⟨b, off, q1, q2, q3, by simpa using q4⟩, by
      rcases unhide X3 with h | ⟨b, off, q1, q2, q3⟩
      · exact Or.inl h
      · exact Or.inr ⟨b, off, q1, q2, by simpa using q3⟩, Kept.refl _ _⟩
  case round =>
    obtain ⟨k, s, u, rfl, hk, htd, hps, hat, hxt, hkp⟩ := hrel
    have HK := hide hkp
    clear hkp
    cases s with
    | nil =>
      simp only [Row.len, Nat.add_zero] at hk
      subst hk
      have t1 : ((k : Int) < (k : Int)) = False := by simp
      go_wp2
      go_ret
      exact ⟨rfl, unhide HK⟩
    | cons h p s =>
      cases u with
      | nil => cases htd
      | cons x q' u =>
      obtain ⟨hth, htp, htr⟩ := htd
      simp only [Row.len] at hk
      obtain ⟨hC1, hC2⟩ := hps
      rcases hat with hat | ⟨b, goff, hga, hb, hSb, hat⟩
      · cases hat
      subst hga
      rw [AtV_cons] at hat
      obtain ⟨⟨hok, tv, pv, hcv, htv, hpv⟩, hrest⟩ := hat
      rcases hxt with hxt | ⟨xb, xoff, hxa, hxb, hxt⟩
      · cases hxt
      subst hxa
      rw [AtP_cons] at hxt
      obtain ⟨⟨⟨hok2, hpr⟩, yv, zv, hcx, hyv, hzv⟩, hrestx⟩ := hxt
      have HAT2 : Hid (s = .nil ∨ ∃ b' off', (some ⟨b, goff, none⟩ : Option Addr) = some ⟨b', off', none⟩ ∧ b' < w.heap.size ∧ S b' ∧ AtV S w s b' (off' + (k + 1) * 7)) := Or.inr ⟨b, goff, rfl, hb, hSb, by rw [show goff + (k + 1) * 7 = goff + k * 7 + 7 by omega]; exact hrest⟩
      have HXT2 : Hid (u = .nil ∨ ∃ b' off', (some ⟨xb, xoff, none⟩ : Option Addr) = some ⟨b', off', none⟩ ∧ b' < w.heap.size ∧ AtP w u b' (off' + (k + 1) * 7)) := Or.inr ⟨xb, xoff, rfl, hxb, by rw [show xoff + (k + 1) * 7 = xoff + k * 7 + 7 by omega]; exact hrestx⟩
      have HC2 := hide hC2
      have HTR := hide htr
      obtain ⟨b0, b1, b2, b3, b4, b5, b6⟩ := hcv.kept (unhide HK) hb (by simp)
      obtain ⟨y0, y1, y2, y3, y4, y5, y6⟩ := hcx.kept (unhide HK) hxb
      have hlt := toldR_len p q' htp
      obtain ⟨e1, e2, e3, e4, e5, e6, e7⟩ := hth
      have HSM := hide (fun (V : World) (hk : Kept [] w V) => same_yes (htv.1.kept hk (Or.inr (by simp))) (by have := hyv.kept hk (Or.inr (by simp)); rw [e4] at this; exact this))
      have HCC := hide (fun (V : World) (hk : Kept [] w V) => hC1 q' S V pv zv (hpv.kept hk (by simp)) (hzv.kept hk) htp)
      obtain ⟨⟨ta, tc, htv1, -⟩, -⟩ := htv
      obtain ⟨pa, pc, hpv1, -⟩ := hpv
      obtain ⟨ya, yc, hyv1, -⟩ := hyv
      obtain ⟨za, zc, hzv1, -⟩ := hzv
      rw [← hlt] at hzv1
      rw [e4] at hyv1
      clear hC1 hC2 hrest hrestx hcv hcx hok hok2 htp htr hpr hlt
      subst htv1 hpv1 hyv1 hzv1
      obtain ⟨kind, bb, nn, re, prr, im, text⟩ := h
      obtain ⟨kind2, bb2, nn2, re2, prr2, im2, text2⟩ := x
      simp only at e1 e2 e3 e4 e5 e6 e7
      subst e1 e2 e3 e4
      simp only at *
      generalize text2.length = TL at *
      generalize p.len = PL at *
      have t1 : (k : Int) < (L : Int) := by omega
      have hwrN : w.heap.size ≤ wr.heap.size := (unhide HK).size
      have hbW : b < wr.heap.size := by omega
      have hxW : xb < wr.heap.size := by omega
      have hbW1 : b < wr.heap.size + 1 := by omega
      have hxW1 : xb < wr.heap.size + 1 := by omega
      have hbW2 : b < wr.heap.size + 1 + 1 := by omega
      have hxW2 : xb < wr.heap.size + 1 + 1 := by omega
      have hbW2' : b < wr.heap.size + 2 := by omega
      have hxW2' : xb < wr.heap.size + 2 := by omega
      have nb0 : ¬ b = wr.heap.size := by omega
      have nx0 : ¬ xb = wr.heap.size := by omega
      have nb1 : ¬ b = wr.heap.size + 1 := by omega
      have nx1 : ¬ xb = wr.heap.size + 1 := by omega
      have HE5 := hide e5
      have HE6 := hide e6
      have HE7 := hide e7
      clear e5 e6 e7
      go_wp2_with fail
      go_cut [6, 7] (fun t6 t7 wc => ∃ W xn vn, W = wc ∧ t6 = .pointer (some ⟨xn, 0, none⟩) ∧ t7 = .pointer (some ⟨vn, 0, none⟩) ∧ Hid (Kept [] w W) ∧ Hid (Blk W xn #[.int .i64 kind2, .bool bb2, .int .i64 nn2, .int .u64 (re2 : Int), .int .u64 (im2 : Int), .slice ya TL yc, .slice za PL zc] 62) ∧ Hid (Blk W vn #[.int .i64 kind2, .bool bb2, .int .i64 nn2, .float .f64 re, .complex .f64 prr im, .slice ta TL tc, .slice pa PL pc] 48))
      case first =>
        have hsf := fun (w : World) (a : Addr) (m : Nat) (md : Mode) => run_store Try.prog w a (.float .f64 m) md rfl
        have hsc := fun (w : World) (a : Addr) (m n : Nat) (md : Mode) => run_store Try.prog w a (.complex .f64 m n) md rfl
        go_region
        all_goals
          go_wp2_with fail
          go_meet
          refine ⟨_, _, _, rfl, rfl, rfl, ?_⟩
          first | with_reducible exact pairA (unhide HK) _ _ | with_reducible exact pairB (unhide HK) _ _
      case rest =>
        obtain ⟨W, xn, vn, rfl, rfl, rfl, HKW, HX, HV⟩ := hcut
        clear b0 b1 b2 b3 b4 b5 b6 y0 y1 y2 y3 y4 y5 y6 nb0 nb1 nx0 nx1 hbW hbW1 hbW2 hbW2' hxW hxW1 hxW2 hxW2' hwrN
        obtain ⟨b0, b1, b2, b3, b4, b5, b6⟩ := blk7 (unhide HV)
        obtain ⟨y0, y1, y2, y3, y4, y5, y6⟩ := blk7 (unhide HX)
        by_cases hk4 : kind2 = 4
        · subst hk4
          have e5 : re = re2 := unhide HE5
          have e6 : prr = 0 := unhide HE6
          have e7 : im = 0 := unhide HE7
          subst e5 e6 e7
          have HS1 := hide (unhide HSM _ (unhide HKW))
          go_wp2_with (first
            | (go_at_call 15; refine (unhide HS1).mono ?_; rintro e w3 ⟨rfl, hk3⟩; have HK3 := hide ((unhide HKW).trans hk3 (by simp)); have d6 := (blk7 ((unhide HV).kept hk3 (by simp))).2.2.2.2.2.2; have f6 := (blk7 ((unhide HX).kept hk3 (by simp))).2.2.2.2.2.2; have HC3 := hide (unhide HCC _ (unhide HK3)); clear hk3 HS1)
            | (go_at_call 13; refine (unhide HC3).mono ?_; rintro e w4 ⟨rfl, hk4'⟩; have HK4 := hide ((unhide HK3).trans hk4' (by simp)); clear hk4' HC3))
          exact ⟨⟨k + 1, s, u, by simp, by omega, unhide HTR, unhide HC2, unhide HAT2, unhide HXT2, unhide HK4⟩, by simp [intOf]; omega⟩
        by_cases hk5 : kind2 = 5
        · subst hk5
          have e5 : re = 0 := unhide HE5
          have e6 : prr = re2 := unhide HE6
          have e7 : im = im2 := unhide HE7
          subst e5 e6 e7
          go_wp2_with fail
          go_cut [9, 10] (fun t9 t10 wc => ∃ W2, W2 = wc ∧ t9 = .int .u64 (prr : Int) ∧ t10 = .int .u64 (im : Int) ∧ Hid (Quiet W W2))
          case first =>
            go_region
            all_goals
              go_wp2_with fail
              go_meet
              exact ⟨_, rfl, rfl, rfl, (Quiet.refl W).drew⟩
          case rest =>
            obtain ⟨W2, rfl, rfl, rfl, HQ⟩ := hcut
            have hq := (unhide HQ).kept
            have HK2 := hide ((unhide HKW).trans hq (by simp))
            have HX2 := hide ((unhide HX).kept hq (by simp))
            have HV2 := hide ((unhide HV).kept hq (by simp))
            clear b0 b1 b2 b3 b4 b5 b6 y0 y1 y2 y3 y4 y5 y6 hq
            obtain ⟨b0, b1, b2, b3, b4, b5, b6⟩ := blk7 (unhide HV2)
            obtain ⟨y0, y1, y2, y3, y4, y5, y6⟩ := blk7 (unhide HX2)
            have HS1 := hide (unhide HSM _ (unhide HK2))
            go_wp2_with (first
              | (go_at_call 15; refine (unhide HS1).mono ?_; rintro e w3 ⟨rfl, hk3⟩; have HK3 := hide ((unhide HK2).trans hk3 (by simp)); have d6 := (blk7 ((unhide HV2).kept hk3 (by simp))).2.2.2.2.2.2; have f6 := (blk7 ((unhide HX2).kept hk3 (by simp))).2.2.2.2.2.2; have HC3 := hide (unhide HCC _ (unhide HK3)); clear hk3 HS1)
              | (go_at_call 13; refine (unhide HC3).mono ?_; rintro e w4 ⟨rfl, hk4'⟩; have HK4 := hide ((unhide HK3).trans hk4' (by simp)); clear hk4' HC3))
            exact ⟨⟨k + 1, s, u, by simp, by omega, unhide HTR, unhide HC2, unhide HAT2, unhide HXT2, unhide HK4⟩, by simp [intOf]; omega⟩
        · have e5 : re = 0 := by have := unhide HE5; rw [if_neg hk4] at this; exact this
          have e6 : prr = 0 := by have := unhide HE6; rw [if_neg hk5] at this; exact this
          have e7 : im = 0 := by have := unhide HE7; rw [if_neg hk5] at this; exact this
          subst e5 e6 e7
          have t4 : (kind2 == 4) = false := by simpa using hk4
          have t5 : (kind2 == 5) = false := by simpa using hk5
          have HS1 := hide (unhide HSM _ (unhide HKW))
          go_wp2_with (first
            | (go_at_call 15; refine (unhide HS1).mono ?_; rintro e w3 ⟨rfl, hk3⟩; have HK3 := hide ((unhide HKW).trans hk3 (by simp)); have d6 := (blk7 ((unhide HV).kept hk3 (by simp))).2.2.2.2.2.2; have f6 := (blk7 ((unhide HX).kept hk3 (by simp))).2.2.2.2.2.2; have HC3 := hide (unhide HCC _ (unhide HK3)); clear hk3 HS1)
            | (go_at_call 13; refine (unhide HC3).mono ?_; rintro e w4 ⟨rfl, hk4'⟩; have HK4 := hide ((unhide HK3).trans hk4' (by simp)); clear hk4' HC3))
          exact ⟨⟨k + 1, s, u, by simp, by omega, unhide HTR, unhide HC2, unhide HAT2, unhide HXT2, unhide HK4⟩, by simp [intOf]; omega⟩
end Go.Proofs.Ytigmofbammofbab
