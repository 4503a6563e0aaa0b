/- Add. -/
import Derived.Test.YtgiifedljebclaaDSk
import Derived.BigRegion
import Derived.Deep.DeepCutAuto
namespace Go.Proofs.Ytgiifedljebclaa.flo
open Go.RowKit

set_option maxHeartbeats 2000000 in
set_option maxRecDepth 100000 in
theorem add_any {w : World} {b inv n : Nat} {es : List (En Nat)} {v : Value} (hs : Sk w b inv n es v) (hf : Fit gtV n es) (h2 : 2 ≤ inv) (hi : inv ≤ 1024) (hn : n < 549755813888) (x : Nat) :
    Calls Try.prog 27 #[.pointer (some ⟨b, 0, none⟩), (.float .f64 x)] w fun e w' => e = .returned (.int .i64 0) ∧ ∃ v', Sk w' b inv (n + 1) (stepE gtV inv n es x) v' ∧ Kept (b :: v.ownBlock.toList) w w' ∧ (v'.ownBlock = v.ownBlock ∨ ∃ k, v'.ownBlock = some k ∧ w.heap.size ≤ k) := by
  have hlen := hf.len
  have HS := hide hs
  have HF := hide hf
  have HP := hide (place_any hs.row hf.rise (by omega) x)
  have c0 := hs.blk.cell 0
  have c1 := hs.blk.cell 1
  have c2 := hs.blk.cell 2
  simp at c0 c1 c2
  clear hs hf
  go_enter Try.func27, Try.ntmps27
  go_wp2_with (first | (go_at_call 51; refine (unhide HP).mono ?_; rintro e w3 ⟨rfl, hq⟩; clear HP))
  have hpl := plc_le gtV es x
  refine world_at (R := fun W => Sk W b inv n es v ∧ Kept [] w W) ⟨(unhide HS).keep hq (by simp) (by simp), hq⟩ ?_
  clear c0 c1 c2 hq
  rintro W ⟨hs, hk⟩
  have HS1 := hide hs
  have HK1 := hide hk
  have hww : ∀ e ∈ es, 1 ≤ e.g ∧ e.wd ≤ 1099511627776 := fun e he => by have := (unhide HF).wd he; omega
  have HG := hide (fun (W' : World) (hk' : Kept [] W W') => gapAt_any (own_kept hs.row hk' (by simp)) hpl hww)
  have HAD : Hid (addE gtV es x = insE es (plc gtV es x) ⟨x, 1, gapO es (plc gtV es x)⟩) := rfl
  have hgp : gapO es (plc gtV es x) ≤ 1099511627776 := by
    unfold gapO
    split
    · omega
    · cases hj : es[plc gtV es x]? with
      | none => simp
      | some e => have := hww e (List.mem_of_getElem? hj); simp; omega
  have HI : Hid (∀ (W' : World), Kept [] W W' → Calls Try.prog 52 #[v, .int .i64 (plc gtV es x : Nat), .slice (some ⟨W'.heap.size, 0, none⟩) 1 1] (W'.alloc (.cells #[(.float .f64 x), .int .i64 1, .int .i64 (gapO es (plc gtV es x) : Nat)] 93)) fun e w' =>
      ∃ a cp, e = .returned (.slice a (es.length + 1) cp) ∧ w'.ownsRow 0 93 3 (.slice a (es.length + 1) cp) (es.length + 1) (flatE (addE gtV es x)) ∧ Kept v.ownBlock.toList W w' ∧ ((Value.slice a (es.length + 1) cp).ownBlock = v.ownBlock ∨ ∃ k, (Value.slice a (es.length + 1) cp).ownBlock = some k ∧ W.heap.size ≤ k)) := by
    intro W' hk'
    have ho := own_kept hs.row hk' (by simp)
    have hnew := Blk.new W' #[(.float .f64 x), .int .i64 1, .int .i64 (gapO es (plc gtV es x) : Nat)] 93
    refine (insert_any (e := ⟨x, 1, gapO es (plc gtV es x)⟩) (ho.alloc _) hnew (fun e => by have := (ho.lt _ e).2; omega) (fun j u hj => ?_) hpl (by omega)).mono ?_
    · rw [hnew.cell]
      simpa [ecells] using hj
    · rintro e w' ⟨v', rfl, h1, h3, h4⟩
      obtain ⟨a, cp, rfl⟩ := own_len h1
      refine ⟨a, cp, rfl, h1, (hk'.alloc _).mono (by simp) |>.trans h3 (by intro x hx; exact Or.inl hx), ?_⟩
      rcases h4 with h4 | h4
      · exact Or.inl h4
      · exact Or.inr ⟨_, h4, by have := hk'.size; simp; omega⟩
  obtain ⟨va, vc, rfl⟩ := own_len hs.row
  have c0 := hs.blk.cell 0
  have c1 := hs.blk.cell 1
  have c2 := hs.blk.cell 2
  simp at c0 c1 c2
  have f0 := hs.blk.frozen
  have hbw := hs.blk.lt
  have hbn : b ∉ (Value.slice va es.length vc).ownBlock.toList := by
    have := hs.apart hs.blk
    simpa using this
  have HBN := hide hbn
  clear hs hk hbn
  generalize hq : plc gtV es x = q at *
  generalize hgg : gapO es q = gp at *
  generalize hLL : es.length = L at *
  have HEQ := hide (show plc gtV es x = q ∧ gapO es q = gp ∧ es.length = L from ⟨hq, hgg, hLL⟩)
  clear hq hgg hLL hww
  go_wp2_with fail
  go_cut [29] (fun t wc => ∃ W2 a5 cp5, W2 = wc ∧ t = .slice a5 (L + 1) cp5 ∧ Sk W2 b inv n (addE gtV es x) (.slice a5 (L + 1) cp5) ∧ Kept (b :: (Value.slice va L vc).ownBlock.toList) w W2 ∧ Hid ((Value.slice a5 (L + 1) cp5).ownBlock = (Value.slice va L vc).ownBlock ∨ ∃ k, (Value.slice a5 (L + 1) cp5).ownBlock = some k ∧ w.heap.size ≤ k))
  case first =>
    go_region_with (first
      | (go_at_call 53; refine (unhide HG _ ((Kept.refl [] W).drew)).mono ?_; rintro e w4 ⟨rfl, hk4⟩; have c24 := (hk4.cell (p := ⟨b, 2, none⟩) hbw (by simp)).trans c2; have c24a := fun o => (((Kept.refl [] w4).alloc o).cell (p := ⟨b, 2, none⟩) (Nat.lt_of_lt_of_le hbw hk4.size) (by simp)).trans c24; clear HG)
      | (go_at_call 52; refine (unhide HI _ ((Kept.refl [] W).drew.trans hk4 (by simp))).mono ?_; rintro e w5 ⟨a5, cp5, rfl, ho5, hk5, hb5⟩; have c25 := (hk5.cell (p := ⟨b, 2, none⟩) hbw (unhide HBN)).trans c2; have f25 := (hk5.frozen (p := ⟨b, 2, none⟩) hbw (unhide HBN)).trans (f0 2); have HO5 := hide ho5; have HK5 := hide hk5; have HB5 := hide hb5; clear HI ho5 hk5 hb5))
    all_goals (
      have hs5 : Sk (w5.setCell ⟨b, 2, none⟩ (.slice a5 (L + 1) cp5)) b inv n (addE gtV es x) (.slice a5 (L + 1) cp5) := by
        have hbl := (unhide HS1).blk.kept (unhide HK5) (unhide HBN)
        have hlen1 : (addE gtV es x).length = L + 1 := by rw [addE_len, (unhide HEQ).2.2]
        have hne : (Value.slice a5 (L + 1) cp5).ownBlock ≠ some b := by
          intro e
          have : Sk w5 b inv n (addE gtV es x) (.slice a5 (L + 1) cp5) ∨ True := Or.inr trivial
          rcases (unhide HO5).2 with ⟨h1, _⟩ | ⟨g, cap, cur, hv, _, hg, _⟩
          · rw [h1] at e; cases e
          · rw [hv] at e; cases e
            exact absurd (blk_type hg hbl) (by decide)
        refine ⟨by have := hbl.set 2 (.slice a5 (L + 1) cp5); simpa using this, ?_⟩
        rw [hlen1]
        exact own_kept (F := [b]) (unhide HO5) ((Kept.refl [b] w5).setCell (p := ⟨b, 2, none⟩) (Or.inl (by simp)) _) (fun k hk hm => by simp at hm; subst hm; exact hne hk)
      have hk5' : Kept (b :: (Value.slice va L vc).ownBlock.toList) w (w5.setCell ⟨b, 2, none⟩ (.slice a5 (L + 1) cp5)) := 
        (((unhide HK1).mono (by simp)).trans (unhide HK5) (fun x hx => Or.inl (List.mem_cons_of_mem _ hx))).setCell (Or.inl (by simp)) _
      have HV5 : Hid ((Value.slice a5 (L + 1) cp5).ownBlock = (Value.slice va L vc).ownBlock ∨ ∃ k, (Value.slice a5 (L + 1) cp5).ownBlock = some k ∧ w.heap.size ≤ k) := by
        rcases unhide HB5 with h | ⟨k, h1, h3⟩
        · exact Or.inl h
        · exact Or.inr ⟨k, h1, Nat.le_trans (unhide HK1).size h3⟩
      go_wp2_with fail
      go_meet
      exact ⟨_, a5, cp5, rfl, rfl, hs5, hk5', HV5⟩)
  case rest =>
    obtain ⟨W2, a5, cp5, rfl, rfl, hs2, hk2, HV5⟩ := hcut
    clear c0 c1 c2 f0
    have HS2 := hide hs2
    have HK2 := hide hk2
    have c0 := hs2.blk.cell 0
    have c1 := hs2.blk.cell 1
    have c2 := hs2.blk.cell 2
    simp at c0 c1 c2
    have f1 := hs2.blk.frozen 1
    have hs3 : Sk (W2.setCell ⟨b, 1, none⟩ (.int .i64 ((n : Int) + 1))) b inv (n + 1) (addE gtV es x) (.slice a5 (L + 1) cp5) :=
      ⟨by have := hs2.blk.set 1 (.int .i64 ((n : Int) + 1)); simpa using this, own_kept (F := [b]) hs2.row ((Kept.refl [b] W2).setCell (p := ⟨b, 1, none⟩) (Or.inl (by simp)) _) (fun k hk hm => by simp at hm; subst hm; exact hs2.apart hs2.blk hk)⟩
    have HS3 := hide hs3
    have HK3 := hide (hk2.setCell (p := ⟨b, 1, none⟩) (Or.inl (by simp)) (.int .i64 ((n : Int) + 1)))
    have HDU := hide (due_any hs3.blk h2 hi (by omega))
    clear hs2 hk2 hs3
    have hn1 : n + 1 ≤ 549755813888 := by omega
    by_cases hdue : (n + 1) % (inv / 2) = 0
    · rw [decide_eq_true hdue] at HDU
      have HST : Hid (stepE gtV inv n es x = press (2 * (n + 1) / inv) (addE gtV es x)) := if_pos hdue
      clear hdue
      go_wp2_with (first | (go_at_call 54; refine (unhide HDU).mono ?_; rintro e w6 ⟨rfl, hq6⟩; clear HDU))
      refine world_at (R := fun W3 => Sk W3 b inv (n + 1) (addE gtV es x) (.slice a5 (L + 1) cp5) ∧ Kept (b :: (Value.slice va L vc).ownBlock.toList) w W3) ⟨(unhide HS3).keep hq6.kept (by simp) (by simp), (unhide HK3).trans hq6.kept (by simp)⟩ ?_
      clear c0 c1 c2 f1 HS2 HK2 HS3 HK3 hq6
      rintro W3 ⟨hs3, hk3⟩
      have c0 := hs3.blk.cell 0
      have c1 := hs3.blk.cell 1
      have c2 := hs3.blk.cell 2
      simp at c0 c1 c2
      have f2 := hs3.blk.frozen 2
      have hbw3 := hs3.blk.lt
      have hfit := fit_add behindV (unhide HF) x
      have hlen1 : (addE gtV es x).length = L + 1 := by rw [addE_len, (unhide HEQ).2.2]
      have hbd : 2 * (n + 1) / inv ≤ 1099511627776 := Nat.le_trans (Nat.div_le_self _ _) (by omega)
      have HPR : Hid (∀ W', Kept [] W3 W' → Calls Try.prog 55 #[.slice a5 (L + 1) cp5, .int .i64 (2 * ((n : Int) + 1) / (inv : Int))] W' fun e w' => ∃ a cp m, e = .returned (.slice a m cp) ∧ (press (2 * (n + 1) / inv) (addE gtV es x)).length = m ∧ w'.ownsRow 0 93 3 (.slice a m cp) m (flatE (press (2 * (n + 1) / inv) (addE gtV es x))) ∧ Kept (Value.slice a5 (L + 1) cp5).ownBlock.toList W' w' ∧ (Value.slice a m cp).ownBlock = (Value.slice a5 (L + 1) cp5).ownBlock) := by
        intro W' hk'
        rw [show 2 * ((n : Int) + 1) / (inv : Int) = ((2 * (n + 1) / inv : Nat) : Int) by simp]
        refine (press_any (own_kept hs3.row hk' (by simp)) (by omega) hbd (fun e he => by have := hfit.wd he; omega)).mono ?_
        rintro e w' ⟨v', rfl, h1, h3, h4⟩
        obtain ⟨a, cp, rfl⟩ := own_len h1
        exact ⟨a, cp, _, rfl, rfl, h1, h3, h4⟩
      have HBN3 : Hid (b ∉ (Value.slice a5 (L + 1) cp5).ownBlock.toList) := by
        have := hs3.apart hs3.blk
        exact (show b ∉ (Value.slice a5 (L + 1) cp5).ownBlock.toList by simpa using this)
      have HS3 := hide hs3
      have HK3 := hide hk3
      have ht1 : IntKind.i64.wrap (2 * ((n : Int) + 1)) = 2 * ((n : Int) + 1) := by rw [IntKind.wrap_i64]; omega
      have ht2 : IntKind.i64.wrap (2 * ((n : Int) + 1) / (inv : Int)) = 2 * ((n : Int) + 1) / (inv : Int) := by
        rw [show 2 * ((n : Int) + 1) / (inv : Int) = ((2 * (n + 1) / inv : Nat) : Int) by simp, IntKind.wrap_i64]
        generalize 2 * (n + 1) / inv = y at hbd ⊢
        omega
      have ht3 : ((inv : Int) == 0) = false := by simp; omega
      clear hs3 hk3 hfit hlen1 hbd
      go_region_with (first
        | (go_at_call 55; refine (unhide HPR _ ((Kept.refl [] W3).drew)).mono ?_; rintro e w7 ⟨a7, cp7, m7, rfl, hm7, ho7, hk7, hb7⟩; have c27 := (hk7.cell (p := ⟨b, 2, none⟩) hbw3 (unhide HBN3)).trans c2; have f27 := (hk7.frozen (p := ⟨b, 2, none⟩) hbw3 (unhide HBN3)).trans f2; have HM7 := hide hm7; have HO7 := hide ho7; have HK7 := hide hk7; have HB7 := hide hb7; clear HPR ho7 hk7 hb7 hm7))
      all_goals go_wp2
      all_goals go_ret
      all_goals (
        simp only [(unhide HEQ).2.2]
        have hK7 : Kept (Value.slice a5 (L + 1) cp5).ownBlock.toList W3 w7 := ((Kept.refl [] W3).drew.mono (by simp)).trans (unhide HK7) (fun x hx => Or.inl hx)
        have hbl := (unhide HS3).blk.kept hK7 (unhide HBN3)
        have hne : (Value.slice a7 m7 cp7).ownBlock ≠ some b := by
          rw [unhide HB7]
          exact (unhide HS3).apart (unhide HS3).blk
        refine ⟨rfl, .slice a7 m7 cp7, ?_, ?_, ?_⟩
        · rw [unhide HST]
          refine ⟨by have := hbl.set 2 (.slice a7 m7 cp7); simpa using this, ?_⟩
          rw [unhide HM7]
          exact own_kept (F := [b]) (unhide HO7) ((Kept.refl [b] w7).setCell (p := ⟨b, 2, none⟩) (Or.inl (by simp)) _) (fun k hk hm => by simp at hm; subst hm; exact hne hk)
        · refine ((unhide HK3).trans hK7 (fun x hx => ?_)).setCell (Or.inl (by simp)) _
          rcases unhide HV5 with h | ⟨k, h1, h3⟩
          · rw [h] at hx; exact Or.inl (List.mem_cons_of_mem _ hx)
          · rw [h1] at hx; simp at hx; subst hx; exact Or.inr h3
        · rw [unhide HB7]; exact unhide HV5)
    · rw [decide_eq_false hdue] at HDU
      have HST : Hid (stepE gtV inv n es x = addE gtV es x) := if_neg hdue
      clear hdue
      go_wp2_with (first | (go_at_call 54; refine (unhide HDU).mono ?_; rintro e w6 ⟨rfl, hq6⟩; clear HDU))
      go_ret
      simp only [(unhide HEQ).2.2]
      refine ⟨rfl, _, ?_, (unhide HK3).trans hq6.kept (by simp), unhide HV5⟩
      rw [unhide HST]
      exact (unhide HS3).keep hq6.kept (by simp) (by simp)
end Go.Proofs.Ytgiifedljebclaa.flo
