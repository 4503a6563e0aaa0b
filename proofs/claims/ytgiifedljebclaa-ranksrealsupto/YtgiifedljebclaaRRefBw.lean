/- The document's Below. -/
import Derived.Test.YtgiifedljebclaaRRefQ
import Derived.Deep.RegionHeld3
import Derived.BigRegion
namespace Go.Proofs.Ytgiifedljebclaa.ref
open Go.RowKit

theorem rise_at {es : List (En Wc)} (hr : es.Pairwise fun a b => gtC a.v b.v = false) {x : Wc} {j : Nat} {e : En Wc} (h : es[j]? = some e) : gtC e.v x = decide (plc gtC es x ≤ j) := by
  obtain ⟨hj, rfl⟩ := List.getElem?_eq_some_iff.1 h
  by_cases hp : plc gtC es x ≤ j
  · rw [plc_behind behindC hr hj hp]; simp [hp]
  · rw [plc_ahead (gt := gtC) (x := x) hj (by omega)]; simp [hp]

theorem ret2 {a b c d : Int} (h1 : a = c) (h2 : b = d) : Ending.returned (.tuple #[.int .i64 a, .int .i64 b]) = Ending.returned (.tuple #[.int .i64 c, .int .i64 d]) := by rw [h1, h2]
theorem wid {x : Int} (h0 : -1 ≤ x) (h1 : x ≤ 4398046511104) : IntKind.i64.wrap x = x := by rw [IntKind.wrap_i64]; omega
set_option maxHeartbeats 3000000 in
set_option maxRecDepth 100000 in
theorem rbelow_any {w : World} {b inv n : Nat} {es : List (En Wc)} {v : Value} (hs : Rf w b inv n es v) (hf : Fit gtC n es) (hn : n ≤ 549755813888) (y : Nat) (x : Int) :
    Calls Try.prog 22 #[.pointer (some ⟨b, 0, none⟩), .int .i64 x] w fun e w' => e = .returned (.tuple #[.int .i64 ((belowE gtC n es (y, x)).1 : Nat), .int .i64 ((belowE gtC n es (y, x)).2 : Nat)]) ∧ Quiet w w' := by
  have hlen := hf.len
  have hpl := plc_le gtC es (y, x)
  have HF := hide hf
  have HS := hide hs
  have HFL := hide (fun W (hq : Quiet w W) i hi => rfloor_any (i := i) (hs.keep hq.kept (by simp) (by simp)) hf hn hi)
  obtain ⟨va, vc, rfl⟩ := own_len hs.row
  have c1 := hs.blk.cell 1
  have c2 := hs.blk.cell 2
  simp at c1 c2
  have HO := hide hs.row
  have HB1 : Hid (plc gtC es (y, x) = es.length → belowE gtC n es (y, x) = (sumg (es.take (plc gtC es (y, x))), n)) := by
    intro h
    have hz : es[plc gtC es (y, x)]? = none := List.getElem?_eq_none (by omega)
    unfold belowE
    rw [hz]
  have HB2 : Hid (∀ e, es[plc gtC es (y, x)]? = some e → belowE gtC n es (y, x) = (sumg (es.take (plc gtC es (y, x))), sumg (es.take (plc gtC es (y, x))) + e.wd - 1)) := by
    intro e h
    unfold belowE
    rw [h]
  clear hs hf
  generalize hL : es.length = L at *
  have HL := hide hL
  clear hL
  generalize hq : plc gtC es (y, x) = q at *
  have HQ := hide hq
  clear hq
  go_enter Try.func22, Try.ntmps22
  go_wp2_with fail
  go_loopw [6, 7] (fun s6 s7 wr => ∃ k : Nat, k ≤ L ∧ s7 = .int .i64 k ∧ s6 = .int .i64 (((min k q : Nat) : Int) - 1) ∧ Quiet w wr) (fun _ s7 _ => L - (intOf s7).toNat)
  case atStart => exact ⟨0, by omega, rfl, by simp, Quiet.refl _⟩
  case round =>
    obtain ⟨k, hk, rfl, rfl, hqu⟩ := hrel
    have d1 := (hqu.cell ⟨b, 1, none⟩).trans c1
    have d2 := (hqu.cell ⟨b, 2, none⟩).trans c2
    have HQU := hide hqu
    by_cases hkL : k < L
    · have t1 : ((k : Int) < (L : Int)) = True := by simp; omega
      obtain ⟨e, he⟩ : ∃ e, es[k]? = some e := ⟨_, List.getElem?_eq_getElem (by rw [unhide HL]; omega)⟩
      have hgt := rise_at (unhide HF).rise (x := (y, x)) he
      obtain ⟨g, rfl, e0, e1, e2, e3⟩ := own_at (own_kept (unhide HO) hqu.kept (by simp)) he
      rw [unhide HQ] at hgt
      obtain ⟨⟨ew, ec⟩, eg, ed⟩ := e
      simp only at e0 e1 e2 e3 hgt
      clear hqu he
      by_cases hkq : k < q
      · have t2 : (ec ≤ x) = True := by
          have : gtC (ew, ec) (y, x) = false := by rw [hgt]; simp; omega
          simp [gtC] at this
          exact eq_true this
        clear hgt
        have e5 : ((min (k + 1) q : Nat) : Int) - 1 = (k : Int) := by omega
        have HE5 := hide e5
        generalize ((min k q : Nat) : Int) - 1 = aa at *
        clear e5
        go_wp2_with fail
        exact ⟨⟨k + 1, by omega, by simp, by rw [unhide HE5], unhide HQU⟩, by simp [intOf]; omega⟩
      · have t2 : (ec ≤ x) = False := by
          have : gtC (ew, ec) (y, x) = true := by rw [hgt]; simp; omega
          simp [gtC] at this
          exact eq_false (by omega)
        clear hgt
        have e5 : ((min (k + 1) q : Nat) : Int) - 1 = ((min k q : Nat) : Int) - 1 := by omega
        have HE5 := hide e5
        clear e5
        generalize ((min k q : Nat) : Int) - 1 = aa at *
        go_wp2_with fail
        exact ⟨⟨k + 1, by omega, by simp, by rw [unhide HE5], unhide HQU⟩, by simp [intOf]; omega⟩
    · obtain rfl : k = L := by omega
      have t1 : ((k : Int) < (k : Int)) = False := by simp
      have e5 : ((min k q : Nat) : Int) - 1 = (q : Int) - 1 := by omega
      rw [e5]
      clear e5 hqu
      have HN : Hid (sumg (es.take q) ≤ 549755813888) := by
        have a1 := sum_le es q
        have a2 := (unhide HF).sum
        exact (show _ ≤ _ by omega)
      by_cases hqk : q = k
      · have HB : Hid (belowE gtC n es (y, x) = (sumg (es.take q), n)) := unhide HB1 hqk
        clear HB1 HB2
        by_cases hq0 : q = 0
        · have hz : sumg (es.take q) = 0 := by rw [hq0]; simp [sumg]
          rw [hz] at HB
          have u1 : (q : Int) = 0 := by omega
          have u2 : (k : Int) = 0 := by omega
          clear hz HFL
          subst hqk
          subst hq0
          go_wp2_with fail
          go_region
          all_goals go_wp2_with fail
          all_goals go_ret2
          all_goals rw [unhide HB]
          all_goals exact ⟨rfl, (unhide HQU).drew⟩
        · obtain ⟨p, hp⟩ : ∃ p, q = p + 1 := ⟨q - 1, by omega⟩
          have HFA := hide (unhide HFL _ (unhide HQU) p (by omega))
          rw [← hp] at HFA
          have u1 : (q : Int) - 1 = (p : Int) := by omega
          have u2 : (0 : Int) ≤ (p : Int) := by omega
          have u3 : ((p : Int) + 1 == (k : Int)) = true := by simp; omega
          have hpb : p ≤ 549755813888 := by omega
          clear HFL hp hq0 hqk
          generalize sumg (es.take q) = sm at *
          go_wp2_with (first | (go_at_call 50; refine (unhide HFA).mono ?_; rintro e w5 ⟨rfl, hq5⟩; have d15 := (hq5.cell ⟨b, 1, none⟩).trans d1; have d25 := (hq5.cell ⟨b, 2, none⟩).trans d2; have HQ5 := hide hq5; clear hq5 HFA))
          go_region
          all_goals go_wp2_with fail
          all_goals go_ret2
          all_goals rw [unhide HB]
          all_goals exact ⟨rfl, ((unhide HQU).trans (unhide HQ5)).drew⟩
      · obtain ⟨e, he⟩ : ∃ e, es[q]? = some e := ⟨_, List.getElem?_eq_getElem (by rw [unhide HL]; omega)⟩
        have HB := hide (unhide HB2 e he)
        have HST := sum_take es he
        have hwd := ((unhide HF).wd (List.mem_of_getElem? he))
        have hqk2 : q < k := by omega
        have HFB := hide (fun W (hq : Quiet w W) => unhide HFL W hq q (by omega))
        rw [HST] at HFB
        obtain ⟨g, rfl, e0, e1, e2, e3⟩ := own_at (own_kept (unhide HO) (unhide HQU).kept (by simp)) he
        obtain ⟨⟨ew, ec⟩, eg, ed⟩ := e
        simp only [En.wd] at e0 e1 e2 e3 hwd HB HFB
        have hsm : sumg (es.take q) + eg + ed ≤ 1099511627776 := by have := unhide HN; omega
        have HE : Hid (((sumg (es.take q) + (eg + ed) - 1 : Nat) : Int) = (sumg (es.take q) : Int) + (eg : Int) + (ed : Int) - 1) := (show _ = _ by omega)
        clear HB1 HB2 HST he
        by_cases hq0 : q = 0
        · have hz : sumg (es.take q) = 0 := by rw [hq0]; simp [sumg]
          rw [hz] at HB HFB hsm
          have HE0 : Hid (((0 + (eg + ed) - 1 : Nat) : Int) = (eg : Int) + (ed : Int) - 1) := (show _ = _ by omega)
          have u0 : ((0 : Int) ≤ (q : Int) - 1) = False := eq_false (by omega)
          have u0b : (0 < q) = False := eq_false (by omega)
          have u0c : (1 ≤ q) = False := eq_false (by omega)
          have u0d : ((0 : Int) < (q : Int)) = False := eq_false (by omega)
          have u0e : ((1 : Int) ≤ (q : Int)) = False := eq_false (by omega)
          have u3 : ((q : Int) == (k : Int)) = false := by simp; omega
          have u5 : (q : Int) - 1 + 1 = (q : Int) := by omega
          have u6 : IntKind.i64.wrap (q : Int) = (q : Int) := by rw [IntKind.wrap_i64]; omega
          clear HFL hz hq0 HN u0b u0c u0d u0
          rw [Nat.zero_add] at HFB
          go_wp2_with fail
          go_region_with (first | (go_at_call 50; refine (unhide HFB _ ((unhide HQU).drew)).mono ?_; rintro e w6 ⟨rfl, hq6⟩; have d26 := (hq6.cell ⟨b, 2, none⟩).trans d2; have e36 := (hq6.cell ⟨g, q * 4 + 3, none⟩).trans e3; have HQ6 := hide ((unhide HQU).drew.trans hq6); clear hq6 HFB))
          all_goals go_wp2_with fail
          all_goals go_ret2
          all_goals rw [unhide HB]
          all_goals refine ⟨?_, unhide HQ6⟩
          all_goals refine ret2 ?_ ?_
          all_goals first | with_reducible rfl | (rw [IntKind.wrap_i64, IntKind.wrap_i64]; omega) | (simp; done) | omega
        · obtain ⟨p, hp⟩ : ∃ p, q = p + 1 := ⟨q - 1, by omega⟩
          have HFA := hide (unhide HFL _ (unhide HQU) p (by omega))
          rw [← hp] at HFA
          have u1 : (q : Int) - 1 = (p : Int) := by omega
          have u2 : (0 : Int) ≤ (p : Int) := by omega
          have u3 : ((p : Int) + 1 == (k : Int)) = false := by simp; omega
          have u4 : (p : Int) + 1 = (q : Int) := by omega
          have u6 : IntKind.i64.wrap (q : Int) = (q : Int) := by rw [IntKind.wrap_i64]; omega
          have u7 : IntKind.i64.wrap (p : Int) = (p : Int) := by rw [IntKind.wrap_i64]; omega
          have u8 : ((q : Int) == (k : Int)) = false := by simp; omega
          have hpb : p ≤ 549755813888 := by omega
          clear HFL hp hq0
          generalize sumg (es.take q) = sm at *
          go_wp2_with (first | (go_at_call 50; refine (unhide HFA).mono ?_; rintro e w5 ⟨rfl, hq5⟩; have d15 := (hq5.cell ⟨b, 1, none⟩).trans d1; have d25 := (hq5.cell ⟨b, 2, none⟩).trans d2; have e35 := (hq5.cell ⟨g, q * 4 + 3, none⟩).trans e3; have HQ5 := hide ((unhide HQU).trans hq5); clear hq5 HFA))
          go_region_with (first | (go_at_call 50; refine (unhide HFB _ ((unhide HQ5).drew)).mono ?_; rintro e w6 ⟨rfl, hq6⟩; have d26 := (hq6.cell ⟨b, 2, none⟩).trans d25; have e36 := (hq6.cell ⟨g, q * 4 + 3, none⟩).trans e35; have HQ6 := hide ((unhide HQ5).drew.trans hq6); clear hq6 HFB))
          all_goals go_wp2_with fail
          all_goals go_ret2
          all_goals rw [unhide HB]
          all_goals refine ⟨?_, unhide HQ6⟩
          all_goals refine ret2 ?_ ?_
          all_goals try dsimp only
          all_goals try simp (disch := omega) only [wid]
          all_goals first | with_reducible rfl | omega
end Go.Proofs.Ytgiifedljebclaa.ref
