/- The document's Pick, where one can be picked. -/
import Derived.Test.YtoibkgjnnneagaaDRefQ
import Derived.Deep.RegionWith
namespace Go.Proofs.Ytoibkgjnnneagaa
open Go.RowKit

theorem ownF_cell {w : World} {base n g cap : Nat} {l : List Nat} (h : w.ownsRow base 52 1 (.slice (some ⟨g, 0, none⟩) n cap) n (flts l)) {k : Nat} (hk : k < l.length) : w.cell? ⟨g, k, none⟩ = some (.float .f64 (l.getD k 0)) := by
  have := h.cells (g := g) rfl k (.float .f64 (l.getD k 0)) (flts_at l hk)
  have hadd : (⟨g, 0, none⟩ : Addr).add k = ⟨g, k, none⟩ := by unfold Addr.add; split <;> simp_all
  rwa [hadd] at this
theorem ownF_row {w : World} {base n : Nat} {v : Value} {l : List Nat} (h : w.ownsRow base 52 1 v n (flts l)) (hn : 0 < n) : ∃ g cap, v = .slice (some ⟨g, 0, none⟩) n cap ∧ base ≤ g ∧ g < w.heap.size := by
  rcases h.2 with ⟨_, h2⟩ | ⟨g, cap, cur, hv, hb, hg, _⟩
  · omega
  · exact ⟨g, cap, hv, hb, (Array.getElem?_eq_some_iff.1 hg).1⟩

set_option maxRecDepth 100000 in
set_option maxHeartbeats 4000000 in
theorem rpick_yes {w : World} {b s : Nat} {v : Value} {ws : List Nat} (h : Rc w b s) (hs : SeesF w v ws) (hv : ∀ k, v.ownBlock = some k → k ≠ b) (hr : right ws) (hl : ws.length ≤ 2097152) :
    Calls Try.prog 38 #[.pointer (some ⟨b, 0, none⟩), v] w fun e w' => e = .returned (.tuple #[.int .i64 ((pickF ws s : Nat) : Int), .int .i64 0]) ∧ Rc w' b (on s 1) ∧ Kept [b] w w' := by
  have HT := hide (sums_yes hs hr hl)
  have HR := fun w1 (h1 : Rc w1 b s) => hide (rreal_any h1)
  have HH := hide h
  have HV := hide hv
  have HS := hide hs
  have hfin : 0 < sumF ws ws.length ∧ sumF ws ws.length < 9218868437227405312 := of_decide_eq_true hr.2
  have hlt : mixN (on s 1) / 2048 < 2 ^ 53 := by have := mixN_lt (on s 1); omega
  have hm := (mul_eq (x := realW (mixN (on s 1) / 2048)) (s := sumF ws ws.length) (by have := realW_lt hlt; omega) hfin.2).1
  have hpos : 0 < ws.length := by
    rcases Nat.eq_zero_or_pos ws.length with h0 | h0
    · rw [h0] at hfin; exact absurd hfin.1 (Nat.lt_irrefl 0)
    · exact h0
  have HPK : Hid (pickF ws s = aboveF ws (mulF (realW (mixN (on s 1) / 2048)) (sumF ws ws.length)) ws.length 0) := rfl
  obtain ⟨p, pc, rfl, -, -, -⟩ := hs
  clear hr h hfin hlt hv
  generalize hLL : ws.length = L at *
  have HL := hide hLL
  clear hLL
  generalize hX : realW (mixN (on s 1) / 2048) = X at *
  generalize hSS : sumF ws L = S at *
  have HSS := hide hSS
  generalize mulF X S = Y at *
  have hrun : ∀ t w, (binOp .mul t (.float .f64 X) (.float .f64 S)).run Try.prog w = .ok (.float .f64 Y) w := fun t w => run_float_arith w .mul t .f64 _ _ _ hm
  clear hm hX hSS
  go_enter Try.func38, Try.ntmps38
  go_wp2_with (first
    | (go_at_call 48; refine (unhide HT).mono ?_; rintro e w1 ⟨a, c, rfl, ho, hk⟩; clear HT; have HO := hide ho; have HK := hide hk; clear ho hk))
  obtain ⟨q, hq1⟩ : ∃ q, L - 1 = q := ⟨_, rfl⟩
  have e1 : (L : Int) - 1 = (q : Int) := by omega
  have hqL : q < L := by omega
  have ew : IntKind.i64.wrap (q : Int) = (q : Int) := by rw [IntKind.wrap_i64]; omega
  have ew2 : wrap64 (q : Int) = (q : Int) := by first | (unfold wrap64; omega) | (rw [← IntKind.wrap_i64]; exact ew) | exact ew
  have tq1 : ((q : Int) < (L : Int)) = True := by simp; omega
  have tq0 : (0 ≤ (q : Int)) = True := by simp
  have hq2 : q + 1 = L := by omega
  clear hq1
  obtain ⟨g, c', hva, hg1, hg2⟩ := ownF_row (unhide HO) hpos
  have ea : a = some ⟨g, 0, none⟩ := by cases hva; rfl
  subst ea
  clear hva c'
  have hgb : Hid (g ≠ b) := by have := (unhide HH).blk.lt; unfold Hid; omega
  have hcl := ownF_cell (unhide HO) (k := q) (by rw [sumsL_length]; omega)
  rw [sumsL_at _ hqL, hq2, unhide HSS] at hcl
  clear hq2
  have HH1 : Hid (Rc w1.drew b s) := ((unhide HH).keep (unhide HK) (by simp)).keep ((Kept.refl [] w1).drew) (by simp)
  have HR2 : Hid (Calls Try.prog 33 #[.pointer (some ⟨b, 0, none⟩)] w1.drew fun e w' => e = .returned (.float .f64 X) ∧ (w'.cell? ⟨g, q, none⟩ = some (.float .f64 S)) ∧ Hid (Rc w' b (on s 1) ∧ Kept [b] w1 w')) := by
    refine (unhide (HR _ (unhide HH1))).mono ?_
    rintro e w' ⟨he, hd, hk⟩
    have hk1 : Kept [b] w1 w' := ((Kept.refl [b] w1).drew).trans hk (fun x hx => Or.inl hx)
    refine ⟨he, ?_, hd, hk1⟩
    rw [hk1.cell (p := ⟨g, q, none⟩) hg2 (by have := unhide hgb; simpa using this)]
    exact hcl
  clear HR HH1
  go_cut [8] (fun t wc => ∃ W2, W2 = wc ∧ t = .float .f64 Y ∧ Hid (Rc W2 b (on s 1) ∧ Kept [b] w1 W2))
  case first =>
    go_region_with (first
      | (go_at_call 33; refine (unhide HR2).mono ?_; rintro e w2 ⟨rfl, hc2, hr2⟩))
    all_goals go_wp2_with fail
    all_goals go_meet
    all_goals exact ⟨_, rfl, rfl, hr2⟩
  case rest =>
    obtain ⟨W2, rfl, rfl, hr2⟩ := hcut
    clear HR2 hcl hrun e1 ew ew2 tq1 tq0
    have hk12 := (unhide hr2).2
    have CS : Hid (∀ k, k < L → W2.cell? ⟨g, k, none⟩ = some (.float .f64 (sumF ws (k + 1)))) := fun k hk => by
      rw [hk12.cell (p := ⟨g, k, none⟩) hg2 (by have := unhide hgb; simpa using this), ownF_cell (unhide HO) (k := k) (by rw [sumsL_length]; exact hk), sumsL_at _ hk]
    have HS2 := hide (((unhide HS).kept (unhide HK) (Or.inr (by simp))).kept hk12 (Or.inr (fun k e => by have := unhide HV k e; simpa using this)))
    have HKW : Hid (Kept [b] w W2) := ((unhide HK).mono (G := [b]) (fun x hx => by simp at hx)).trans hk12 (fun x hx => Or.inl hx)
    have HA : ∀ f k, aboveF ws Y (f + 1) k = if (FloatKind.f64.format.order (sumF ws (k + 1)) Y == some .gt) = true then k else aboveF ws Y f (k + 1) := fun f k => rfl
    have HLa : ∀ k, lastF ws (k + 1) = if (FloatKind.f64.format.order (ws.getD k 0) 0 == some .gt) = true then k else lastF ws k := fun k => rfl
    clear hk12
    go_wp2_with fail
    go_loop [9, 10] (fun l i => ∃ k : Nat, k ≤ L ∧ i = .int .i64 k ∧ l = .int .i64 (lastF ws k : Nat) ∧ aboveF ws Y L 0 = aboveF ws Y (L - k) k) (fun _ i => L - (intOf i).toNat)
    case atStart => exact ⟨0, by omega, rfl, rfl, rfl⟩
    case round =>
      obtain ⟨k, hk, rfl, rfl, hab⟩ := hrel
      by_cases hlt : k < L
      · have c1 := unhide CS k hlt
        obtain ⟨bv, off, hpa, c2⟩ : ∃ bv off, p = some ⟨bv, off, none⟩ ∧ W2.cell? ⟨bv, off + k, none⟩ = some (.float .f64 (ws.getD k 0)) := by
          obtain ⟨a', c', hv, _, _, h4⟩ := unhide HS2
          have ea : p = a' := by cases hv; rfl
          subst ea
          exact at_flt (k := k) (unhide HL) (by rw [unhide HL] at h4; exact h4) hlt
        subst hpa
        have hla := HLa k
        rw [show L - k = (L - (k + 1)) + 1 by omega, HA] at hab
        clear HA HLa
        generalize ws.getD k 0 = y at *
        generalize hA1 : sumF ws (k + 1) = A at *
        have HAB := hide hab
        have HLA := hide hla
        clear hab hla hA1
        generalize hgt : (FloatKind.f64.format.order A Y == some Ordering.gt) = B at *
        cases B with
        | true =>
          rw [if_pos rfl] at HAB
          go_wp2_with fail
          refine bodyPost_ret (results_tmp2 rfl _ _ _) rfl ?_
          refine ⟨?_, (unhide hr2).1, unhide HKW⟩
          rw [unhide HPK, unhide HAB]
          rfl
        | false =>
          rw [if_neg (by simp)] at HAB
          generalize hpo : (FloatKind.f64.format.order y 0 == some Ordering.gt) = B2 at *
          cases B2 with
          | true =>
            rw [if_pos rfl] at HLA
            generalize lastF ws k = la at *
            go_wp2_with fail
            exact ⟨⟨k + 1, by omega, by simp, by rw [unhide HLA], by rw [unhide HAB]⟩, by simp [intOf]; omega⟩
          | false =>
            rw [if_neg (by simp)] at HLA
            generalize lastF ws k = la at *
            go_wp2_with fail
            exact ⟨⟨k + 1, by omega, by simp, by rw [unhide HLA], by rw [unhide HAB]⟩, by simp [intOf]; omega⟩
      · obtain rfl : k = L := by omega
        rw [Nat.sub_self] at hab
        have HAB := hide hab
        clear hab HA HLa
        obtain ⟨la, hla⟩ : ∃ la, lastF ws k = la := ⟨_, rfl⟩
        have HLA := hide hla
        rw [hla]
        clear hla
        go_wp2_with fail
        refine bodyPost_ret (results_tmp2 rfl _ _ _) rfl ?_
        refine ⟨?_, (unhide hr2).1, unhide HKW⟩
        rw [unhide HPK, unhide HAB, show aboveF ws Y 0 k = lastF ws k from rfl, unhide HLA]
        rfl
end Go.Proofs.Ytoibkgjnnneagaa
