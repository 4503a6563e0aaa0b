/- The document's Sums. -/
import Derived.Test.YtoibkgjnnneagaaDNan
import Derived.Test.YtoibkgjnnneagaaDRefS
namespace Go.Proofs.Ytoibkgjnnneagaa
open Go.RowKit

/-- the sums, one behind the other -/
def sumsL (ws : List Nat) (k : Nat) : List Nat := (List.range k).map (fun i => sumF ws (i + 1))
theorem sumsL_succ (ws : List Nat) (k : Nat) : sumsL ws (k + 1) = sumsL ws k ++ [sumF ws (k + 1)] := by simp [sumsL, List.range_succ]
theorem sumsL_length (ws : List Nat) (k : Nat) : (sumsL ws k).length = k := by simp [sumsL]
theorem sumsL_at (ws : List Nat) {k j : Nat} (h : j < k) : (sumsL ws k).getD j 0 = sumF ws (j + 1) := by simp [sumsL, List.getD, h]
theorem eq_nil {s : Nat} (hs : good s) : (FloatKind.f64.format.order s 0 == some .eq) = decide (s = 0) := by
  show (Ieee.double.order s 0 == some .eq) = _
  rw [order_good hs (by unfold good; omega)]
  by_cases h : s = 0
  · subst h; decide
  · rw [Nat.compare_eq_gt.2 (by omega)]; simp [h]

set_option maxRecDepth 100000 in
set_option maxHeartbeats 4000000 in
theorem sums_yes {w : World} {v : Value} {ws : List Nat} (hs : SeesF w v ws) (hr : right ws) (hl : ws.length ≤ 2097152) :
    Calls Try.prog 48 #[v] w fun e w' => ∃ a c, e = .returned (.tuple #[.slice a ws.length c, .bool true]) ∧ w'.ownsRow w.heap.size 52 1 (.slice a ws.length c) ws.length (flts (sumsL ws ws.length)) ∧ Kept [] w w' := by
  obtain ⟨i0, hi, hz0, hz1, hz2⟩ := info_parts infoFp
  have HI := hide (⟨hi, hz0, hz1, hz2⟩ : _ ∧ _ ∧ _ ∧ _)
  clear hi hz0 hz1 hz2
  have HS := hide hs
  obtain ⟨p, pc, rfl, h1, h2, h4⟩ := hs
  have hf := hr.1
  have HSG := fun k (hk : k ≤ ws.length) => sum_good (ws := ws) (k := k) fun j hj => hf j (by omega)
  have HSS : ∀ k, sumF ws (k + 1) = addF (sumF ws k) (ws.getD k 0) := fun k => rfl
  have hfin : 0 < sumF ws ws.length ∧ sumF ws ws.length < 9218868437227405312 := of_decide_eq_true hr.2
  have hsub0 := sub_self (b := sumF ws ws.length) (Or.inl hfin.2)
  have hz0 : (FloatKind.f64.format.order (sumF ws ws.length) 0 == some .eq) = false := by rw [eq_nil (HSG _ (Nat.le_refl _))]; exact decide_eq_false (by omega)
  clear h4 hr hfin
  generalize hLL : ws.length = L at *
  have HL := hide hLL
  clear hLL
  have z1 := zero_ne
  go_enter Try.func48, Try.ntmps48
  go_wp2_with fail
  go_loopw [4, 5, 6] (fun r sm i wr => ∃ k : Nat, k ≤ L ∧ i = .int .i64 k ∧ sm = .float .f64 (sumF ws k) ∧ wr.ownsRow w.heap.size 52 1 r k (flts (sumsL ws k)) ∧ Kept [] w wr) (fun _ _ i _ => L - (intOf i).toNat)
  case atStart => exact ⟨0, by omega, rfl, rfl, World.ownsRow_nil _ _ _ _, Kept.refl _ _⟩
  case round =>
    obtain ⟨k, hk, rfl, rfl, ho, hkp⟩ := hrel
    obtain ⟨ra, rc, rfl⟩ := own_len ho
    have HO := hide ho
    have HK := hide hkp
    clear ho hkp
    by_cases hlt : k < L
    · obtain ⟨b, off, hpa, hc⟩ : ∃ b off, p = some ⟨b, off, none⟩ ∧ wr.cell? ⟨b, off + k, none⟩ = some (.float .f64 (ws.getD k 0)) := by
        obtain ⟨a', c', hv, _, _, h4⟩ := (unhide HS).kept (unhide HK) (Or.inr (by simp))
        have ea : p = a' := by cases hv; rfl
        subst ea
        exact at_flt (k := k) (unhide HL) (by rw [unhide HL] at h4; exact h4) hlt
      subst hpa
      have hg := HSG k hk
      have hfk := hf k hlt
      have hadd := (add_eq hg hfk).1
      have hsub := sub_self hfk
      have t1 := ge_fair hfk
      have HA1 := hide (HSS k)
      clear HSG HSS hf hsub0 hz0
      generalize ws.getD k 0 = x at *
      generalize hS : sumF ws k = S at *
      generalize hA : addF S x = A at *
      have hrun : ∀ t w, (binOp .add t (.float .f64 S) (.float .f64 x)).run Try.prog w = .ok (.float .f64 A) w := fun t w => run_float_arith w .add t .f64 _ _ _ hadd
      have hrun2 : ∀ t w, (binOp .sub t (.float .f64 x) (.float .f64 x)).run Try.prog w = .ok (.float .f64 0) w := fun t w => run_float_arith w .sub t .f64 _ _ _ hsub
      clear hadd hsub hg hfk hS hA
      go_wp2_with (first
        | (at_builtin; refine wpList_append_own_at _ rfl _ _ 64 rfl w.heap.size 52 i0 _ 1 8 Try.underlying64 (unhide HI).1 (unhide HI).2.1 (unhide HI).2.2.1 (unhide HI).2.2.2 rfl (by decide) _ _ _ rfl ((unhide HO).alloc _) ⟨wr.heap.size, 0, none⟩ 1 1 [.float .f64 A] rfl rfl (cell_one_new _ _ _) (by simp [Value.oneCell']) (by unfold maxLen; omega) (by omega) (by have := (unhide HK).size; simp; omega) ?_))
      intro v' w2 hown' hgrow hnil hloc
      obtain ⟨va, vc, rfl⟩ := own_len hown'
      have HO2 : Hid (w2.ownsRow w.heap.size 52 1 (.slice va (k + 1) vc) (k + 1) (flts (sumsL ws (k + 1)))) := by
        unfold Hid
        rw [sumsL_succ, flts_append, unhide HA1]
        exact hown'
      have HK2 : Hid (Kept [] w w2) := ((unhide HK).alloc _).grown hgrow (fun k hk => Or.inr ((unhide HO).lt k hk).1)
      clear hown' hgrow hnil hloc
      go_wp2_with fail
      exact ⟨⟨k + 1, by omega, by simp, by rw [unhide HA1], unhide HO2, unhide HK2⟩, by simp [intOf]; omega⟩
    · obtain rfl : k = L := by omega
      obtain ⟨S, hS⟩ : ∃ S, sumF ws k = S := ⟨_, rfl⟩
      rw [hS] at hsub0 hz0
      rw [hS]
      have hrun2 : ∀ t w, (binOp .sub t (.float .f64 S) (.float .f64 S)).run Try.prog w = .ok (.float .f64 0) w := fun t w => run_float_arith w .sub t .f64 _ _ _ hsub0
      clear HSG HSS hf hsub0 hS
      go_wp2_with fail
      refine bodyPost_ret (results_tmp2 rfl _ _ _) rfl ?_
      exact ⟨ra, rc, rfl, unhide HO, unhide HK⟩

set_option maxRecDepth 100000 in
set_option maxHeartbeats 4000000 in
theorem sums_no {w : World} {v : Value} {ws : List Nat} (hs : SeesF w v ws) (hb : ∀ j, j < ws.length → ws.getD j 0 < 18446744073709551616) (hr : ¬ right ws) (hl : ws.length ≤ 2097152) :
    Calls Try.prog 48 #[v] w fun e w' => e = .returned (.tuple #[.slice none 0 0, .bool false]) ∧ Kept [] w w' := by
  obtain ⟨i0, hi, hz0, hz1, hz2⟩ := info_parts infoFp
  have HI := hide (⟨hi, hz0, hz1, hz2⟩ : _ ∧ _ ∧ _ ∧ _)
  clear hi hz0 hz1 hz2
  have HS := hide hs
  obtain ⟨p, pc, rfl, h1, h2, h4⟩ := hs
  have HSS : ∀ k, sumF ws (k + 1) = addF (sumF ws k) (ws.getD k 0) := fun k => rfl
  have HR : Hid ((∀ j, j < ws.length → fair (ws.getD j 0)) → fine (sumF ws ws.length) = false) := fun h => by
    cases hfi : fine (sumF ws ws.length) with
    | true => exact absurd ⟨h, hfi⟩ hr
    | false => rfl
  clear h4 hr
  generalize hLL : ws.length = L at *
  have HL := hide hLL
  clear hLL
  have z1 := zero_ne
  go_enter Try.func48, Try.ntmps48
  go_wp2_with fail
  go_loopw [4, 5, 6] (fun r sm i wr => ∃ k : Nat, k ≤ L ∧ i = .int .i64 k ∧ sm = .float .f64 (sumF ws k) ∧ wr.ownsRow w.heap.size 52 1 r k (flts (sumsL ws k)) ∧ Kept [] w wr ∧ ∀ j, j < k → fair (ws.getD j 0)) (fun _ _ i _ => L - (intOf i).toNat)
  case atStart => exact ⟨0, by omega, rfl, rfl, World.ownsRow_nil _ _ _ _, Kept.refl _ _, fun j hj => by omega⟩
  case round =>
    obtain ⟨k, hk, rfl, rfl, ho, hkp, hfk⟩ := hrel
    obtain ⟨ra, rc, rfl⟩ := own_len ho
    have HO := hide ho
    have HK := hide hkp
    have hg := sum_good hfk
    have HFK := hide hfk
    clear ho hkp hfk
    by_cases hlt : k < L
    · obtain ⟨b, off, hpa, hc⟩ : ∃ b off, p = some ⟨b, off, none⟩ ∧ wr.cell? ⟨b, off + k, none⟩ = some (.float .f64 (ws.getD k 0)) := by
        obtain ⟨a', c', hv, _, _, h4⟩ := (unhide HS).kept (unhide HK) (Or.inr (by simp))
        have ea : p = a' := by cases hv; rfl
        subst ea
        exact at_flt (k := k) (unhide HL) (by rw [unhide HL] at h4; exact h4) hlt
      subst hpa
      have hbk := hb k hlt
      have HA1 := hide (HSS k)
      clear HSS hb
      by_cases hfx : fair (ws.getD k 0)
      · have HN1 : Hid (∀ j, j < k + 1 → fair (ws.getD j 0)) := fun j hj => by
          by_cases e : j = k
          · rw [e]; exact hfx
          · exact unhide HFK j (by omega)
        have hadd := (add_eq hg hfx).1
        have hsub := sub_self hfx
        have t1 := ge_fair hfx
        generalize ws.getD k 0 = x at *
        generalize hS : sumF ws k = S at *
        generalize hA : addF S x = A at *
        have hrun : ∀ t w, (binOp .add t (.float .f64 S) (.float .f64 x)).run Try.prog w = .ok (.float .f64 A) w := fun t w => run_float_arith w .add t .f64 _ _ _ hadd
        have hrun2 : ∀ t w, (binOp .sub t (.float .f64 x) (.float .f64 x)).run Try.prog w = .ok (.float .f64 0) w := fun t w => run_float_arith w .sub t .f64 _ _ _ hsub
        clear hadd hsub hg hfx hS hA HFK
        go_wp2_with (first
          | (at_builtin; refine wpList_append_own_at _ rfl _ _ 64 rfl w.heap.size 52 i0 _ 1 8 Try.underlying64 (unhide HI).1 (unhide HI).2.1 (unhide HI).2.2.1 (unhide HI).2.2.2 rfl (by decide) _ _ _ rfl ((unhide HO).alloc _) ⟨wr.heap.size, 0, none⟩ 1 1 [.float .f64 A] rfl rfl (cell_one_new _ _ _) (by simp [Value.oneCell']) (by unfold maxLen; omega) (by omega) (by have := (unhide HK).size; simp; omega) ?_))
        intro v' w2 hown' hgrow hnil hloc
        obtain ⟨va, vc, rfl⟩ := own_len hown'
        have HO2 : Hid (w2.ownsRow w.heap.size 52 1 (.slice va (k + 1) vc) (k + 1) (flts (sumsL ws (k + 1)))) := by
          unfold Hid
          rw [sumsL_succ, flts_append, unhide HA1]
          exact hown'
        have HK2 : Hid (Kept [] w w2) := ((unhide HK).alloc _).grown hgrow (fun k hk => Or.inr ((unhide HO).lt k hk).1)
        clear hown' hgrow hnil hloc
        go_wp2_with fail
        exact ⟨⟨k + 1, by omega, by simp, by rw [unhide HA1], unhide HO2, unhide HK2, unhide HN1⟩, by simp [intOf]; omega⟩
      · by_cases h9 : ws.getD k 0 = 9218868437227405312
        · rw [h9] at hc HA1
          obtain ⟨R, hrun, hne, -⟩ := run_nans (P := Try.prog) 52
          have t1 := ge_inf
          generalize hS : sumF ws k = S at *
          clear hg hfx hS hbk h9
          go_wp2_with fail
          refine bodyPost_ret (results_tmp2 rfl _ _ _) rfl ?_
          exact ⟨rfl, (unhide HK).drew⟩
        · have t1 := ge_unfair hfx hbk h9
          generalize ws.getD k 0 = x at *
          generalize hS : sumF ws k = S at *
          clear hg hfx hS hbk h9
          go_wp2_with fail
          refine bodyPost_ret (results_tmp2 rfl _ _ _) rfl ?_
          exact ⟨rfl, unhide HK⟩
    · obtain rfl : k = L := by omega
      have hfi := unhide HR (unhide HFK)
      obtain ⟨S, hS⟩ : ∃ S, sumF ws k = S := ⟨_, rfl⟩
      rw [hS] at hfi hg
      rw [hS]
      have he := eq_nil hg
      clear HSS hS hb
      by_cases h0 : S = 0
      · rw [decide_eq_true h0] at he
        clear hfi h0
        go_wp2_with fail
        refine bodyPost_ret (results_tmp2 rfl _ _ _) rfl ?_
        exact ⟨rfl, unhide HK⟩
      · rw [decide_eq_false h0] at he
        have h9 : S = 9218868437227405312 := by
          have : ¬ (0 < S ∧ S < 9218868437227405312) := of_decide_eq_false hfi
          unfold good at hg; omega
        subst h9
        obtain ⟨R, hrun, hne, -⟩ := run_nans (P := Try.prog) 52
        clear hfi h0 hg
        go_wp2_with fail
        refine bodyPost_ret (results_tmp2 rfl _ _ _) rfl ?_
        exact ⟨rfl, (unhide HK).drew⟩
end Go.Proofs.Ytoibkgjnnneagaa
