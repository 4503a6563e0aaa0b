/- newest, Read. -/
import Derived.Test.YtfaoblnghkiibaaQCarry
namespace Go.Proofs.Ytfaoblnghkiibaa
open Go.RowKit

theorem lastOf_hit {ps : List Wt} {k m : Nat} {x : Wt} (hx : ps[m]? = some x) (hk : x.k = k) : lastOf ps k (m + 1) = some x.d := by
  simp [lastOf, hx, hk]
theorem lastOf_miss {ps : List Wt} {k m : Nat} {x : Wt} (hx : ps[m]? = some x) (hk : ¬ x.k = k) : lastOf ps k (m + 1) = lastOf ps k m := by
  simp [lastOf, hx, hk]

set_option maxRecDepth 100000 in
set_option maxHeartbeats 1000000 in
theorem newest_any {w : World} {b g pc : Nat} {pa : Option Addr} {d : Dm} (h : Dp w b g pa pc d) {k : Nat} (hk : k < d.n) (hpl : d.pend.length ≤ 9223372036854775807) :
    Calls Try.prog 42 #[.pointer (some ⟨b, 0, none⟩), .int .i64 k] w fun e w' => e = .returned (.agg (u8s (newest d k)).toArray) ∧ Kept [] w w' := by
  obtain ⟨W, hW⟩ : ∃ W, W = w.alloc (.cells z70.toArray 70) := ⟨_, rfl⟩
  have hka : Kept [] w W := by rw [hW]; exact (Kept.refl _ _).alloc _
  have hd' : Dp W b g pa pc d := h.keep hka (by simp) (by simp) (by simp)
  obtain ⟨c0, c1, -, -, -, -⟩ := dp_cells hd'
  have hR : ∀ i x, d.pend[i]? = some x → ∃ p, pa = some ⟨p, 0, none⟩ ∧ W.rangeAt p (i * 65) (wc x) := fun i x hx => dp_pend hd' hx
  have hS := dp_sect hd' hk
  have hend : ∀ cs : List Value, Blk (w.alloc (.cells cs.toArray 70)) w.heap.size cs.toArray 70 ∧ Kept [] w (w.alloc (.cells cs.toArray 70)) := fun cs => ⟨Blk.new _ _ _, (Kept.refl _ _).alloc _⟩
  have HEND := hide hend
  have HR := hide hR
  have HS := hide hS
  have HOK := hide h.ok
  have HSL := hide (sect_len h.ok.len hk)
  have HNE : Hid (newest d k = (lastOf d.pend k d.pend.length).getD (sect d.safe k)) := rfl
  generalize newest d k = nd at *
  generalize sect d.safe k = sd at *
  have t1 : (k : Int) < (d.n : Int) := by omega
  generalize d.n = m at *
  have HPL : Hid (∀ i, i < d.pend.length → ∃ x, d.pend[i]? = some x) := fun i hi => ⟨_, List.getElem?_eq_getElem hi⟩
  generalize hL : d.pend.length = L at *
  clear hend hR hS h hd' hL
  go_enter Try.func42, Try.ntmps42
  go_wp2_with (first | (guard_target =~ wpList _ _ _ _ _ _; refine wpList_alloc_z 70 z70 rfl rfl zero70 ?_; rw [← hW]; have HW := hide hW; clear hW))
  go_loopw [5] (fun i wr => ∃ j : Nat, j ≤ L ∧ i = .int .i64 ((j : Int) - 1) ∧ wr = W ∧ nd = (lastOf d.pend k j).getD sd) (fun i _ => (intOf i + 1).toNat)
  case atStart => exact ⟨L, by omega, rfl, rfl, unhide HNE⟩
  case round =>
    obtain ⟨j, hj, rfl, hq, hnd⟩ := hrel
    have hq' := hq.symm
    subst hq'
    cases j with
    | zero =>
      have hnd' : nd = sd := hnd
      subst hnd'
      clear hnd
      go_wp2_with (first
        | (guard_target =~ wpList _ _ _ _ _ _; refine wpList_load_mid rfl 70 _ rfl g (k * 64) rfl (u8s nd) _ (unhide HS) Try.underlying70 rfl (by rw [u8s_length, unhide HSL]; exact size70) ?_)
        | (guard_target =~ wpList _ _ _ _ _ _; rw [unhide HW]; refine wpList_store_new _ _ 70 z70.toArray (u8s nd) rfl rfl rfl rfl (by rw [u8s_length, unhide HSL]; exact size70) (by rw [u8s_length, unhide HSL]; simp [z70_len]) (u8s_one _) rfl ?_))
      refine ret_arr (b := w.heap.size) (e := 5) (n := 64) rfl rfl (unhide HEND (u8s nd)).1 Try.underlying70 (by rw [List.size_toArray, u8s_length, unhide HSL]; exact size70) rfl ?_
      exact ⟨rfl, (unhide HEND (u8s nd)).2⟩
    | succ j =>
      obtain ⟨x, hx⟩ := unhide HPL j (by omega)
      obtain ⟨p, rfl, hr⟩ := unhide HR j x hx
      have hxo := (unhide HOK).pend x (List.mem_of_getElem? hx)
      have cx : W.cell? ⟨p, j * 65, none⟩ = some (.int .i64 (x.k : Int)) := by
        have := hr 0 (.int .i64 (x.k : Int)) rfl
        simpa using this
      have HT := hide (range_tail hr)
      have HXL := hide hxo.len
      have e1 : ((j + 1 : Nat) : Int) - 1 = (j : Int) := by omega
      rw [e1]
      have t2 : (j : Int) < (L : Int) := by omega
      have t3 : j < L := by omega
      clear hr e1
      by_cases hxk : x.k = k
      · rw [lastOf_hit hx hxk] at hnd
        have hnd' : nd = x.d := hnd
        rw [hxk] at cx
        rw [← hnd'] at HT HXL
        clear hnd hnd' hxk hx hxo
        go_wp2_with (first
          | (guard_target =~ wpList _ _ _ _ _ _; refine wpList_load_mid rfl 70 _ rfl p (j * 65 + 1) rfl (u8s nd) _ (unhide HT) Try.underlying70 rfl (by rw [u8s_length, unhide HXL]; exact size70) ?_)
          | (guard_target =~ wpList _ _ _ _ _ _; rw [unhide HW]; refine wpList_store_new _ _ 70 z70.toArray (u8s nd) rfl rfl rfl rfl (by rw [u8s_length, unhide HXL]; exact size70) (by rw [u8s_length, unhide HXL]; simp [z70_len]) (u8s_one _) rfl ?_))
        refine ret_arr (b := w.heap.size) (e := 5) (n := 64) rfl rfl (unhide HEND (u8s nd)).1 Try.underlying70 (by rw [List.size_toArray, u8s_length, unhide HXL]; exact size70) rfl ?_
        exact ⟨rfl, (unhide HEND (u8s nd)).2⟩
      · rw [lastOf_miss hx hxk] at hnd
        have HND := hide hnd
        have t4 : ((x.k : Int) == (k : Int)) = false := by simp; omega
        clear hnd hxk hx hxo
        generalize x.k = xk at *
        go_wp2
        exact ⟨⟨j, by omega, by simp, by trivial, unhide HND⟩, by simp [intOf]⟩

set_option maxRecDepth 100000 in
set_option maxHeartbeats 1000000 in
theorem read_no {w : World} {b : Nat} {F : List Nat} {d : Dm} (h : Dk w b F d) {x : Int} (hx : rE d x ≠ 0) :
    Calls Try.prog 21 #[.pointer (some ⟨b, 0, none⟩), .int .i64 x] w fun e w' => e = .returned (.tuple #[.slice none 0 0, .int .i64 (rE d x : Nat)]) ∧ w' = w := by
  obtain ⟨g, pa, pc, h, -⟩ := h
  have HP := hide (refusal_any h x)
  clear h
  generalize rE d x = r at *
  have t1 : ((r : Int) == 0) = false := by simp; omega
  clear hx
  go_enter Try.func21, Try.ntmps21
  go_wp2_with (first | (go_at_call 40; refine (unhide HP).mono ?_; rintro e w' ⟨rfl, hq⟩; subst hq; clear HP))
  go_ret2
  exact ⟨rfl, rfl⟩
set_option maxRecDepth 100000 in
theorem nread (w : World) (x : Int) : Calls Try.prog 21 #[.pointer none, .int .i64 x] w fun e w' => e = .returned (.tuple #[.slice none 0 0, .int .i64 1]) ∧ w' = w := by
  have HP := hide (nrefusal w x)
  go_enter Try.func21, Try.ntmps21
  go_wp2_with (first | (go_at_call 40; refine (unhide HP).mono ?_; rintro e w' ⟨rfl, hq⟩; subst hq; clear HP))
  go_ret2
  exact ⟨rfl, rfl⟩

theorem rE_zero {d : Dm} {x : Int} (h : rE d x = 0) : ∃ k : Nat, x = (k : Int) ∧ k < d.n ∧ d.fuse ≠ some 0 := by
  unfold rE at h
  split at h
  · cases h
  · next h1 =>
    split at h
    · cases h
    · next h2 => exact ⟨x.toNat, by omega, by omega, h1⟩

set_option maxRecDepth 100000 in
set_option maxHeartbeats 1000000 in
theorem read_yes {w : World} {b : Nat} {F : List Nat} {d : Dm} (h : Dk w b F d) {k : Nat} (hx : rE d (k : Int) = 0) (hpl : d.pend.length ≤ 9223372036854775807) :
    Calls Try.prog 21 #[.pointer (some ⟨b, 0, none⟩), .int .i64 (k : Int)] w fun e w' => ∃ r, e = .returned (.tuple #[.slice (some ⟨r, 0, none⟩) 64 64, .int .i64 0]) ∧ Blk w' r (u8s (newest d k)).toArray 70 ∧ w.heap.size ≤ r ∧ Kept [] w w' := by
  obtain ⟨g, pa, pc, h, -⟩ := h
  have HP := hide (refusal_any h (k : Int))
  obtain ⟨k', hk', hkn, -⟩ := rE_zero hx
  obtain rfl : k = k' := by omega
  have HN := hide (newest_any h hkn hpl)
  have HL := hide (newest_ok h.ok hkn).1
  rw [hx] at HP
  clear h hx hk' hkn hpl
  generalize newest d k = nd at *
  go_enter Try.func21, Try.ntmps21
  go_wp2_with (first
    | (go_at_call 40; refine (unhide HP).mono ?_; rintro e w' ⟨rfl, hq⟩; subst hq; clear HP)
    | (go_at_call 42; refine (unhide HN).mono ?_; rintro e w1 ⟨rfl, hk⟩; have HK := hide hk; clear HN hk)
    | (guard_target =~ wpList _ _ _ _ _ _; refine wpList_alloc_z 70 z70 rfl rfl zero70 ?_)
    | (guard_target =~ wpList _ _ _ _ _ _; refine wpList_store_new _ _ 70 z70.toArray (u8s nd) rfl rfl rfl rfl (by rw [u8s_length, unhide HL]; exact size70) (by rw [u8s_length, unhide HL]; simp [z70_len]) (u8s_one _) rfl ?_))
  go_ret2
  exact ⟨_, rfl, Blk.new _ _ _, (unhide HK).size, (unhide HK).alloc _⟩
end Go.Proofs.Ytfaoblnghkiibaa
