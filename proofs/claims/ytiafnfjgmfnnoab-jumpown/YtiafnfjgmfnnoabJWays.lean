/- Way of the program. -/
import Derived.Test.YtiafnfjgmfnnoabJJump
namespace Go.Proofs.Ytiafnfjgmfnnoab
open Go.RowKit

set_option maxRecDepth 100000 in
set_option maxHeartbeats 400000 in
theorem way_any (w : World) (h : Nat) (n : Int) (hh : h < 18446744073709551616) :
    Calls Try.prog 5 #[.int .u64 h, .int .i64 n] w fun e w' => ∃ v, e = .returned v ∧ w'.ownsRow w.heap.size 3 1 v (zn (wayOf h (buckets n))).length (ints (zn (wayOf h (buckets n)))) ∧ Kept [] w w' := by
  obtain ⟨i0, hi, hz0, hz1, hz2⟩ := info_parts info3p
  have HI := hide (⟨hi, hz0, hz1, hz2⟩ : _ ∧ _ ∧ _ ∧ _)
  clear hi hz0 hz1 hz2
  by_cases hn : n ≤ 1048576
  · have hN : buckets n = n.toNat := by unfold buckets; rw [if_pos hn]
    have hW : wayOf h (buckets n) = way n.toNat n.toNat h 0 := by rw [hN]; unfold wayOf; rw [if_pos (by omega)]
    rw [hW]
    have hg := Gone.start n.toNat h hh
    have hNle : n.toNat ≤ 1048576 := by omega
    generalize way n.toNat n.toNat h 0 = W at *
    have HG := hide hg
    have tn : ¬ (n > 1048576) := by omega
    clear hg hW hN
    go_enter Try.func5, Try.ntmps5
    go_wp2_with fail
    go_loopw [5, 6, 7] (fun r s b wr => ∃ (done : List Nat) (x c : Nat), Gone n.toNat W done x c ∧ wr.ownsRow w.heap.size 3 1 r (zn done).length (ints (zn done)) ∧ s = .int .u64 x ∧ b = .int .i64 c ∧ Kept [] w wr) (fun _ _ b _ => n.toNat - (intOf b).toNat)
    case atStart => exact ⟨[], h, 0, unhide HG, World.ownsRow_nil _ _ _ _, rfl, rfl, Kept.refl _ _⟩
    case round =>
      obtain ⟨done, x, c, hG, ho, rfl, rfl, hk⟩ := hrel
      obtain ⟨ra, rc, rfl⟩ := own_len ho
      by_cases hc : c < n.toNat
      · obtain ⟨hG2, hlt, hle⟩ := hG.step hNle hc
        have hdl : (zn done).length ≤ 1048576 := by have := hG.fit; rw [zn_length]; omega
        have HG2 := hide hG2
        have HO := hide ho
        have HK := hide hk
        have hcn : (c : Int) < n := by omega
        clear hG hG2 ho hk
        generalize hdn : (zn done).length = m at *
        have HDN := hide hdn
        clear hdn
        have H1 := hide (fun w => onward_any w c x (by omega))
        generalize leapN c (nx x) = R at *
        generalize nx x = y at *
        go_wp2_with (first
          | (at_builtin; refine wpList_append_own_at _ rfl _ _ 23 rfl w.heap.size 3 i0 (.int .i64 0) 1 8 Try.underlying23 (unhide HI).1 (unhide HI).2.1 (unhide HI).2.2.1 (unhide HI).2.2.2 rfl (by decide) _ _ _ rfl ((unhide HO).alloc _) ⟨wr.heap.size, 0, none⟩ 1 1 [.int .i64 (c : Int)] rfl rfl (cell_one_new _ _ _) (ints_oneCell .i64 [(c : Int)]) (by unfold maxLen; omega) (by omega) (by have := (unhide HK).size; simp; omega) ?_))
        intro v' w1 hown' hgrow hnil hloc
        obtain ⟨va, vc, rfl⟩ := own_len hown'
        have HO2 : Hid (w1.ownsRow w.heap.size 3 1 (.slice va (m + 1) vc) (zn (done ++ [c])).length (ints (zn (done ++ [c])))) := by
          unfold Hid
          rw [zn_append, List.length_append, ints_append, unhide HDN]
          exact hown'
        have HK2 : Hid (Kept [] w w1) := ((unhide HK).alloc _).grown hgrow (fun k hk => Or.inr ((unhide HO).lt k hk).1)
        clear hown' hgrow hnil hloc
        go_wp2_with (first
          | (go_at_call 10; refine (unhide H1 _).mono ?_; rintro e w2 ⟨rfl, hq⟩; have hq' := hq.symm; subst hq'))
        refine ⟨⟨done ++ [c], y, R, unhide HG2, unhide HO2, rfl, rfl, unhide HK2⟩, ?_⟩
        show n.toNat - (R : Int).toNat < n.toNat - (c : Int).toNat
        omega
      · have hd := hG.stop hc
        subst hd
        have hcn : ¬ (c : Int) < n := by omega
        have HO := hide ho
        have HK := hide hk
        clear hG ho hk
        go_wp2
        go_ret
        exact ⟨_, rfl, unhide HO, unhide HK⟩
  · have hN : buckets n = 0 := by unfold buckets; rw [if_neg hn]
    have hW : wayOf h (buckets n) = [] := by rw [hN]; rfl
    rw [hW]
    have tn : n > 1048576 := by omega
    go_enter Try.func5, Try.ntmps5
    go_wp2
    go_ret
    exact ⟨_, rfl, World.ownsRow_nil _ _ _ _, Kept.refl _ _⟩
end Go.Proofs.Ytiafnfjgmfnnoab
