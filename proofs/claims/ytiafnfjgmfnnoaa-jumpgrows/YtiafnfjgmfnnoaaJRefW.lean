/- The document's Way and Jump; same. -/
import Derived.Test.YtiafnfjgmfnnoaaJRefL
import Derived.OwnWalk
import Derived.BigQuiet
namespace Go.Proofs.Ytiafnfjgmfnnoaa
open Go.RowKit

set_option maxRecDepth 100000 in
set_option maxHeartbeats 400000 in
theorem rway_any (w : World) (h : Nat) (n : Int) (hh : h < 18446744073709551616) :
    Calls Try.prog 13 #[.int .u64 h, .int .i64 n] w fun e w' => ∃ v, e = .returned v ∧ w'.ownsRow w.heap.size 3 1 v (zn (wayOf h (buckets n))).length (ints (zn (wayOf h (buckets n)))) ∧ Kept [] w w' := by
  obtain ⟨i0, hi, hz0, hz1, hz2⟩ := info_parts info3p
  have HI := hide (⟨hi, hz0, hz1, hz2⟩ : _ ∧ _ ∧ _ ∧ _)
  clear hi hz0 hz1 hz2
  by_cases hn1 : n < 1
  · have hW : wayOf h (buckets n) = [] := by
      have : buckets n = 0 := by unfold buckets; split <;> omega
      rw [this]; rfl
    rw [hW]
    go_enter Try.func13, Try.ntmps13
    go_wp2
    go_ret
    exact ⟨_, rfl, World.ownsRow_nil _ _ _ _, Kept.refl _ _⟩
  by_cases hn : n ≤ 1048576
  · have hN : buckets n = n.toNat := by unfold buckets; rw [if_pos hn]
    have hW : wayOf h (buckets n) = way n.toNat n.toNat h 0 := by rw [hN]; unfold wayOf; rw [if_pos (by omega)]
    rw [hW]
    have hg := Gone.start n.toNat h hh
    have hNle : n.toNat ≤ 1048576 := by omega
    generalize way n.toNat n.toNat h 0 = W at *
    have HG := hide hg
    have tn : ¬ (n > 1048576) := by omega
    clear hg hW hN
    go_enter Try.func13, Try.ntmps13
    go_wp2_with fail
    go_loopw [0, 5, 6] (fun s r b wr => ∃ (done : List Nat) (x c : Nat), Gone n.toNat W done x c ∧ wr.ownsRow w.heap.size 3 1 r (zn done).length (ints (zn done)) ∧ s = .int .u64 x ∧ b = .int .i64 c ∧ Kept [] w wr) (fun _ _ b _ => n.toNat - (intOf b).toNat)
    case atStart => exact ⟨[], h, 0, unhide HG, World.ownsRow_nil _ _ _ _, rfl, rfl, Kept.refl _ _⟩
    case round =>
      obtain ⟨done, x, c, hG, ho, rfl, rfl, hk⟩ := hrel
      obtain ⟨ra, rc, rfl⟩ := own_len ho
      by_cases hc : c < n.toNat
      · obtain ⟨hG2, hlt, hle⟩ := hG.step hNle hc
        have hdl : (zn done).length ≤ 1048576 := by have := hG.fit; rw [zn_length]; omega
        have HG2 := hide hG2
        have HO := hide ho
        have HK := hide hk
        have hcn : (c : Int) < n := by omega
        clear hG hG2 ho hk
        generalize hdn : (zn done).length = m at *
        have HDN := hide hdn
        clear hdn
        have e1 := wrap_mul x 2862933555777941757
        have e2 := nx_wrap x
        have hy := nx_lt x
        obtain ⟨d1, d2⟩ := d_bounds hy
        have H2 := hide (fun w => rquot_any w (nx x / 2 ^ 33 + 1) d1 d2)
        have H3 : Hid (∀ w, Calls Try.prog 33 #[.int .u64 ((c : Int) + 1), .int .u64 (qm (nx x / 2 ^ 33 + 1) : Nat), .int .i64 (pl (nx x / 2 ^ 33 + 1) : Nat)] w fun e w' => e = .returned (.int .i64 (leapN c (nx x) : Nat)) ∧ w' = w) :=
          fun w => rleap_any w (c + 1) _ _ (by omega) (by omega) (qm_bounds d1 d2).1 (qm_bounds d1 d2).2 (pl_bounds d1 d2).1 (pl_bounds d1 d2).2
        generalize leapN c (nx x) = R at *
        generalize nx x = y at *
        generalize x * 2862933555777941757 % 18446744073709551616 = z at e1 e2
        have e3 : IntKind.u64.wrap ((x : Int) * 2862933555777941757) = (z : Int) := e1
        generalize hD : y / 2 ^ 33 + 1 = D at *
        have hD2 : (y : Int) / 8589934592 + 1 = (D : Int) := by omega
        have hwD : IntKind.u64.wrap ((y : Int) / 8589934592 + 1) = (D : Int) := by rw [IntKind.wrap_u64, hD2]; omega
        generalize qm D = qq at *
        generalize pl D = pp at *
        clear e1 hD
        go_wp2_with (first
          | (at_builtin; refine wpList_append_own_at _ rfl _ _ 25 rfl w.heap.size 3 i0 (.int .i64 0) 1 8 Try.underlying25 (unhide HI).1 (unhide HI).2.1 (unhide HI).2.2.1 (unhide HI).2.2.2 rfl (by decide) _ _ _ rfl ((unhide HO).alloc _) ⟨wr.heap.size, 0, none⟩ 1 1 [.int .i64 (c : Int)] rfl rfl (cell_one_new _ _ _) (ints_oneCell .i64 [(c : Int)]) (by unfold maxLen; omega) (by omega) (by have := (unhide HK).size; simp; omega) ?_))
        intro v' w1 hown' hgrow hnil hloc
        obtain ⟨va, vc, rfl⟩ := own_len hown'
        have HO2 : Hid (w1.ownsRow w.heap.size 3 1 (.slice va (m + 1) vc) (zn (done ++ [c])).length (ints (zn (done ++ [c])))) := by
          unfold Hid
          rw [zn_append, List.length_append, ints_append, unhide HDN]
          exact hown'
        have HK2 : Hid (Kept [] w w1) := ((unhide HK).alloc _).grown hgrow (fun k hk => Or.inr ((unhide HO).lt k hk).1)
        clear hown' hgrow hnil hloc
        go_wp2_with (first
          | (go_at_call 32; refine (unhide H2 _).mono ?_; rintro e w2 ⟨rfl, hq⟩; have hq' := hq.symm; subst hq')
          | (go_at_call 33; refine (unhide H3 _).mono ?_; rintro e w2 ⟨rfl, hq⟩; have hq' := hq.symm; subst hq'))
        refine ⟨⟨done ++ [c], y, R, unhide HG2, unhide HO2, rfl, rfl, unhide HK2⟩, ?_⟩
        show n.toNat - (R : Int).toNat < n.toNat - (c : Int).toNat
        omega
      · have hd := hG.stop hc
        subst hd
        have hcn : ¬ (c : Int) < n := by omega
        have HO := hide ho
        have HK := hide hk
        clear hG ho hk
        go_wp2
        go_ret
        exact ⟨_, rfl, unhide HO, unhide HK⟩
  · have hN : buckets n = 0 := by unfold buckets; rw [if_neg hn]
    have hW : wayOf h (buckets n) = [] := by rw [hN]; rfl
    rw [hW]
    have tn : n > 1048576 := by omega
    go_enter Try.func13, Try.ntmps13
    go_wp2
    go_ret
    exact ⟨_, rfl, World.ownsRow_nil _ _ _ _, Kept.refl _ _⟩

set_option maxRecDepth 100000 in
set_option maxHeartbeats 400000 in
theorem same_any {w : World} {v1 v2 : Value} {l : List Int} (s1 : SeesI w v1 l) (s2 : SeesI w v2 l) :
    Calls Try.prog 11 #[v1, v2] w fun e w' => e = .returned (.bool true) ∧ ∃ m, w' = w.drewN m := by
  obtain ⟨a, cap, rfl, h1, h2, h4⟩ := s1
  obtain ⟨b, cbp, rfl, g1, g2, g4⟩ := s2
  have hml : l.length ≤ 9223372036854775807 := by unfold maxLen at h2; omega
  have H4 := hide h4
  have G4 := hide g4
  clear h4 g4
  generalize hL : l.length = L at h1 g1 hml
  have HL := hide hL
  clear hL
  go_enter Try.func11, Try.ntmps11
  go_wp2_with fail
  go_loopw [5] (fun i wr => ∃ k : Nat, k ≤ L ∧ i = .int .i64 k ∧ ∃ m, wr = w.drewN m) (fun i _ => L - (intOf i).toNat)
  case atStart => exact ⟨0, by omega, rfl, 0, rfl⟩
  case round =>
    obtain ⟨k, hk, rfl, m, hq⟩ := hrel
    subst hq
    by_cases hkl : k < L
    · obtain ⟨p, off, rfl, hc⟩ := at_int (unhide HL) (unhide H4) hkl
      obtain ⟨q, off2, rfl, hc2⟩ := at_int (unhide HL) (unhide G4) hkl
      generalize l.getD k 0 = x at hc hc2
      go_wp2
      go_quiet (fail)
      go_wp2
      go_roundw
      case rel => exact ⟨k + 1, by omega, by simp, _, rfl⟩
      case measure => simp [intOf]; omega
    · obtain rfl : k = L := by omega
      go_wp2
      go_ret
      exact ⟨rfl, _, rfl⟩

theorem lastI_getD (l : List Nat) (h : l ≠ []) : lastI l = (zn l).getD (l.length - 1) 0 := by
  obtain ⟨m, x, rfl⟩ : ∃ m x, l = m ++ [x] := ⟨l.dropLast, l.getLast h, (List.dropLast_concat_getLast h).symm⟩
  rw [lastI_snoc, zn_append, List.getD, List.getElem?_append_right (by simp [zn])]
  simp [zn]

set_option maxRecDepth 100000 in
set_option maxHeartbeats 400000 in
theorem rjump_any (w : World) (h : Nat) (n : Int) (hh : h < 18446744073709551616) :
    Calls Try.prog 10 #[.int .u64 h, .int .i64 n] w fun e w' => e = .returned (.int .i64 (lastI (wayOf h (buckets n)))) ∧ Kept [] w w' := by
  have HW := hide (rway_any w h n hh)
  have HG := hide (lastI_getD (wayOf h (buckets n)))
  have HN : Hid (wayOf h (buckets n) = [] → lastI (wayOf h (buckets n)) = -1) := fun g => by rw [g]; rfl
  have HL := hide (zn_length (wayOf h (buckets n)))
  generalize lastI (wayOf h (buckets n)) = R at *
  generalize wayOf h (buckets n) = W at *
  go_enter Try.func10, Try.ntmps10
  go_wp2_with fail
  refine (unhide HW).mono ?_
  rintro e w1 ⟨v, rfl, ho, hk⟩
  have hs := SeesI.of_own ho
  obtain ⟨a, cap, hv, h1, h2, h4⟩ := hs
  have HK := hide hk
  rw [hv]
  have hml : (zn W).length ≤ 9223372036854775807 := by unfold maxLen at h2; omega
  clear ho hk
  by_cases hW : W = []
  · have hR := unhide HN hW
    have h0 : (zn W).length = 0 := by rw [hW]; rfl
    rw [h0]
    clear hW
    subst hR
    go_wp2
    go_ret
    exact ⟨rfl, unhide HK⟩
  · have hR := unhide HG hW
    have hWl : 0 < W.length := List.length_pos_iff.2 hW
    have hlen := unhide HL
    obtain ⟨b, off, rfl, hc⟩ := at_int (k := W.length - 1) rfl h4 (by omega)
    rw [← hR] at hc
    generalize (zn W).length = M at *
    subst hlen
    obtain ⟨q, hq⟩ : ∃ q, W.length = q + 1 := ⟨W.length - 1, by omega⟩
    have hq1 : W.length - 1 = q := by omega
    rw [hq1] at hc
    rw [hq]
    have e0 : ((q + 1 : Nat) : Int) - 1 = (q : Int) := by omega
    have hq9 : q < 9223372036854775807 := by omega
    have t0 : ¬ (((q + 1 : Nat) : Int) = 0) := by omega
    clear hR hW
    go_wp2
    go_ret
    exact ⟨rfl, unhide HK⟩

set_option maxRecDepth 100000 in
set_option maxHeartbeats 400000 in
theorem jumpWays_walk (w : World) (h : Nat) (n : Int) (hh : h < 18446744073709551616) :
    Calls Try.prog 3 #[.int .u64 h, .int .i64 n] w fun e w' => e = .returned (.bool true) ∧ Kept [] w w' := by
  have H1 := hide (fun w => jump_any w h n hh)
  have H2 := hide (fun w => rjump_any w h n hh)
  have H3 := hide (fun w => way_any w h n hh)
  have H4 := hide (fun w => rway_any w h n hh)
  generalize lastI (wayOf h (buckets n)) = R at *
  generalize wayOf h (buckets n) = W at *
  go_enter Try.func3, Try.ntmps3
  go_wp2_with fail
  refine (unhide H1 _).mono ?_
  rintro e w0 ⟨rfl, hq⟩
  have hq' := hq.symm
  subst hq'
  go_wp2_with fail
  refine (unhide H2 _).mono ?_
  rintro e w1 ⟨rfl, hk1⟩
  have HK1 := hide hk1
  clear hk1
  go_wp2_with fail
  refine (unhide H3 _).mono ?_
  rintro e w2 ⟨v2, rfl, ho2, hk2⟩
  have HO2 := hide ho2
  have HK2 : Hid (Kept [] w w2) := (unhide HK1).trans hk2 (by simp)
  obtain ⟨a2, c2, rfl⟩ := own_len ho2
  clear ho2 hk2
  go_wp2_with fail
  refine (unhide H4 _).mono ?_
  rintro e w3 ⟨v3, rfl, ho3, hk3⟩
  have HO3 := hide ho3
  have HK3 : Hid (Kept [] w w3) := (unhide HK2).trans hk3 (by simp)
  have hs2 : SeesI w3 (.slice a2 (zn W).length c2) (zn W) := (SeesI.of_own (unhide HO2)).kept hk3 (Or.inr (by simp))
  have HS := hide (same_any hs2 (SeesI.of_own ho3))
  obtain ⟨a3, c3, rfl⟩ := own_len ho3
  clear ho3 hk3 hs2
  go_wp2_with fail
  refine (unhide HS).mono ?_
  rintro e w4 ⟨rfl, m, rfl⟩
  go_wp2
  go_ret
  exact ⟨rfl, (unhide HK3).drewN m⟩
end Go.Proofs.Ytiafnfjgmfnnoaa
