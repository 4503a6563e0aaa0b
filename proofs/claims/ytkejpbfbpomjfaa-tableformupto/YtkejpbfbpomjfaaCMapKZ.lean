/- Which key comes first. -/
import Derived.Test.YtkejpbfbpomjfaaCMapCZ
namespace Go.Proofs.Ytkejpbfbpomjfaa.tre
open Go.RowKit
set_option linter.unusedVariables false

theorem getD_nat (x : List UInt8) (k : Nat) (h : k < x.length) : (x.map UInt8.toNat).getD k 0 = x[k].toNat := by
  rw [List.getD_eq_getElem?_getD, List.getElem?_map, List.getElem?_eq_getElem h]; rfl
set_option maxRecDepth 100000 in
set_option maxHeartbeats 800000 in
theorem comes_yes {w : World} {xv yv : Value} {x y : List UInt8} (h1 : Wide w xv (x.map UInt8.toNat)) (h2 : Wide w yv (y.map UInt8.toNat)) (hlt : Op.bytesLess x y = true) (hlx : x.length ≤ 140737488355328) (hly : y.length ≤ 140737488355328) :
    Calls Try.prog 20 #[xv, yv] w fun e w' => e = .returned (.bool true) ∧ Kept [] w w' := by
  obtain ⟨xa, xc, rfl⟩ := wide_len h1
  obtain ⟨ya, yc, rfl⟩ := wide_len h2
  rw [List.length_map] at h1 h2 ⊢
  rw [List.length_map]
  obtain ⟨N, hN⟩ : ∃ N, x.length = N := ⟨_, rfl⟩
  obtain ⟨M, hM⟩ : ∃ M, y.length = M := ⟨_, rfl⟩
  rw [hN] at h1 hlx ⊢
  rw [hM] at h2 hly ⊢
  have H1 := hide h1
  have H2 := hide h2
  have HN := hide hN
  have HM := hide hM
  have HLT := hide hlt
  clear h1 h2 hN hM hlt
  go_enter Try.func20, Try.ntmps20
  go_wp2
  go_loopw [5] (fun i wr => ∃ k : Nat, k ≤ N ∧ k ≤ M ∧ i = .int .i64 k ∧ (∃ m, wr = w.drewN m) ∧ Hid (∀ j, j < k → x[j]? = y[j]?)) (fun i _ => N - (intOf i).toNat)
  case atStart => exact ⟨0, by omega, by omega, rfl, ⟨0, rfl⟩, fun j hj => by omega⟩
  case round =>
    obtain ⟨k, hk, hk2, rfl, ⟨m, hq⟩, HP⟩ := hrel
    subst hq
    have hbl : Op.bytesLess (x.drop k) (y.drop k) = true := by rw [← bl_first x y k (unhide HP) (by rw [unhide HN]; exact hk) (by rw [unhide HM]; exact hk2)]; exact unhide HLT
    by_cases hkN : k < N
    · have hkx : k < x.length := by rw [unhide HN]; exact hkN
      have hdx : x.drop k = x[k] :: x.drop (k + 1) := List.drop_eq_getElem_cons hkx
      have hkM : k < M := by
        rcases Nat.lt_or_ge k M with h | h
        · exact h
        · exfalso
          rw [hdx, show y.drop k = [] from List.drop_of_length_le (by rw [unhide HM]; exact h)] at hbl
          cases hbl
      have hky : k < y.length := by rw [unhide HM]; exact hkM
      have hdy : y.drop k = y[k] :: y.drop (k + 1) := List.drop_eq_getElem_cons hky
      rw [hdx, hdy] at hbl
      obtain ⟨xb, xo, rfl, hx⟩ := (unhide H1).at k (by rw [List.length_map]; exact hkx)
      obtain ⟨yb, yo, rfl, hy⟩ := (unhide H2).at k (by rw [List.length_map]; exact hky)
      rw [getD_nat x k hkx] at hx
      rw [getD_nat y k hky] at hy
      have t1 : ((k : Int) < (N : Int)) = True := by simp [hkN]
      have t2 : ((k : Int) < (M : Int)) = True := by simp [hkM]
      by_cases he : x[k] = y[k]
      · rw [← he] at hy
        have HE : Hid (x[k]? = y[k]?) := by show x[k]? = y[k]?; rw [List.getElem?_eq_getElem hkx, List.getElem?_eq_getElem hky, he]
        generalize x[k].toNat = z at hx hy
        clear he hbl hdx hdy hkx hky
        go_wp2
        go_quiet (fail)
        go_wp2
        go_roundw
        case rel =>
          refine ⟨k + 1, by omega, by omega, by go_num, ⟨_, rfl⟩, fun j hj => ?_⟩
          rcases Nat.lt_or_ge j k with h | h
          · exact unhide HP j h
          · rw [show j = k by omega]; exact unhide HE
        case measure => simp [intOf]; omega
      · have hlz : x[k].toNat < y[k].toNat := by
          simp only [Op.bytesLess, Bool.or_eq_true, Bool.and_eq_true, beq_iff_eq, decide_eq_true_eq] at hbl
          rcases hbl with h | ⟨h, -⟩
          · rw [UInt8.lt_iff_toNat_lt] at h; exact h
          · exact absurd h he
        generalize x[k].toNat = z1 at hx hlz
        generalize y[k].toNat = z2 at hy hlz
        have hne2 : ((z1 : Int) == (z2 : Int)) = false := by rw [beq_eq_false_iff_ne]; omega
        have hne3 : ((z1 : Int) != (z2 : Int)) = true := by rw [bne_iff_ne]; omega
        have hlt3 : ((z1 : Int) < (z2 : Int)) = True := by simp; omega
        clear he hbl hdx hdy hkx hky
        go_wp2
        go_quiet (fail)
        go_wp2
        go_quiet (fail)
        go_wp2
        go_ret
        refine ⟨rfl, ?_⟩
        exact (((Kept.refl _ _).drewN _).drewN _).drewN _
    · obtain rfl : k = N := by omega
      have t1 : ((k : Int) < (k : Int)) = False := by simp
      have t2 : ((k : Int) < (M : Int)) = True := by
        have : k < M := by
          rcases Nat.lt_or_ge k M with h | h
          · exact h
          · exfalso
            rw [List.drop_of_length_le (by rw [unhide HN]; exact Nat.le_refl _), List.drop_of_length_le (by rw [unhide HM]; exact h)] at hbl
            cases hbl
        simp [this]
      clear hbl
      go_wp2
      go_ret
      exact ⟨rfl, (Kept.refl _ _).drewN _⟩
end Go.Proofs.Ytkejpbfbpomjfaa.tre
