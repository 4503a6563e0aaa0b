/- same, ahead. -/
import Derived.Test.YtigmofbammofbabKCmpR
namespace Go.Proofs.Ytigmofbammofbab
open Go.RowKit

theorem sees_open {w : World} {v : Value} {bs : List Nat} (h : Sees w v bs) : ∃ a cap, v = .slice a bs.length cap ∧ bs.length ≤ 9223372036854775807 ∧ (∀ b ∈ bs, b < 256) ∧ ∀ k, k < bs.length → ∃ b off, a = some ⟨b, off, none⟩ ∧ w.cell? ⟨b, off + k, none⟩ = some (.int .u8 (bs.getD k 0 : Nat)) := by
  obtain ⟨a, cap, rfl, h1, h2, h3, h4⟩ := h
  refine ⟨a, cap, rfl, by unfold maxLen at h2; omega, h3, fun k hk => ?_⟩
  exact at_sees rfl h4 hk

set_option maxRecDepth 100000 in
set_option maxHeartbeats 1000000 in
theorem same_yes {w : World} {v1 v2 : Value} {bs : List Nat} (h1 : Sees w v1 bs) (h2 : Sees w v2 bs) :
    Calls Try.prog 15 #[v1, v2] w fun e w' => e = .returned (.bool true) ∧ Kept [] w w' := by
  obtain ⟨a1, c1, rfl, hm, hb, g1⟩ := sees_open h1
  obtain ⟨a2, c2, rfl, -, -, g2⟩ := sees_open h2
  have HG1 := hide g1
  have HG2 := hide g2
  clear h1 h2 g1 g2 hb
  generalize bs.length = L at *
  go_enter Try.func15, Try.ntmps15
  go_wp2_with fail
  go_loopw [5] (fun i wr => ∃ k m : Nat, k ≤ L ∧ i = .int .i64 k ∧ wr = w.drewN m) (fun i _ => L - (intOf i).toNat)
  case atStart => exact ⟨0, 0, by omega, rfl, rfl⟩
  case round =>
    obtain ⟨k, m, hk, rfl, rfl⟩ := hrel
    by_cases hkl : k < L
    · obtain ⟨b, off, rfl, hc1⟩ := unhide HG1 k hkl
      obtain ⟨b2, off2, rfl, hc2⟩ := unhide HG2 k hkl
      generalize bs.getD k 0 = x at *
      have t1 : (k : Int) < (L : Int) := by omega
      go_wp2
      go_region
      go_wp2
      exact ⟨⟨k + 1, m + 1, by omega, by simp, rfl⟩, by simp [intOf]; omega⟩
    · obtain rfl : k = L := by omega
      have t1 : ((k : Int) < (k : Int)) = False := by simp
      go_wp2
      go_ret
      exact ⟨rfl, (Kept.refl [] w).drewN m⟩

theorem cmpL_step (a b : List Nat) (k : Nat) (ha : k < a.length) (hb : k < b.length) : cmpL (a.drop k) (b.drop k) = if a.getD k 0 < b.getD k 0 then -1 else if b.getD k 0 < a.getD k 0 then 1 else cmpL (a.drop (k + 1)) (b.drop (k + 1)) := by
  rw [drop_at a k ha, drop_at b k hb]; rfl

set_option maxRecDepth 100000 in
set_option maxHeartbeats 1000000 in
theorem ahead_any {w : World} {v1 v2 : Value} {p q : List Nat} (h1 : Sees w v1 p) (h2 : Sees w v2 q) :
    Calls Try.prog 18 #[v1, v2] w fun e w' => e = .returned (.int .i64 (cmpL p q)) ∧ Kept [] w w' := by
  obtain ⟨a1, c1, rfl, hm1, hb1, g1⟩ := sees_open h1
  obtain ⟨a2, c2, rfl, hm2, hb2, g2⟩ := sees_open h2
  have HG1 := hide g1
  have HG2 := hide g2
  have HB1 := hide hb1
  have HB2 := hide hb2
  clear h1 h2 g1 g2 hb1 hb2
  generalize hP : p.length = LP at *
  generalize hQ : q.length = LQ at *
  have HP := hide hP
  have HQ := hide hQ
  clear hP hQ
  go_enter Try.func18, Try.ntmps18
  go_wp2_with fail
  go_loopw [5] (fun i wr => ∃ k m : Nat, k ≤ LP ∧ k ≤ LQ ∧ i = .int .i64 k ∧ wr = w.drewN m ∧ cmpL p q = cmpL (p.drop k) (q.drop k)) (fun i _ => LP - (intOf i).toNat)
  case atStart => exact ⟨0, 0, by omega, by omega, rfl, rfl, rfl⟩
  case round =>
    obtain ⟨k, m, hk1, hk2, rfl, rfl, hcm⟩ := hrel
    have HCM := hide hcm
    clear hcm
    by_cases hk : k < LP ∧ k < LQ
    · obtain ⟨hkp, hkq⟩ := hk
      obtain ⟨b, off, rfl, hc1⟩ := unhide HG1 k hkp
      obtain ⟨b2, off2, rfl, hc2⟩ := unhide HG2 k hkq
      rw [cmpL_step p q k (by rw [unhide HP]; exact hkp) (by rw [unhide HQ]; exact hkq)] at HCM
      generalize p.getD k 0 = x at *
      generalize q.getD k 0 = y at *
      have t1 : (k : Int) < (LP : Int) := by omega
      have t2 : (k : Int) < (LQ : Int) := by omega
      by_cases hxy : x < y
      · rw [if_pos hxy] at HCM
        have t3 : (x : Int) < (y : Int) := by omega
        go_wp2
        go_region
        go_wp2
        go_ret
        exact ⟨by rw [unhide HCM]; rfl, ((Kept.refl [] w).drewN m).drew⟩
      · rw [if_neg hxy] at HCM
        by_cases hyx : y < x
        · rw [if_pos hyx] at HCM
          go_wp2
          go_region
          go_wp2
          go_region
          go_wp2
          go_ret
          exact ⟨by rw [unhide HCM]; rfl, ((Kept.refl [] w).drewN m).drew.drew⟩
        · rw [if_neg hyx] at HCM
          go_wp2
          go_region
          go_wp2
          go_region
          go_wp2
          exact ⟨⟨k + 1, m + 2, by omega, by omega, by simp, rfl, unhide HCM⟩, by simp [intOf]; omega⟩
    · by_cases hp : k < LP
      · obtain rfl : k = LQ := by omega
        have t1 : (k : Int) < (LP : Int) := by omega
        have t2 : ((k : Int) < (k : Int)) = False := by simp
        have t3 : ((LP : Int) < (k : Int)) = False := by simp; omega
        have hd : cmpL p q = 1 := by
          rw [unhide HCM, drop_at p k (by rw [unhide HP]; exact hp), (show q.drop k = [] from List.drop_eq_nil_of_le (by rw [unhide HQ]; omega))]; rfl
        have HD := hide hd
        clear hd hk
        go_wp2
        go_ret
        exact ⟨by rw [unhide HD]; rfl, (Kept.refl [] w).drewN m⟩
      · obtain rfl : k = LP := by omega
        have t1 : ((k : Int) < (k : Int)) = False := by simp
        by_cases hq : k < LQ
        · have t2 : (k : Int) < (LQ : Int) := by omega
          have hd : cmpL p q = -1 := by
            rw [unhide HCM, drop_at q k (by rw [unhide HQ]; exact hq), (show p.drop k = [] from List.drop_eq_nil_of_le (by rw [unhide HP]; omega))]; rfl
          have HD := hide hd
          clear hd hk
          go_wp2
          go_ret
          exact ⟨by rw [unhide HD]; rfl, (Kept.refl [] w).drewN m⟩
        · obtain rfl : k = LQ := by omega
          have hd : cmpL p q = 0 := by
            rw [unhide HCM, (show p.drop k = [] from List.drop_eq_nil_of_le (by rw [unhide HP]; omega)), (show q.drop k = [] from List.drop_eq_nil_of_le (by rw [unhide HQ]; omega))]; rfl
          have HD := hide hd
          clear hd hk
          go_wp2
          go_ret
          exact ⟨by rw [unhide HD]; rfl, (Kept.refl [] w).drewN m⟩
end Go.Proofs.Ytigmofbammofbab
