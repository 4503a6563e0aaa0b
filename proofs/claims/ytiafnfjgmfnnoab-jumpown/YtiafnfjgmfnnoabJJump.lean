/- Jump of the program. -/
import Derived.Test.YtiafnfjgmfnnoabJWay
namespace Go.Proofs.Ytiafnfjgmfnnoab
open Go.RowKit

/-- a number of buckets, as Go has it -/
def buckets (n : Int) : Nat := if n ≤ 1048576 then n.toNat else 0
theorem lastI_nil : lastI [] = -1 := rfl

set_option maxRecDepth 100000 in
set_option maxHeartbeats 400000 in
theorem jump_any (w : World) (h : Nat) (n : Int) (hh : h < 18446744073709551616) :
    Calls Try.prog 9 #[.int .u64 h, .int .i64 n] w fun e w' => e = .returned (.int .i64 (lastI (wayOf h (buckets n)))) ∧ w' = w := by
  by_cases hn : n ≤ 1048576
  · have hN : buckets n = n.toNat := by unfold buckets; rw [if_pos hn]
    have hW : wayOf h (buckets n) = way n.toNat n.toNat h 0 := by rw [hN]; unfold wayOf; rw [if_pos (by omega)]
    rw [hW]
    have hg := Gone.start n.toNat h hh
    have hNle : n.toNat ≤ 1048576 := by omega
    generalize way n.toNat n.toNat h 0 = W at *
    have HG := hide hg
    have tn : ¬ (n > 1048576) := by omega
    clear hg hW hN
    go_enter Try.func9, Try.ntmps9
    go_wp2_with fail
    go_loop [5, 6, 7] (fun r s b => ∃ (done : List Nat) (x c : Nat), Gone n.toNat W done x c ∧ r = .int .i64 (lastI done) ∧ s = .int .u64 x ∧ b = .int .i64 c) (fun _ _ b => n.toNat - (intOf b).toNat)
    case atStart => exact ⟨[], h, 0, unhide HG, rfl, rfl, rfl⟩
    case round =>
      obtain ⟨done, x, c, hG, rfl, rfl, rfl⟩ := hrel
      by_cases hc : c < n.toNat
      · obtain ⟨hG2, hlt, hle⟩ := hG.step hNle hc
        have H1 := hide (onward_any w c x (by omega))
        have HG2 := hide hG2
        have hcn : (c : Int) < n := by omega
        clear hG hG2
        generalize leapN c (nx x) = R at *
        generalize nx x = y at *
        go_wp2_with (first
          | (go_at_call 10; refine (unhide H1).mono ?_; rintro e w1 ⟨rfl, hq⟩; have hq' := hq.symm; subst hq'))
        refine ⟨⟨done ++ [c], y, R, unhide HG2, ?_, ?_, ?_⟩, ?_⟩
        · rw [lastI_snoc]
        · rfl
        · rfl
        · show n.toNat - (R : Int).toNat < n.toNat - (c : Int).toNat
          omega
      · have hd := hG.stop hc
        subst hd
        have hcn : ¬ (c : Int) < n := by omega
        clear hG
        go_wp2
        go_ret
        exact ⟨rfl, rfl⟩
  · have hN : buckets n = 0 := by unfold buckets; rw [if_neg hn]
    have hW : lastI (wayOf h (buckets n)) = -1 := by rw [hN]; rfl
    rw [hW]
    have tn : n > 1048576 := by omega
    go_enter Try.func9, Try.ntmps9
    go_wp2
    go_ret
    exact ⟨rfl, rfl⟩
end Go.Proofs.Ytiafnfjgmfnnoab
