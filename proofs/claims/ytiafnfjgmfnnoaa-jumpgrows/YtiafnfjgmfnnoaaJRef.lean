/- The document's quotient. -/
import Derived.Test.YtiafnfjgmfnnoaaJRefP
namespace Go.Proofs.Ytiafnfjgmfnnoaa
open Go.RowKit

set_option maxRecDepth 100000 in
set_option maxHeartbeats 400000 in
theorem rquot_any (w : World) (d : Nat) (h1 : 1 ≤ d) (h2 : d ≤ 2147483648) :
    Calls Try.prog 32 #[.int .u64 d] w fun e w' => e = .returned (.tuple #[.int .u64 (qm d : Nat), .int .i64 (pl d : Nat)]) ∧ w' = w := by
  have hp := pl_bounds h1 h2
  have HL : Hid (∀ k, k < pl d → 2 ^ (31 + k) / d < 4503599627370496) := fun k hk => q_lt h1 h2 hk
  have HG : Hid (4503599627370496 ≤ 2 ^ (31 + pl d) / d ∧ 2 ^ (31 + pl d) / d < 9007199254740992) := q_ge h1 h2
  have HN : Hid (∀ k, 2 ^ (31 + (k + 1)) / d = 2 * (2 ^ (31 + k) / d) + (if d ≤ 2 * (2 ^ (31 + k) % d) then 1 else 0) ∧ 2 ^ (31 + (k + 1)) % d = 2 * (2 ^ (31 + k) % d) - (if d ≤ 2 * (2 ^ (31 + k) % d) then d else 0)) := fun k => q_next h1
  have HM : Hid (∀ k, 2 ^ (31 + k) % d < d) := fun k => Nat.mod_lt _ (by omega)
  have HQ : Hid (qm d = rhd (2 ^ (31 + pl d)) d) := rfl
  have H0 : Hid ((2147483648 / d = 2 ^ (31 + 0) / d) ∧ (2147483648 % d = 2 ^ (31 + 0) % d)) := ⟨rfl, rfl⟩
  generalize qm d = q at *
  generalize pl d = p at *
  have hd0 : ¬ ((d : Int) = 0) := by omega
  go_enter Try.func32, Try.ntmps32
  go_wp2_with fail
  go_loop [4, 5, 6] (fun m r k => ∃ j : Nat, j ≤ p ∧ k = .int .i64 j ∧ m = .int .u64 (2 ^ (31 + j) / d : Nat) ∧ r = .int .u64 (2 ^ (31 + j) % d : Nat)) (fun _ _ k => p - (intOf k).toNat)
  case atStart => exact ⟨0, by omega, rfl, rfl, rfl⟩
  case round =>
    obtain ⟨j, hj, rfl, rfl, rfl⟩ := hrel
    by_cases hjp : j < p
    · have hM := unhide HL j hjp
      have hr := unhide HM j
      have HN2 := hide (unhide HN j)
      generalize 2 ^ (31 + j) / d = M at *
      generalize 2 ^ (31 + j) % d = r at *
      have hMi : (M : Int) < 4503599627370496 := by omega
      by_cases g : d ≤ 2 * r
      · have gi : (2 : Int) * (r : Int) ≥ (d : Int) := by omega
        go_wp2
        refine ⟨⟨j + 1, by omega, by simp, ?_, ?_⟩, ?_⟩
        · have := (unhide HN2).1; rw [if_pos g] at this; exact congrArg (Value.int .u64) (by rw [this]; omega)
        · have := (unhide HN2).2; rw [if_pos g] at this; exact congrArg (Value.int .u64) (by rw [this]; omega)
        · show p - ((j : Int) + 1).toNat < p - (j : Int).toNat
          omega
      · have gi : ¬ ((2 : Int) * (r : Int) ≥ (d : Int)) := by omega
        go_wp2
        refine ⟨⟨j + 1, by omega, by simp, ?_, ?_⟩, ?_⟩
        · have := (unhide HN2).1; rw [if_neg g] at this; exact congrArg (Value.int .u64) (by rw [this]; omega)
        · have := (unhide HN2).2; rw [if_neg g] at this; exact congrArg (Value.int .u64) (by rw [this]; omega)
        · show p - ((j : Int) + 1).toNat < p - (j : Int).toNat
          omega
    · obtain rfl : j = p := by omega
      have hM := unhide HG
      have hr := unhide HM j
      have HQ2 : Hid (q = _) := (unhide HQ)
      unfold rhd at HQ2
      clear HQ
      generalize 2 ^ (31 + j) / d = M at *
      generalize 2 ^ (31 + j) % d = r at *
      have hMi : ¬ (M : Int) < 4503599627370496 := by omega
      by_cases g : d < 2 * r
      · have gi : (2 : Int) * (r : Int) > (d : Int) := by omega
        have hq : q = M + 1 := by have := unhide HQ2; rw [if_pos (Or.inl g)] at this; exact this
        clear HQ2
        subst hq
        go_wp2
        refine bodyPost_ret (v := .tuple #[.int .u64 ((M + 1 : Nat) : Int), .int .i64 (j : Int)]) (by simp [results, Try.results32]) rfl ?_
        exact ⟨rfl, rfl⟩
      · have gi : ¬ ((2 : Int) * (r : Int) > (d : Int)) := by omega
        by_cases g2 : d = 2 * r
        · have gj : ((2 : Int) * (r : Int) = (d : Int)) := by omega
          by_cases g3 : M % 2 = 1
          · have gk : ((M : Int) % 2 = 1) := by omega
            have hq : q = M + 1 := by have := unhide HQ2; rw [if_pos (Or.inr ⟨g2, g3⟩)] at this; exact this
            clear HQ2 g g2 g3
            subst hq
            go_wp2
            refine bodyPost_ret (v := .tuple #[.int .u64 ((M + 1 : Nat) : Int), .int .i64 (j : Int)]) (by simp [results, Try.results32]) rfl ?_
            exact ⟨rfl, rfl⟩
          · have gk : ¬ ((M : Int) % 2 = 1) := by omega
            have hq : q = M := by have := unhide HQ2; rw [if_neg (by omega)] at this; exact this
            clear HQ2 g g2 g3
            subst hq
            go_wp2
            refine bodyPost_ret (v := .tuple #[.int .u64 (q : Int), .int .i64 (j : Int)]) (by simp [results, Try.results32]) rfl ?_
            exact ⟨rfl, rfl⟩
        · have gj : ¬ ((2 : Int) * (r : Int) = (d : Int)) := by omega
          have hq : q = M := by have := unhide HQ2; rw [if_neg (by omega)] at this; exact this
          clear HQ2 g g2
          subst hq
          go_wp2
          refine bodyPost_ret (v := .tuple #[.int .u64 (q : Int), .int .i64 (j : Int)]) (by simp [results, Try.results32]) rfl ?_
          exact ⟨rfl, rfl⟩
end Go.Proofs.Ytiafnfjgmfnnoaa
