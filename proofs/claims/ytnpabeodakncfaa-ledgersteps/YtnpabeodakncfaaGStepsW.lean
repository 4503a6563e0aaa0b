/- LedgerSteps. -/
import Derived.Test.YtnpabeodakncfaaGSteps
import Derived.Test.YtnpabeodakncfaaGCase
namespace Go.Proofs.Ytnpabeodakncfaa
open Go.RowKit

set_option maxRecDepth 100000 in
set_option maxHeartbeats 1000000 in
theorem ledgerSteps_any {w : World} {v : Value} {os : List Cs} (hv : Cases w v os) : Calls Try.prog 3 #[v] w fun e w' => e = .returned (.bool true) ∧ Kept [] w w' := by
  have HV := hide hv
  obtain ⟨pa, pcap, rfl, hlen, -⟩ := hv
  have HS := fun W => hide (step_any W 2 ⟨1, 0, 2⟩ ⟨2, 0, 0, 1, 0, 0, 0, .slice none 0 0, .slice none 0 0, 0, .slice none 0 0⟩)
  have HN := fun W n => hide (num_any W n)
  dsimp only at HS
  rw [show stp 2 ⟨1, 0, 2⟩ 2 0 1 = ⟨2, 1, 1⟩ from by decide, show rfs 2 ⟨1, 0, 2⟩ 2 0 1 = 0 from by decide] at HS
  unfold lv rv at HS
  dsimp only at HS
  have HR := fun W c => hide (steps_any W c)
  obtain ⟨n, hn⟩ : ∃ n, os.length = n := ⟨_, rfl⟩
  rw [hn] at hlen HV ⊢
  have HL := hide hn
  clear hn
  go_enter Try.func3, Try.ntmps3
  go_wp2_with fail
  go_loopw [3] (fun i wr => ∃ k : Nat, k ≤ n ∧ i = .int .i64 (k : Int) ∧ Kept [] w wr) (fun i _ => n - (intOf i).toNat)
  case atStart => exact ⟨0, by omega, rfl, Kept.refl _ _⟩
  case round =>
    obtain ⟨k, hk, rfl, hkp⟩ := hrel
    by_cases hlt : k < n
    · have hkn : k < os.length := by rw [unhide HL]; exact hlt
      obtain ⟨o, ho⟩ : ∃ o, os[k]? = some o := ⟨os[k], List.getElem?_eq_getElem hkn⟩
      obtain ⟨pa', pc', hv', -, hall⟩ := (unhide HV).kept hkp
      have hpa : pa = pa' := by cases hv'; rfl
      subst hpa
      obtain ⟨ob, off, hpa, hbl, hrg⟩ := hall k o ho
      subst hpa
      have HG := hide hrg
      have HKP := hide hkp
      clear hkp hall hrg hv' hkn hbl
      go_wp2_with (first
        | (guard_target =~ wpList _ _ _ _ _ _; refine wpList_load_mid rfl 27 _ rfl ob (off + k * 11) rfl (cc o) _ (unhide HG) Try.underlying27 rfl sizeCase ?_)
        | (go_at_call 9; refine (unhide (HR _ o)).mono ?_; rintro e w2 ⟨rfl, hk2⟩; have HK2 := hide ((unhide HKP).step hk2); clear hk2))
      exact ⟨⟨k + 1, by omega, by simp, unhide HK2⟩, by simp [intOf]; omega⟩
    · obtain rfl : k = n := by omega
      have HKP := hide hkp
      clear hkp
      go_wp2_with (first
        | (go_at_call 10; refine (unhide (HS _)).mono ?_; rintro e w2 ⟨rfl, hk2⟩; have HK2 := hide ((unhide HKP).step hk2); clear hk2)
        | (go_at_call 11; refine (unhide (HN _ _)).mono ?_; rintro e w9 ⟨rfl, hq⟩; have hq2 := hq.symm; subst hq2))
      go_ret
      exact ⟨rfl, (unhide HK2).alloc _⟩
end Go.Proofs.Ytnpabeodakncfaa
