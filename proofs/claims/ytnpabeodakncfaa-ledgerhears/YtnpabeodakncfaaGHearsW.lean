/- LedgerHears. -/
import Derived.Test.YtnpabeodakncfaaGRHear
import Derived.Test.YtnpabeodakncfaaGCase
import Derived.Deep.DeepCutAuto
namespace Go.Proofs.Ytnpabeodakncfaa
open Go.RowKit

set_option maxRecDepth 100000 in
set_option maxHeartbeats 1000000 in
theorem ledgerHears_any {w : World} {v : Value} {os : List Cs} (hv : Cases w v os) : Calls Try.prog 4 #[v] w fun e w' => e = .returned (.bool true) ∧ Kept [] w w' := by
  have HV := hide hv
  obtain ⟨pa, pcap, rfl, hlen, -⟩ := hv
  have HQ := fun W => hear_any W 1 ⟨0, 0, 2⟩ 3 1 2
  rw [show her 1 ⟨0, 0, 2⟩ 3 1 2 = (4, 4) from by decide] at HQ
  obtain ⟨n, hn⟩ : ∃ n, os.length = n := ⟨_, rfl⟩
  rw [hn] at hlen HV ⊢
  have HL := hide hn
  clear hn
  unfold lv at HQ
  dsimp only at HQ
  have HQH := fun W => hide (HQ W)
  clear HQ
  go_enter Try.func4, Try.ntmps4
  go_wp2_with fail
  go_loopw [3] (fun i wr => ∃ k : Nat, k ≤ n ∧ i = .int .i64 (k : Int) ∧ Kept [] w wr) (fun i _ => n - (intOf i).toNat)
  case atStart => exact ⟨0, by omega, rfl, Kept.refl _ _⟩
  case round =>
    obtain ⟨k, hk, rfl, hkp⟩ := hrel
    by_cases hlt : k < n
    · have hkn : k < os.length := by rw [unhide HL]; exact hlt
      obtain ⟨o, ho⟩ : ∃ o, os[k]? = some o := ⟨os[k], List.getElem?_eq_getElem hkn⟩
      obtain ⟨pa', pc', hv', -, hall⟩ := (unhide HV).kept hkp
      have hpa : pa = pa' := by cases hv'; rfl
      subst hpa
      obtain ⟨ob, off, hpa, hbl, hrg⟩ := hall k o ho
      subst hpa
      have HG := hide hrg
      have HKP := hide hkp
      have HH := fun W => hide (hear_any W o.sv ⟨o.ph, o.ep, o.pe⟩ o.ms o.se o.sd)
      have HR := fun W => hide (rhear_any W o.sv ⟨o.ph, o.ep, o.pe⟩ o.ms o.se o.sd)
      unfold lv at HH HR
      dsimp only at HH HR
      generalize her o.sv ⟨o.ph, o.ep, o.pe⟩ o.ms o.se o.sd = Z at HH HR
      obtain ⟨R, Y⟩ := Z
      clear hkp hall hrg hv' hkn hbl ho
      obtain ⟨sv, hm, ph, ep, pe, rc, re, rp, ms, se, sd⟩ := o
      unfold cc at HG
      dsimp only at HG HH HR
      go_upto_region 3 with (first
        | (guard_target =~ wpList _ _ _ _ _ _; refine wpList_load_mid rfl 27 _ rfl ob (off + k * 11) rfl _ _ (unhide HG) Try.underlying27 rfl sizeCase ?_))
      go_wp2_with (first
        | (go_at_call 12; refine (unhide (HH _)).mono ?_; rintro e w2 ⟨rfl, hk2⟩; have hbx := (Blk.new wr _ _).kept hk2 (by simp); have HK2 := hide (((unhide HKP).alloc _).step hk2); obtain ⟨c0, c1, c2, c3, c4, c5, c6, c7, c8, c9, c10⟩ := box11 hbx; clear hk2 hbx)
        | (go_at_call 13; refine (unhide (HR _)).mono ?_; rintro e w3 ⟨rfl, hk2⟩; have HK3 := hide ((unhide HK2).step hk2); clear hk2))
      exact ⟨⟨k + 1, by omega, by simp, unhide HK3⟩, by simp [intOf]; omega⟩
    · obtain rfl : k = n := by omega
      have HKP := hide hkp
      clear hkp
      go_wp2_with (first
        | (go_at_call 12; refine (unhide (HQH _)).mono ?_; rintro e w2 ⟨rfl, hk2⟩; have HK2 := hide ((unhide HKP).step hk2); clear hk2))
      go_ret
      exact ⟨rfl, unhide HK2⟩
end Go.Proofs.Ytnpabeodakncfaa
