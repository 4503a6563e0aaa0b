/- Cases that came in; LedgerRises. -/
import Derived.Test.YtnpabeodakncfaaGRis
import Derived.Deep.MidRow
namespace Go.Proofs.Ytnpabeodakncfaa
open Go.RowKit

/-- cases that came in -/
def Cases (w : World) (v : Value) (os : List Cs) : Prop :=
  ∃ a cap, v = .slice a os.length cap ∧ os.length ≤ 9223372036854775807 ∧ ∀ k o, os[k]? = some o → ∃ b off, a = some ⟨b, off, none⟩ ∧ b < w.heap.size ∧ w.rangeAt b (off + k * 11) (cc o)
theorem range_kept {F : List Nat} {w w' : World} {b o : Nat} {l : List Value} (h : w.rangeAt b o l) (hk : Kept F w w') (hb : b < w.heap.size) (hn : b ∉ F) : w'.rangeAt b o l :=
  fun j v hv => (hk.cell (p := ⟨b, o + j, none⟩) hb hn).trans (h j v hv)
theorem Cases.kept {w w' : World} {v : Value} {os : List Cs} (h : Cases w v os) (hk : Kept [] w w') : Cases w' v os := by
  obtain ⟨a, cap, rfl, h1, h2⟩ := h
  refine ⟨a, cap, rfl, h1, fun k o ho => ?_⟩
  obtain ⟨b, off, rfl, h4, h5⟩ := h2 k o ho
  exact ⟨b, off, rfl, Nat.lt_of_lt_of_le h4 hk.size, range_kept h5 hk h4 (by simp)⟩
theorem sizeCase : (Try.prog.info? 27).map (·.size) = some 11 := by kernel_rfl

set_option maxRecDepth 100000 in
set_option maxHeartbeats 1000000 in
theorem ledgerRises_any {w : World} {v : Value} {os : List Cs} (hv : Cases w v os) : Calls Try.prog 6 #[v] w fun e w' => e = .returned (.bool true) ∧ Kept [] w w' := by
  have HV := hide hv
  obtain ⟨pa, pcap, rfl, hlen, -⟩ := hv
  have HN := fun W => hide (known_any W)
  have HR := fun W c => hide (rises_any W c)
  obtain ⟨n, hn⟩ : ∃ n, os.length = n := ⟨_, rfl⟩
  rw [hn] at hlen HV ⊢
  have HL := hide hn
  clear hn
  go_enter Try.func6, Try.ntmps6
  go_wp2_with (first
    | (go_at_call 18; refine (unhide (HN _)).mono ?_; rintro e w1 ⟨rfl, hk1⟩; have HK1 := hide hk1; clear hk1))
  go_loopw [3] (fun i wr => ∃ k : Nat, k ≤ n ∧ i = .int .i64 (k : Int) ∧ Kept [] w wr) (fun i _ => n - (intOf i).toNat)
  case atStart => exact ⟨0, by omega, rfl, unhide HK1⟩
  case round =>
    obtain ⟨k, hk, rfl, hkp⟩ := hrel
    by_cases hlt : k < n
    · have hkn : k < os.length := by rw [unhide HL]; exact hlt
      obtain ⟨o, ho⟩ : ∃ o, os[k]? = some o := ⟨os[k], List.getElem?_eq_getElem hkn⟩
      obtain ⟨pa', pc', hv', -, hall⟩ := (unhide HV).kept hkp
      have hpa : pa = pa' := by cases hv'; rfl
      subst hpa
      obtain ⟨ob, off, hpa, hbl, hrg⟩ := hall k o ho
      subst hpa
      have HG := hide hrg
      have HKP := hide hkp
      clear hkp hall hrg hv' hkn hbl
      go_wp2_with (first
        | (guard_target =~ wpList _ _ _ _ _ _; refine wpList_load_mid rfl 27 _ rfl ob (off + k * 11) rfl (cc o) _ (unhide HG) Try.underlying27 rfl sizeCase ?_)
        | (go_at_call 19; refine (unhide (HR _ o)).mono ?_; rintro e w2 ⟨rfl, hk2⟩; have HK2 := hide ((unhide HKP).step hk2); clear hk2))
      exact ⟨⟨k + 1, by omega, by simp, unhide HK2⟩, by simp [intOf]; omega⟩
    · obtain rfl : k = n := by omega
      have HKP := hide hkp
      clear hkp
      go_wp2_with fail
      go_ret
      exact ⟨rfl, unhide HKP⟩
end Go.Proofs.Ytnpabeodakncfaa
