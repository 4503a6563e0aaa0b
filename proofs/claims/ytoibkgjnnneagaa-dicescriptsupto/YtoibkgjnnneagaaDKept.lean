/- kept: are weights that were lent as they were? -/
import Derived.Test.YtoibkgjnnneagaaDFloats
import Derived.BigRegion
namespace Go.Proofs.Ytoibkgjnnneagaa
open Go.RowKit

set_option maxRecDepth 100000 in
set_option maxHeartbeats 4000000 in
theorem kept_any {w : World} {base g cap : Nat} {v : Value} {l : List Nat} (hf : FRow w base g cap l) (hv : SeesU w v l) (hl : l.length ≤ 2097152) :
    Calls Try.prog 40 #[.slice (some ⟨g, 0, none⟩) l.length cap, v] w fun e w' => e = .returned (.bool true) ∧ Kept [] w w' := by
  have hcap : l.length + 1 ≤ cap ∧ cap ≤ maxLen := by
    rcases hf.2 with ⟨h1, _⟩ | ⟨g', cap', cur, hv, hb, hg, hc, hm, _⟩
    · cases h1
    · cases hv; exact ⟨hc, hm⟩
  have hadd : ∀ k, (⟨g, 0, none⟩ : Addr).add k = ⟨g, k, none⟩ := fun k => by unfold Addr.add; split <;> simp_all
  have hmark : w.cell? ⟨g, l.length, none⟩ = some (.float .f64 13842939354630062080) := by
    have := hf.cells (g := g) rfl l.length (.float .f64 13842939354630062080) (by rw [flts_append, List.getElem?_append_right (by rw [flts_length]; exact Nat.le_refl _), flts_length, Nat.sub_self]; rfl)
    rwa [hadd] at this
  have hat : Hid (∀ j, j < l.length → w.cell? ⟨g, j, none⟩ = some (.float .f64 (l.getD j 0))) := fun j hj => by
    have := hf.cells (g := g) rfl j (.float .f64 (l.getD j 0)) (by rw [flts_append, List.getElem?_append_left (by rw [flts_length]; exact hj)]; exact flts_at l hj)
    rwa [hadd] at this
  have HV := hide hv
  obtain ⟨p, pc, rfl, h1, h2, -⟩ := hv
  obtain ⟨hc1, hc2⟩ := hcap
  unfold maxLen at hc2 h2
  clear hf hadd
  generalize hLL : l.length = L at *
  clear hLL
  have zm : (FloatKind.f64.format.order 13842939354630062080 13842939354630062080 != some .eq) = false := by decide
  have HB := kb
  go_enter Try.func40, Try.ntmps40
  go_wp2_with fail
  go_loopw [6] (fun i wr => ∃ k : Nat, k ≤ L ∧ i = .int .i64 k ∧ Quiet w wr) (fun i _ => L - (intOf i).toNat)
  case atStart => exact ⟨0, by omega, rfl, Quiet.refl _⟩
  case round =>
    obtain ⟨k, hk, rfl, hq⟩ := hrel
    replace hq := hide hq
    by_cases hlt : k < L
    · have c1 := unhide hat k hlt
      obtain ⟨b, off, hpa, c2⟩ := (unhide HV).at (k := k) hlt
      subst hpa
      rw [← (unhide hq).cell] at c1 c2
      generalize l.getD k 0 = x at *
      go_wp2_with fail
      go_region
      go_wp2_with fail
      exact ⟨⟨k + 1, by omega, by simp, (unhide hq).drew⟩, by simp [intOf]; omega⟩
    · obtain rfl : k = L := by omega
      go_wp2_with fail
      go_ret
      exact ⟨rfl, (unhide hq).kept⟩
end Go.Proofs.Ytoibkgjnnneagaa
