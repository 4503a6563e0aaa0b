/- KeysReads: the row that any bytes are the code of, or their first fault, is the document's; the bytes stay as they were. -/
import Derived.Test.YtigmofbammofbaaKDecD
namespace Go.Proofs.Ytigmofbammofbaa
open Go.RowKit

set_option maxRecDepth 100000 in
set_option maxHeartbeats 2000000 in
theorem reads_walk {w : World} {v : Value} {bs : List Nat} (hs : Sees w v bs) (hl : bs.length ≤ 1099511627776) :
    Calls Try.prog 4 #[v] w fun e w' => e = .returned (.bool true) ∧ Kept [] w w' := by
  have hv : bs = [] ∨ ∀ k, v.ownBlock = some k → k < w.heap.size := by
    obtain ⟨a, cap, rfl, _, _, _, h4⟩ := hs
    rcases h4 with h4 | ⟨b, off, rfl, h5, _⟩
    · exact Or.inl h4
    · refine Or.inr fun k hk => ?_
      simp [Value.ownBlock] at hk
      subst hk
      exact h5
  have HRD := hide (rdecX hs hl hv)
  have HDT := hide (dec_told bs)
  have HLE := hide (fun (V : World) (hk : Kept [] w V) => lent_any (hs.kept hk (Or.inr (by simp))) (by omega))
  have HDX := hide (fun (V : World) (g : Value) (h : Sees V g bs) => decX h hl)
  have HS := hide hs
  have HTO := hide (fun (S : Nat → Prop) (V : World) (gv xv : Value) (h1 : RowV S V gv (dRow (decR bs))) (h2 : RowP V xv (partR (dRow (decR bs)))) => told_any _ _ S V gv xv h1 h2 (unhide HDT))
  obtain ⟨a, cap, rfl, hcap, hmx, -⟩ := hs
  unfold maxLen at hmx
  generalize hLL : bs.length = L at *
  have HLL := hide hLL
  clear hLL hv
  generalize dErr (decR bs) = de at *
  have t1 : L < L + 2 := by omega
  have t2 : ((L : Int) < (L : Int) + 2) := by omega
  have t3 : L + 1 < L + 2 := by omega
  have t4 : ((L : Int) + 1 < (L : Int) + 2) := by omega
  have e1 : IntKind.i64.wrap ((L : Int) + 2) = (L : Int) + 2 := by rw [IntKind.wrap_i64]; omega
  have e2 : IntKind.i64.wrap ((L : Int) + 1) = (L : Int) + 1 := by rw [IntKind.wrap_i64]; omega
  go_enter Try.func4, Try.ntmps4
  go_wp2_with (first
    | (go_at_call 16; refine (unhide HRD).mono ?_; rintro e w1 ⟨⟨xa, xn, xc, rfl, hrp⟩, hk⟩; have HK1 := hide hk; have HRP := hide hrp; have HL1 := hide (unhide HLE w1 hk); clear hk hrp HRD)
    | (go_at_call 17; refine (unhide HL1).mono ?_; rintro e w2 ⟨g, gc, rfl, hln, hk⟩; have HK2 := hide ((unhide HK1).trans hk (by simp)); have HRP2 := hide ((unhide HRP).kept hk); have HLN := hide hln; obtain ⟨q1, q2, q3, q4⟩ := hln.caps; have u1 : L + 2 ≤ gc := q1; have u2 : ((L : Int) + 2 ≤ (gc : Int)) := (by omega); have HD2 := hide (unhide HDX w2 _ hln.sees); clear hk hln HL1 HRP q1 q3 q4)
    | (go_at_call 18; refine (unhide HD2).mono ?_; rintro e w3 ⟨⟨ya, yn, yc, rfl, hrv⟩, hk⟩; have HK3 := hide ((unhide HK2).trans hk (by simp)); have HRP3 := hide ((unhide HRP2).kept hk); have HRV3 := hide hrv; have HLN3 := hide ((unhide HLN).kept hk (by simp)); have HSM := hide (same_yes (unhide HLN3).sees ((unhide HS).kept (unhide HK3) (Or.inr (by simp)))); clear hk hrv HD2 HRP2)
    | (go_at_call 15; refine (unhide HSM).mono ?_; rintro e w4 ⟨rfl, hk⟩; have HK4 := hide ((unhide HK3).trans hk (by simp)); have hln4 := (unhide HLN3).kept hk (by simp); have m0 : w4.cell? ⟨g, L, none⟩ = some (.int .u8 201) := (by have := hln4.mark (k := 0) (by omega); simpa [two] using this); have m1 : w4.cell? ⟨g, L + 1, none⟩ = some (.int .u8 77) := (by have := hln4.mark (k := 1) (by omega); simpa [two] using this); have HT4 := hide (unhide HTO _ w4 _ _ ((unhide HRV3).kept hk (by simp)) ((unhide HRP3).kept hk)); clear hk hln4 HSM)
    | (go_at_call 19; refine (unhide HT4).mono ?_; rintro e w5 ⟨rfl, hk⟩; have HK5 := hide ((unhide HK4).trans hk (by simp)); clear hk HT4))
  go_ret
  exact ⟨rfl, unhide HK5⟩
end Go.Proofs.Ytigmofbammofbaa
