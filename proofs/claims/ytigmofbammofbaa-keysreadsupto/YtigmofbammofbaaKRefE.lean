/- The document's faults and words. -/
import Derived.Test.YtigmofbammofbaaKCount
import Derived.Test.YtigmofbammofbaaKFlt
namespace Go.Proofs.Ytigmofbammofbaa
open Go.RowKit

def RFaultC (r : Row) : Prop := ∀ (w : World) (v : Value) (d : Nat), RowP w v r → d ≤ 16 →
    Calls Try.prog 28 #[v, .int .i64 (d : Int)] w fun e w' => e = .returned (.int .i64 (faultR r d : Nat)) ∧ w' = w

set_option maxRecDepth 100000 in
set_option maxHeartbeats 1000000 in
theorem rfault_any (r : Row) : RFaultC r := by
  refine Row.parts_ind (fun r hC => ?_) r
  rintro w v d ⟨a, cap, rfl, h1, h2, h3⟩ hd
  have hml : r.len ≤ 9223372036854775807 := by unfold maxLen at h2; omega
  have H3 := hide h3
  have HC := hide hC
  clear h3 hC
  generalize hL : r.len = L at *
  have HL := hide hL
  clear hL
  go_enter Try.func28, Try.ntmps28
  go_wp2_with fail
  go_loop [5] (fun i => ∃ (k : Nat) (s : Row), i = .int .i64 k ∧ k + s.len = L ∧ faultR r d = faultR s d ∧ PartsOk RFaultC s ∧ (s = .nil ∨ ∃ b off, a = some ⟨b, off, none⟩ ∧ b < w.heap.size ∧ AtP w s b (off + k * 7))) (fun i => L - (intOf i).toNat)
  case atStart => exact ⟨0, r, rfl, by rw [unhide HL]; omega, rfl, unhide HC, by
      rcases unhide H3 with h | ⟨b, off, q1, q2, q3⟩
      · exact Or.inl h
      · exact Or.inr ⟨b, off, q1, q2, by simpa using q3⟩⟩
  case round =>
    obtain ⟨k, s, rfl, hk, hf, hps, hat⟩ := hrel
    have HF := hide hf
    clear hf
    cases s with
    | nil =>
      simp only [Row.len, Nat.add_zero] at hk
      subst hk
      have t1 : ((k : Int) < (k : Int)) = False := by simp
      go_wp2
      go_ret
      exact ⟨by rw [unhide HF]; rfl, rfl⟩
    | cons h p s =>
      simp only [Row.len] at hk
      obtain ⟨hC1, hC2⟩ := hps
      rcases hat with hat | ⟨b, off, hra, hb, hat⟩
      · cases hat
      subst hra
      rw [AtP_cons] at hat
      obtain ⟨⟨hok, tv, pv, hc, ht, hpv⟩, hrest⟩ := hat
      obtain ⟨c0, c1, c2, c3, c4, c5, c6⟩ := hc
      have HCC := hide (fun d hd => hC1 w pv d hpv hd)
      obtain ⟨pa, pc, hpv1, -⟩ := hpv
      have HAT : Hid (s = .nil ∨ ∃ b' off', (some ⟨b, off, none⟩ : Option Addr) = some ⟨b', off', none⟩ ∧ b' < w.heap.size ∧ AtP w s b' (off' + (k + 1) * 7)) := Or.inr ⟨b, off, rfl, hb, by rw [show off + (k + 1) * 7 = off + k * 7 + 7 by omega]; exact hrest⟩
      have HC2 := hide hC2
      clear hrest hC1 hC2 ht
      subst hpv1
      rw [faultR_cons] at HF
      obtain ⟨kind, bb, nn, re, prr, im, text⟩ := h
      simp only at *
      generalize p.len = PL at *
      have t1 : (k : Int) < (L : Int) := by omega
      by_cases hk1 : kind < 1
      · rw [if_pos (Or.inl hk1)] at HF
        go_wp2
        go_ret
        exact ⟨by rw [unhide HF]; rfl, rfl⟩
      by_cases hk2 : 7 < kind
      · rw [if_pos (Or.inr hk2)] at HF
        go_wp2
        go_ret
        exact ⟨by rw [unhide HF]; rfl, rfl⟩
      rw [if_neg (by omega)] at HF
      by_cases hk7 : kind = 7
      · rw [if_pos hk7] at HF
        subst hk7
        by_cases hd16 : d = 16
        · subst hd16
          rw [if_pos rfl] at HF
          go_wp2
          go_ret
          exact ⟨by rw [unhide HF]; rfl, rfl⟩
        · rw [if_neg hd16] at HF
          have t2 : ((d : Int) = 16) = False := by simp; omega
          have HC3 := hide (unhide HCC (d + 1) (by omega))
          have e1 : ((d + 1 : Nat) : Int) = (d : Int) + 1 := by omega
          rw [e1] at HC3
          clear e1
          have hflt := faultR_lt p (d + 1)
          generalize faultR p (d + 1) = fp at *
          by_cases hfp : fp = 0
          · subst hfp
            rw [if_neg (by simp)] at HF
            go_wp2_with (first | (go_at_call 28; refine (unhide HC3).mono ?_; rintro e w1 ⟨rfl, hq⟩; have hq' := hq.symm; subst hq'))
            exact ⟨⟨k + 1, s, by simp, by omega, unhide HF, unhide HC2, unhide HAT⟩, by simp [intOf]; omega⟩
          · rw [if_pos hfp] at HF
            have t3 : ((fp : Int) = 0) = False := by simp; omega
            go_wp2_with (first | (go_at_call 28; refine (unhide HC3).mono ?_; rintro e w1 ⟨rfl, hq⟩; have hq' := hq.symm; subst hq'))
            go_ret
            exact ⟨by rw [unhide HF]; rfl, rfl⟩
      · rw [if_neg hk7] at HF
        go_wp2
        exact ⟨⟨k + 1, s, by simp, by omega, unhide HF, unhide HC2, unhide HAT⟩, by simp [intOf]; omega⟩

theorem rcanon {x : Nat} (hx : x < 18446744073709551616) : canon x = if 9218868437227405312 < x % 9223372036854775808 then oneNaN else x := by
  unfold canon
  have h := nanB_iff hx
  unfold isNum at h
  by_cases h1 : 9218868437227405312 < x % 9223372036854775808
  · rw [if_pos (h.2 (by omega)), if_pos h1]
  · rw [if_neg (fun hh => (h.1 hh) (by omega)), if_neg h1]

set_option maxRecDepth 100000 in
set_option maxHeartbeats 400000 in
theorem rclean_any (x : Nat) (hx : x < 18446744073709551616) (w : World) : Calls Try.prog 50 #[.int .u64 (x : Int)] w fun e w' => e = .returned (.int .u64 (canon x : Nat)) ∧ w' = w := by
  have hc := rcanon hx
  by_cases h1 : 9218868437227405312 < x % 9223372036854775808
  · rw [if_pos h1] at hc
    have HC := hide hc
    have t1 : ((x : Int) % 9223372036854775808 > 9218868437227405312) = True := by simp; omega
    clear hc h1
    go_enter Try.func50, Try.ntmps50
    go_wp2
    go_ret
    exact ⟨by rw [unhide HC]; rfl, rfl⟩
  · rw [if_neg h1] at hc
    have HC := hide hc
    have t1 : ((x : Int) % 9223372036854775808 > 9218868437227405312) = False := by simp; omega
    clear hc h1
    go_enter Try.func50, Try.ntmps50
    go_wp2
    go_ret
    exact ⟨by rw [unhide HC]; rfl, rfl⟩
end Go.Proofs.Ytigmofbammofbaa
