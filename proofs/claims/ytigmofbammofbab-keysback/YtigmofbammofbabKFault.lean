/- The first fault of a row. -/
import Derived.Test.YtigmofbammofbabKMem
namespace Go.Proofs.Ytigmofbammofbab
open Go.RowKit

def FaultC (r : Row) : Prop := ∀ (S : Nat → Prop) (w : World) (v : Value) (d : Nat), RowV S w v r → d ≤ 16 →
    Calls Try.prog 26 #[v, .int .i64 (d : Int)] w fun e w' => e = .returned (.int .i64 (faultR r d : Nat)) ∧ Kept [] w w'

set_option maxRecDepth 100000 in
set_option maxHeartbeats 1000000 in
theorem fault_any (r : Row) : FaultC r := by
  refine Row.parts_ind (fun r hC => ?_) r
  rintro S w v d ⟨a, cap, rfl, h1, h2, h3⟩ hd
  have hml : r.len ≤ 9223372036854775807 := by unfold maxLen at h2; omega
  have H3 := hide h3
  have HC := hide hC
  clear h3 hC
  generalize hL : r.len = L at *
  have HL := hide hL
  clear hL
  have hsf := fun (w : World) (a : Addr) (m : Nat) (md : Mode) => run_store Try.prog w a (.float .f64 m) md rfl
  have hsc := fun (w : World) (a : Addr) (m n : Nat) (md : Mode) => run_store Try.prog w a (.complex .f64 m n) md rfl
  go_enter Try.func26, Try.ntmps26
  go_wp2_with fail
  go_loopw [10] (fun i wr => ∃ (k : Nat) (s : Row), i = .int .i64 k ∧ k + s.len = L ∧ faultR r d = faultR s d ∧ PartsOk FaultC s ∧ (s = .nil ∨ ∃ b off, a = some ⟨b, off, none⟩ ∧ b < w.heap.size ∧ AtV S w s b (off + k * 7)) ∧ Kept [] w wr) (fun i _ => L - (intOf i).toNat)
  case atStart => exact ⟨0, r, rfl, by rw [unhide HL]; omega, rfl, unhide HC, by
      rcases unhide H3 with h | ⟨b, off, q1, q2, _, q3⟩
      · exact Or.inl h
      · exact Or.inr ⟨b, off, q1, q2, by simpa using q3⟩, Kept.refl _ _⟩
  case round =>
    obtain ⟨k, s, rfl, hk, hf, hps, hat, hkp⟩ := hrel
    have HF := hide hf
    have HK := hide hkp
    clear hf hkp
    cases s with
    | nil =>
      simp only [Row.len, Nat.add_zero] at hk
      subst hk
      have t1 : ((k : Int) < (k : Int)) = False := by simp
      go_wp2
      go_ret
      exact ⟨by rw [unhide HF]; rfl, unhide HK⟩
    | cons h p s =>
      simp only [Row.len] at hk
      obtain ⟨hC1, hC2⟩ := hps
      rcases hat with hat | ⟨b, off, rfl, hb, hat⟩
      · cases hat
      rw [AtV_cons] at hat
      obtain ⟨⟨hok, tv, pv, hc, ht, hpv⟩, hrest⟩ := hat
      have hc' := hc.kept (unhide HK) hb (by simp)
      obtain ⟨c0, c1, c2, c3, c4, c5, c6⟩ := hc'
      have hpv' := hpv.kept (unhide HK) (by simp)
      obtain ⟨pa, pc, hpv1, -⟩ := hpv
      have HP := hide hpv'
      have HAT : Hid (s = .nil ∨ ∃ b' off', (some ⟨b, off, none⟩ : Option Addr) = some ⟨b', off', none⟩ ∧ b' < w.heap.size ∧ AtV S w s b' (off' + (k + 1) * 7)) := Or.inr ⟨b, off, rfl, hb, by rw [show off + (k + 1) * 7 = off + k * 7 + 7 by omega]; exact hrest⟩
      have HC2 := hide hC2
      have HC1 := hide hC1
      obtain ⟨⟨ta, tc, htv1, -⟩, -⟩ := ht
      clear hrest hC1 hC2 hpv' hc
      subst hpv1 htv1
      generalize p.len = PL at *
      rw [faultR_cons] at HF
      obtain ⟨kind, bb, n, re, prr, im, text⟩ := h
      simp only at *
      have t1 : (k : Int) < (L : Int) := by omega
      generalize text.length = TL at *
      have HKA : Hid (Kept [] w (wr.alloc (.cells #[.int .i64 kind, .bool bb, .int .i64 n, .float .f64 re, .complex .f64 prr im, .slice ta TL tc, .slice pa PL pc] 48))) := (unhide HK).alloc _
      by_cases hk1 : kind < 1
      · rw [if_pos (Or.inl hk1)] at HF
        go_wp2
        go_ret
        exact ⟨by rw [unhide HF]; rfl, unhide HKA⟩
      by_cases hk2 : 7 < kind
      · rw [if_pos (Or.inr hk2)] at HF
        go_wp2
        go_ret
        exact ⟨by rw [unhide HF]; rfl, unhide HKA⟩
      rw [if_neg (by omega)] at HF
      by_cases hk7 : kind = 7
      · rw [if_pos hk7] at HF
        subst hk7
        by_cases hd16 : d = 16
        · subst hd16
          rw [if_pos rfl] at HF
          go_wp2
          go_ret
          exact ⟨by rw [unhide HF]; rfl, unhide HKA⟩
        · rw [if_neg hd16] at HF
          have t2 : ((d : Int) = 16) = False := by simp; omega
          have HCC := hide (unhide HC1 S _ _ (d + 1) ((unhide HP).kept ((Kept.refl [] wr).alloc (.cells #[.int .i64 7, .bool bb, .int .i64 n, .float .f64 re, .complex .f64 prr im, .slice ta TL tc, .slice pa PL pc] 48)) (by simp)) (by omega))
          have e1 : ((d + 1 : Nat) : Int) = (d : Int) + 1 := by omega
          rw [e1] at HCC
          clear e1
          have hflt := faultR_lt p (d + 1)
          generalize faultR p (d + 1) = fp at *
          by_cases hfp : fp = 0
          · subst hfp
            rw [if_neg (by simp)] at HF
            go_wp2_with (first | (go_at_call 26; refine (unhide HCC).mono ?_; rintro e w1 ⟨rfl, hk9⟩; have HK9 : Hid (Kept [] w w1) := (unhide HKA).trans hk9 (by simp); clear hk9))
            exact ⟨⟨k + 1, s, by simp, by omega, unhide HF, unhide HC2, unhide HAT, unhide HK9⟩, by simp [intOf]; omega⟩
          · rw [if_pos hfp] at HF
            have t3 : ((fp : Int) = 0) = False := by simp; omega
            go_wp2_with (first | (go_at_call 26; refine (unhide HCC).mono ?_; rintro e w1 ⟨rfl, hk9⟩; have HK9 : Hid (Kept [] w w1) := (unhide HKA).trans hk9 (by simp); clear hk9))
            go_ret
            exact ⟨by rw [unhide HF]; rfl, unhide HK9⟩
      · rw [if_neg hk7] at HF
        go_wp2
        exact ⟨⟨k + 1, s, by simp, by omega, unhide HF, unhide HC2, unhide HAT, unhide HKA⟩, by simp [intOf]; omega⟩
end Go.Proofs.Ytigmofbammofbab
