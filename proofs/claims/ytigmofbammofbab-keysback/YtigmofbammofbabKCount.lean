/- How many values a row has; how long its code can be. -/
import Derived.Test.YtigmofbammofbabKPart
namespace Go.Proofs.Ytigmofbammofbab
open Go.RowKit

def cnt : Row → Nat
  | .nil => 0
  | .cons h p r => 1 + h.text.length / 64 + cnt p + cnt r
theorem cnt_len (r : Row) : r.len ≤ cnt r := by
  induction r with
  | nil => simp [cnt, Row.len]
  | cons h p r _ ih => simp only [cnt, Row.len]; omega
theorem body_len (h : Hd) (pc : List Nat) : (body h pc).length ≤ 17 + 2 * h.text.length + pc.length := by
  have he := esc_length h.text
  unfold body
  split
  · simp; omega
  split
  · simp [be8_length]; omega
  split
  · simp [be8_length]; omega
  split
  · simp [be8_length]; omega
  split
  · simp; omega
  split
  · simp; omega
  · simp
theorem code_cnt (r : Row) : (codeR r).length ≤ 150 * cnt r := by
  induction r with
  | nil => simp [codeR, cnt]
  | cons h p r ihp ihr =>
    have := body_len h (codeR p)
    rw [codeR_cons]
    simp only [List.length_append, List.length_cons, cnt]
    omega

def CntC (r : Row) : Prop := ∀ (w : World) (v : Value) (l : Nat), RowP w v r → l ≤ 131072 →
  Calls Try.prog 25 #[v, .int .i64 (l : Int)] w fun e w' => (∃ c : Int, e = .returned (.int .i64 c) ∧ ((l < cnt r ∧ c = -1) ∨ (0 ≤ c ∧ c + cnt r = l))) ∧ w' = w

set_option maxRecDepth 100000 in
set_option maxHeartbeats 1000000 in
theorem counted_any (r : Row) : CntC r := by
  refine Row.parts_ind (fun r hC => ?_) r
  rintro w v l ⟨a, cap, rfl, h1, h2, h3⟩ hl
  have hml : r.len ≤ 9223372036854775807 := by unfold maxLen at h2; omega
  have H3 := hide h3
  have HC := hide hC
  clear h3 hC
  generalize hL : r.len = L at *
  have HL := hide hL
  clear hL
  by_cases hLl : l < L
  · have t0 : ((L : Int) > (l : Int)) = True := by simp; omega
    go_enter Try.func25, Try.ntmps25
    have hcl := cnt_len r
    have HCL : Hid (l < cnt r) := by unfold Hid; rw [unhide HL] at hcl; omega
    clear hcl
    go_wp2
    go_ret
    exact ⟨⟨-1, rfl, Or.inl ⟨unhide HCL, rfl⟩⟩, rfl⟩
  have t0 : ((L : Int) > (l : Int)) = False := by simp; omega
  go_enter Try.func25, Try.ntmps25
  go_wp2_with fail
  go_loop [1, 5] (fun lf i => ∃ (k m : Nat) (s : Row), i = .int .i64 k ∧ lf = .int .i64 m ∧ k + s.len = L ∧ m + cnt r = l + cnt s ∧ m ≤ l ∧ PartsOk CntC s ∧ (s = .nil ∨ ∃ b off, a = some ⟨b, off, none⟩ ∧ b < w.heap.size ∧ AtP w s b (off + k * 7))) (fun _ i => L - (intOf i).toNat)
  case atStart => exact ⟨0, l, r, rfl, rfl, by rw [unhide HL]; omega, rfl, Nat.le_refl _, unhide HC, by
      rcases unhide H3 with h | ⟨b, off, q1, q2, q3⟩
      · exact Or.inl h
      · exact Or.inr ⟨b, off, q1, q2, by simpa using q3⟩⟩
  case round =>
    obtain ⟨k, m, s, rfl, rfl, hk, hm, hml2, hps, hat⟩ := hrel
    cases s with
    | nil =>
      simp only [Row.len, Nat.add_zero] at hk
      subst hk
      have t1 : ((k : Int) < (k : Int)) = False := by simp
      simp only [cnt, Nat.add_zero] at hm
      have HM := hide hm
      clear hm
      go_wp2
      go_ret
      exact ⟨⟨(m : Int), rfl, Or.inr ⟨by omega, by have := unhide HM; omega⟩⟩, rfl⟩
    | cons h p s =>
      simp only [Row.len] at hk
      obtain ⟨hC1, hC2⟩ := hps
      rcases hat with hat | ⟨b, off, hra, hb, hat⟩
      · cases hat
      subst hra
      rw [AtP_cons] at hat
      obtain ⟨⟨hok, tv, pv, hc, ht, hpv⟩, hrest⟩ := hat
      obtain ⟨c0, c1, c2, c3, c4, c5, c6⟩ := hc
      have HCC := hide (fun m hm => hC1 w pv m hpv hm)
      obtain ⟨pa, pc, hpv1, -⟩ := hpv
      obtain ⟨ta, tc, htv1, g1, g2, -⟩ := ht
      have HAT : Hid (s = .nil ∨ ∃ b' off', (some ⟨b, off, none⟩ : Option Addr) = some ⟨b', off', none⟩ ∧ b' < w.heap.size ∧ AtP w s b' (off' + (k + 1) * 7)) := Or.inr ⟨b, off, rfl, hb, by rw [show off + (k + 1) * 7 = off + k * 7 + 7 by omega]; exact hrest⟩
      have HC2 := hide hC2
      clear hrest hC1 hC2
      subst hpv1 htv1
      simp only [cnt] at hm
      have hTm : h.text.length ≤ 9223372036854775807 := by unfold maxLen at g2; omega
      generalize p.len = PL at *
      generalize h.text.length = TL at *
      have t1 : (k : Int) < (L : Int) := by omega
      have HM := hide hm
      clear hm
      by_cases hneg : m < 1 + TL / 64
      · have t2 : ((m : Int) - 1 - (TL : Int) / 64 < 0) = True := by simp; omega
        go_wp2
        go_ret
        exact ⟨⟨-1, rfl, Or.inl ⟨by have := unhide HM; omega, rfl⟩⟩, rfl⟩
      · have t2 : ((m : Int) - 1 - (TL : Int) / 64 < 0) = False := by simp; omega
        obtain ⟨m', hm'⟩ : ∃ m', m = m' + 1 + TL / 64 := ⟨m - 1 - TL / 64, by omega⟩
        have e1 : (m : Int) - 1 - (TL : Int) / 64 = (m' : Int) := by omega
        have HCC2 := hide (unhide HCC m' (by omega))
        have HM' := hide hm'
        clear hm'
        go_wp2_with (first | (go_at_call 25; refine (unhide HCC2).mono ?_; rintro e w1 ⟨⟨c, rfl, hcc⟩, hq⟩; have hq' := hq.symm; subst hq'; clear hq; have HCX := hide hcc; clear hcc))
        · go_ret
          refine ⟨⟨-1, rfl, Or.inl ⟨?_, rfl⟩⟩, rfl⟩
          have q1 := unhide HM
          have q2 := unhide HM'
          rcases unhide HCX with ⟨hc, _⟩ | ⟨hc, hc2⟩
          · omega
          · omega
        · rcases unhide HCX with ⟨_, hc⟩ | ⟨hc, hc2⟩
          · subst hc; omega
          · obtain ⟨m2, rfl⟩ := Int.eq_ofNat_of_zero_le hc
            have q1 := unhide HM
            have q2 := unhide HM'
            exact ⟨⟨k + 1, m2, s, by simp, rfl, by omega, by omega, by omega, unhide HC2, unhide HAT⟩, by simp [intOf]; omega⟩

set_option maxRecDepth 100000 in
set_option maxHeartbeats 400000 in
theorem beyond_any {w : World} {v : Value} {r : Row} (h : RowP w v r) :
    Calls Try.prog 8 #[v] w fun e w' => e = .returned (.bool (decide (131072 < cnt r))) ∧ w' = w := by
  have HC := hide (counted_any r w v 131072 h (by omega))
  obtain ⟨a, cap, rfl, -⟩ := h
  generalize r.len = L at *
  go_enter Try.func8, Try.ntmps8
  go_wp2_with (first | (go_at_call 25; refine (unhide HC).mono ?_; rintro e w1 ⟨⟨c, rfl, hcc⟩, hq⟩; have hq' := hq.symm; subst hq'; clear hq; have HCX := hide hcc; clear hcc))
  go_ret
  refine ⟨?_, rfl⟩
  rcases unhide HCX with ⟨h1, rfl⟩ | ⟨hc, hc2⟩
  · simp [h1]
  · have h1 : ¬ 131072 < cnt r := by omega
    have h2 : ¬ c < 0 := by omega
    simp [h1, h2]
end Go.Proofs.Ytigmofbammofbab
