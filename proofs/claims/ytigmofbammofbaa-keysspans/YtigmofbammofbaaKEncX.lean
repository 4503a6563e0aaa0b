/- Encode and Span, the program's and the document's, good rows and others in one. -/
import Derived.Test.YtigmofbammofbaaKSpan
import Derived.Test.YtigmofbammofbaaKRefD
namespace Go.Proofs.Ytigmofbammofbaa
open Go.RowKit

/-- the code, or nothing -/
def codeX (r : Row) : List Nat := if faultR r 0 = 0 then codeR r else []
def spanX (r : Row) : List Nat := if faultR r 0 = 0 then codeR r ++ [8] else []
theorem encX {S : Nat → Prop} {w : World} {v : Value} {r : Row} (hr : RowV S w v r) (hc : cnt r ≤ 262144) :
    Calls Try.prog 13 #[v] w fun e w' => Kept [] w w' ∧ ∃ a n cap, e = .returned (.tuple #[.slice a n cap, .int .i64 (faultR r 0 : Nat)]) ∧ Sees w' (.slice a n cap) (codeX r) := by
  refine (enc_val2 hr hc).mono ?_
  rintro e w' ⟨hk, ⟨hf, a, n, c, rfl, hs⟩ | ⟨hf, rfl⟩⟩
  · exact ⟨hk, a, n, c, by rw [hf]; rfl, by unfold codeX; rw [if_pos hf]; exact hs⟩
  · exact ⟨hk, none, 0, 0, rfl, by unfold codeX; rw [if_neg hf]; exact Sees.nil _⟩
theorem spanXp {S : Nat → Prop} {w : World} {v : Value} {r : Row} (hr : RowV S w v r) (hc : cnt r ≤ 262144) :
    Calls Try.prog 23 #[v] w fun e w' => Kept [] w w' ∧ ∃ a n c a2 n2 c2, e = .returned (.tuple #[.slice a n c, .slice a2 n2 c2, .int .i64 (faultR r 0 : Nat)]) ∧ Sees w' (.slice a n c) (codeX r) ∧ Sees w' (.slice a2 n2 c2) (spanX r) := by
  refine (span_any hr hc).mono ?_
  rintro e w' ⟨hk, ⟨hf, a, n, c, a2, n2, c2, rfl, hs, hs2⟩ | ⟨hf, rfl⟩⟩
  · exact ⟨hk, a, n, c, a2, n2, c2, by rw [hf]; rfl, by unfold codeX; rw [if_pos hf]; exact hs, by unfold spanX; rw [if_pos hf]; exact hs2⟩
  · exact ⟨hk, none, 0, 0, none, 0, 0, rfl, by unfold codeX; rw [if_neg hf]; exact Sees.nil _, by unfold spanX; rw [if_neg hf]; exact Sees.nil _⟩

set_option maxRecDepth 100000 in
set_option maxHeartbeats 1000000 in
theorem rencX {w : World} {v : Value} {r : Row} (hr : RowP w v r) (hc : cnt r ≤ 131072) :
    Calls Try.prog 10 #[v] w fun e w' => Kept [] w w' ∧ ∃ a n cap, e = .returned (.tuple #[.slice a n cap, .int .i64 (faultR r 0 : Nat)]) ∧ Sees w' (.slice a n cap) (codeX r) := by
  have hcc := code_cnt r
  have HF0 := hide (rfault_any r w v 0 hr (by omega))
  have hlt := faultR_lt r 0
  have hok := hr.okR
  by_cases hf : faultR r 0 = 0
  · have HRC := hide (rcode_any r w v hr (fine_of_fault hf) (by omega))
    have HB := hide (code_lt hok (fine_of_fault hf))
    obtain ⟨a, cap, rfl, -⟩ := hr
    generalize r.len = L at *
    rw [hf] at HF0
    have HX : Hid (codeX r = codeR r) := by unfold Hid codeX; rw [if_pos hf]
    have HF := hide hf
    clear hf hcc hlt hok
    go_enter Try.func10, Try.ntmps10
    go_wp2_with (first
      | (go_at_call 28; refine (unhide HF0).mono ?_; rintro e w1 ⟨rfl, hq⟩; have hq' := hq.symm; subst hq'; clear HF0)
      | (go_at_call 29; refine (unhide HRC).mono ?_; rintro e w1 ⟨ca, cn, cc, rfl, hn, hls⟩; have HL := hide hls; have HN := hide hn; clear hls hn HRC))
    go_ret2
    refine ⟨(unhide HL).kept, ca, cn, cc, by rw [unhide HF]; rfl, ?_⟩
    rw [unhide HX]
    have h := (unhide HL).own
    rw [unhide HN] at h ⊢
    exact Sees.of_own h (unhide HB)
  · have HX : Hid (codeX r = []) := by unfold Hid codeX; rw [if_neg hf]
    obtain ⟨a, cap, rfl, -⟩ := hr
    generalize r.len = L at *
    generalize faultR r 0 = fp at *
    have t3 : ((fp : Int) = 0) = False := by simp; omega
    have t4 : ((fp : Int) != 0) = true := by simp; omega
    clear hcc hok
    go_enter Try.func10, Try.ntmps10
    go_wp2_with (first
      | (go_at_call 28; refine (unhide HF0).mono ?_; rintro e w1 ⟨rfl, hq⟩; have hq' := hq.symm; subst hq'; clear HF0))
    go_ret2
    exact ⟨Kept.refl _ _, none, 0, 0, rfl, by rw [unhide HX]; exact Sees.nil _⟩

set_option maxRecDepth 100000 in
set_option maxHeartbeats 1000000 in
theorem rspanX {w : World} {v : Value} {r : Row} (hr : RowP w v r) (hc : cnt r ≤ 131072) :
    Calls Try.prog 22 #[v] w fun e w' => Kept [] w w' ∧ ∃ a n c a2 n2 c2, e = .returned (.tuple #[.slice a n c, .slice a2 n2 c2, .int .i64 (faultR r 0 : Nat)]) ∧ Sees w' (.slice a n c) (codeX r) ∧ Sees w' (.slice a2 n2 c2) (spanX r) := by
  have hcc := code_cnt r
  have HE := hide (rencX hr hc)
  have hlt := faultR_lt r 0
  have hok := hr.okR
  have hcl : (codeR r).length ≤ 1099511627776 := by omega
  by_cases hf : faultR r 0 = 0
  · have hb256 := code_lt hok (fine_of_fault hf)
    obtain ⟨a, cap, rfl, -⟩ := hr
    generalize r.len = L at *
    have HCX : Hid (codeX r = codeR r) := by unfold Hid codeX; rw [if_pos hf]
    have HSX : Hid (spanX r = codeR r ++ [8]) := by unfold Hid spanX; rw [if_pos hf]
    rw [unhide HCX] at HE ⊢
    rw [unhide HSX]
    rw [hf] at HE ⊢
    have HB := hide hb256
    clear hf hb256 hok
    obtain ⟨X, hX⟩ : ∃ X, codeR r ++ [8] = X := ⟨_, rfl⟩
    rw [hX]
    have HX := hide hX
    have HXl : Hid (X.length = (codeR r).length + 1) := by unfold Hid; rw [← hX]; simp
    have HXb : Hid ((codeR r).length + [8].length ≤ 140737488355328) := by unfold Hid; simp; omega
    have HXc : Hid (([] : List Nat).length + (codeR r).length ≤ 140737488355328) := by unfold Hid; simp; omega
    have HX256 : Hid (∀ x ∈ X, x < 256) := by
      intro x hx
      rw [← hX] at hx
      rcases List.mem_append.1 hx with h | h
      · exact unhide HB x h
      · simp at h; omega
    clear hX
    go_enter Try.func22, Try.ntmps22
    go_wp2_with (first
      | (go_at_call 10; refine (unhide HE).mono ?_; rintro e w1 ⟨hk, ea, en, ec, rfl, hsn⟩; have HK1 := hide hk; have HS1 := hide hsn; have HLS0 : Hid (LayS w1.heap.size w1 (.slice none 0 0) w1 (.slice none 0 0) []) := LayS.refl (own_none w1); have HB1 : Hid (w1.heap.size ≤ w1.heap.size) := Nat.le_refl _; clear hsn hk)
      | (at_builtin; refine wpList_append_lay _ rfl _ _ rfl rfl HLS0 rfl HS1 HXc HB1 (codeR r).length (codeR r) (hide (List.nil_append _)) (hide rfl) ?_; clear HLS0))
    intro a3 c3 w3 HL3
    have hk3 : Kept [] w1 w3 := (unhide HL3).kept
    have HB3 : Hid (w1.heap.size ≤ (w3.alloc (.cells #[.int .u8 8] 5)).heap.size) := Nat.le_trans hk3.size ((Kept.refl [] w3).alloc (.cells #[.int .u8 8] 5)).size
    have HS3 := hide ((unhide HS1).kept hk3 (Or.inr (by simp)))
    have HK3 := hide ((unhide HK1).trans hk3 (by simp))
    have HOB := hide (fun x hx => ((unhide HL3).own.lt x hx).1)
    have HLA := hide ((unhide HL3).alloc (.cells #[.int .u8 8] 5))
    have HS8 : Hid (Sees (w3.alloc (.cells #[.int .u8 8] 5)) (.slice (some ⟨w3.heap.size, 0, none⟩) 1 1) [8]) := sees_one w3 8 (by omega)
    clear hk3
    go_wp2_with (first
      | (at_builtin; refine wpList_append_lay _ rfl _ _ rfl rfl HLA rfl HS8 HXb HB3 ((codeR r).length + 1) X HX HXl ?_))
    intro a4 c4 w4 HL4
    have hk14 : Kept [] w1 w4 := (unhide HL4).kept
    have HK4 : Hid (Kept [] w w4) := (unhide HK1).trans hk14 (by simp)
    have HS4 : Hid (Sees w4 (.slice ea en ec) (codeR r)) := (unhide HS1).kept hk14 (Or.inr (by simp))
    have HO4 : Hid (Sees w4 (.slice a4 ((codeR r).length + 1) c4) X) := by
      have h := (unhide HL4).own
      exact Sees.of_own (by rw [unhide HXl] at h ⊢; exact h) (unhide HX256)
    clear hk14
    go_wp2
    go_ret3
    exact ⟨unhide HK4, ea, en, ec, a4, _, c4, rfl, unhide HS4, unhide HO4⟩
  · have HCX : Hid (codeX r = []) := by unfold Hid codeX; rw [if_neg hf]
    have HSX : Hid (spanX r = []) := by unfold Hid spanX; rw [if_neg hf]
    obtain ⟨a, cap, rfl, -⟩ := hr
    generalize r.len = L at *
    rw [unhide HCX] at HE ⊢
    rw [unhide HSX]
    generalize faultR r 0 = fp at *
    have t4 : ((fp : Int) != 0) = true := by simp; omega
    clear hcc hok hcl
    go_enter Try.func22, Try.ntmps22
    go_wp2_with (first
      | (go_at_call 10; refine (unhide HE).mono ?_; rintro e w1 ⟨hk, ea, en, ec, rfl, hsn⟩; have HK1 := hide hk; clear hsn hk))
    go_ret3
    exact ⟨unhide HK1, none, 0, 0, none, 0, 0, rfl, Sees.nil _, Sees.nil _⟩
end Go.Proofs.Ytigmofbammofbaa
