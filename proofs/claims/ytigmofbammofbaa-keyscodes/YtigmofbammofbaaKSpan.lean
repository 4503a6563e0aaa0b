/- Span. -/
import Derived.Test.YtigmofbammofbaaKSortH
import Derived.Test.YtigmofbammofbaaKBesP
namespace Go.Proofs.Ytigmofbammofbaa
open Go.RowKit

theorem nil_yes (cap : Nat) (w : World) : (binOp .eql 24 (.slice none 0 cap) (.slice none 0 0)).run Try.prog w = .ok (.bool true) w := by kernel_rfl
theorem nil_no (p : Addr) (n cap : Nat) (w : World) : (binOp .eql 24 (.slice (some p) n cap) (.slice none 0 0)).run Try.prog w = .ok (.bool false) w := by kernel_rfl

set_option maxRecDepth 100000 in
set_option maxHeartbeats 400000 in
theorem clone_any {w : World} {v : Value} {bs : List Nat} (hs : Sees w v bs) (hl : bs.length ≤ 1099511627776) :
    Calls Try.prog 37 #[v] w fun e w' => (∃ a n c, e = .returned (.slice a n c) ∧ bs.length = n ∧ w'.ownsRow w.heap.size 5 1 (.slice a n c) n (u8s bs)) ∧ Kept [] w w' := by
  obtain ⟨i0, hi, hz0, hz1, hz2⟩ := info_parts info5p
  have HI := hide (⟨hi, hz0, hz1, hz2⟩ : _ ∧ _ ∧ _ ∧ _)
  clear hi hz0 hz1 hz2
  have HS := hide hs
  obtain ⟨a, cap, rfl, h1, h2, h3, h4⟩ := hs
  cases a with
  | none =>
    have hb : bs = [] := by
      rcases h4 with h4 | ⟨_, _, h, _⟩
      · exact h4
      · cases h
    subst hb
    have HO : Hid (w.ownsRow w.heap.size 5 1 (.slice none 0 0) 0 (u8s [])) := own_nil w _
    simp only [List.length_nil]
    have hny := nil_yes
    go_enter Try.func37, Try.ntmps37
    go_wp2
    go_ret
    exact ⟨⟨none, 0, 0, rfl, rfl, unhide HO⟩, Kept.refl _ _⟩
  | some p =>
    have HL := hide hl
    clear h3 h4 hl
    generalize hLL : bs.length = L at *
    have HLL := hide hLL
    clear hLL
    have HO1 : Hid ((w.alloc (.cells #[] 5)).ownsRow w.heap.size 5 1 (.slice (some ⟨w.heap.size, 0, none⟩) 0 0) ([] : List Nat).length (u8s [])) := own_new_nil w
    have HK1 : Hid (Kept [] w (w.alloc (.cells #[] 5))) := (Kept.refl [] w).alloc _
    have HS1 : Hid (Sees (w.alloc (.cells #[] 5)) (.slice (some p) L cap) bs) := (unhide HS).kept (unhide HK1) (Or.inr (by simp))
    have hnn := nil_no
    go_enter Try.func37, Try.ntmps37
    go_wp2_with (at_builtin; refine wpList_append_sees _ rfl _ _ 24 rfl w.heap.size 5 i0 (.int .u8 0) Try.underlying24 (unhide HI).1 (unhide HI).2.1 (unhide HI).2.2.1 (unhide HI).2.2.2 rfl _ [] rfl (unhide HO1) _ bs rfl (unhide HS1) ?c1 ((unhide HK1).size) ?_)
    case c1 => have := unhide HL; rw [unhide HLL]; simp; omega
    intro v2 w2 ho2 hg2 hat2
    obtain ⟨a2, c2, rfl⟩ := own_len ho2
    have HO2 : Hid (w2.ownsRow w.heap.size 5 1 (.slice a2 bs.length c2) bs.length (u8s bs)) := ho2
    have HK2 : Hid (Kept [] w w2) := (unhide HK1).grown hg2 (fun k hk => Or.inr ((unhide HO1).lt k hk).1)
    clear ho2 hg2 hat2
    go_wp2
    go_ret
    exact ⟨⟨a2, bs.length, c2, rfl, unhide HLL ▸ rfl, unhide HO2⟩, unhide HK2⟩

set_option maxRecDepth 100000 in
set_option maxHeartbeats 1000000 in
theorem span_any {S : Nat → Prop} {w : World} {v : Value} {r : Row} (hr : RowV S w v r) (hc : cnt r ≤ 262144) :
    Calls Try.prog 23 #[v] w fun e w' => Kept [] w w' ∧ ((faultR r 0 = 0 ∧ ∃ a n c a2 n2 c2, e = .returned (.tuple #[.slice a n c, .slice a2 n2 c2, .int .i64 0]) ∧ Sees w' (.slice a n c) (codeR r) ∧ Sees w' (.slice a2 n2 c2) (codeR r ++ [8])) ∨ (faultR r 0 ≠ 0 ∧ e = .returned (.tuple #[.slice none 0 0, .slice none 0 0, .int .i64 (faultR r 0 : Nat)]))) := by
  have hcc := code_cnt r
  have HE := hide (enc_val2 hr hc)
  have hlt := faultR_lt r 0
  have hcl : (codeR r).length ≤ 1099511627776 := by omega
  by_cases hf : faultR r 0 = 0
  · have hb256 := code_lt hr.ok (fine_of_fault hf)
    obtain ⟨a, cap, rfl, -⟩ := hr
    generalize r.len = L at *
    have HF := hide hf
    have HB := hide hb256
    clear hf hb256
    obtain ⟨X, hX⟩ : ∃ X, codeR r ++ [8] = X := ⟨_, rfl⟩
    rw [hX]
    have HX := hide hX
    have HXl : Hid (X.length = (codeR r).length + 1) := by unfold Hid; rw [← hX]; simp
    have HXb : Hid ((codeR r).length + [8].length ≤ 140737488355328) := by unfold Hid; simp; omega
    have HX256 : Hid (∀ x ∈ X, x < 256) := by
      intro x hx
      rw [← hX] at hx
      rcases List.mem_append.1 hx with h | h
      · exact unhide HB x h
      · simp at h; omega
    clear hX
    go_enter Try.func23, Try.ntmps23
    go_wp2_with (first
      | (go_at_call 13; refine (unhide HE).mono ?_; rintro e w1 ⟨hk, hh⟩; have hh2 : ∃ a n cap, e = .returned (.tuple #[.slice a n cap, .int .i64 0]) ∧ Sees w1 (.slice a n cap) (codeR r) := (by rcases hh with ⟨_, h⟩ | ⟨hf, _⟩; exact h; exact absurd (unhide HF) hf); obtain ⟨ea, en, ec, rfl, hsn⟩ := hh2; have HK1 := hide hk; have HS1 := hide hsn; have HCL := hide (clone_any hsn hcl); clear hh hsn hk)
      | (go_at_call 37; refine (unhide HCL).mono ?_; rintro e w2 ⟨⟨ca, cn, cc, rfl, hn, ho⟩, hk⟩; have HK2 := hide ((unhide HK1).trans hk (by simp)); have HS2 := hide ((unhide HS1).kept hk (Or.inr (by simp))); have HLS : Hid (LayS w1.heap.size w2 (.slice ca cn cc) (w2.alloc (.cells #[.int .u8 8] 5)) (.slice ca cn cc) (codeR r)) := (LayS.refl (by rw [hn]; exact ho)).alloc _; have HS8 : Hid (Sees (w2.alloc (.cells #[.int .u8 8] 5)) (.slice (some ⟨w2.heap.size, 0, none⟩) 1 1) [8]) := sees_one w2 8 (by omega); have HCB : Hid (w1.heap.size ≤ (w2.alloc (.cells #[.int .u8 8] 5)).heap.size) := Nat.le_trans hk.size ((Kept.refl [] w2).alloc (.cells #[.int .u8 8] 5)).size; have HOB := hide (fun x hx => (ho.lt x hx).1); have HKS := hide hk.size; clear hn ho hk)
      | (at_builtin; refine wpList_append_lay _ rfl _ _ rfl rfl HLS rfl HS8 HXb HCB ((codeR r).length + 1) X HX HXl ?_))
    intro a3 c3 w3 HL3
    have HK3 : Hid (Kept [] w w3) := (unhide HK2).trans (unhide HL3).kept (fun x hx => Or.inr (Nat.le_trans (unhide HK1).size (unhide HOB x (by simpa using hx))))
    have HS3 : Hid (Sees w3 (.slice ea en ec) (codeR r)) := by
      obtain ⟨a', c', hv, _, _, _, h4⟩ := unhide HS1
      rcases h4 with h4 | ⟨b, off, ha, hb, _⟩
      · exact (unhide HS2).kept (unhide HL3).kept (Or.inl h4)
      · refine (unhide HS2).kept (unhide HL3).kept (Or.inr fun k hk hm => ?_)
        have h5 := unhide HOB k (by simpa using hm)
        have h6 : (Value.slice ea en ec).ownBlock = some b := by rw [hv, ha]; rfl
        rw [h6] at hk
        cases hk
        omega
    have HO3 : Hid (Sees w3 (.slice a3 ((codeR r).length + 1) c3) X) := by
      have h := (unhide HL3).own
      exact Sees.of_own (by rw [unhide HXl] at h ⊢; exact h) (unhide HX256)
    go_wp2
    go_ret3
    exact ⟨unhide HK3, Or.inl ⟨unhide HF, ea, en, ec, a3, _, c3, rfl, unhide HS3, unhide HO3⟩⟩
  · obtain ⟨a, cap, rfl, -⟩ := hr
    generalize r.len = L at *
    have HF := hide hf
    clear hcc hcl
    obtain ⟨fp, hfp⟩ : ∃ fp, faultR r 0 = fp := ⟨_, rfl⟩
    rw [hfp] at hlt hf HE ⊢
    have t3 : ((fp : Int) != 0) = true := by simp; omega
    have HFP := hide hfp
    have HF0 := hide hf
    clear hf hfp
    go_enter Try.func23, Try.ntmps23
    go_wp2_with (first
      | (go_at_call 13; refine (unhide HE).mono ?_; rintro e w1 ⟨hk, hh⟩; have hh2 : e = .returned (.tuple #[.slice none 0 0, .int .i64 (fp : Nat)]) := (by rcases hh with ⟨hf, _⟩ | ⟨_, h⟩; exact absurd hf (unhide HF0); exact h); subst hh2; have HK1 := hide hk; clear hh hk))
    go_ret3
    exact ⟨unhide HK1, Or.inr ⟨unhide HF0, rfl⟩⟩
end Go.Proofs.Ytigmofbammofbaa
