/- Read: a table out of bytes. -/
import Derived.Test.YtkejpbfbpomjfabCRdZ
namespace Go.Proofs.Ytkejpbfbpomjfab.tre
open Go.RowKit
set_option linter.unusedVariables false

def RdOut (w : World) (o : Option Tb) (e : Ending) (w' : World) : Prop :=
  Kept [] w w' ∧ ((o = none ∧ e = .returned (.tuple #[.pointer none, .int .i64 130])) ∨ ∃ T b, o = some T ∧ e = .returned (.tuple #[.pointer (some ⟨b, 0, none⟩), .int .i64 0]) ∧ Tab w' b T ∧ w.heap.size ≤ b)
set_option maxRecDepth 100000 in
theorem take_zero (w : World) (b r : Nat) : Calls Try.prog 32 #[.pointer (some ⟨b, 0, none⟩), .pointer (some ⟨r, 0, none⟩), .int .u64 0] w fun e w' => e = .returned (.bool true) ∧ Kept [] w w' := by
  have hmm := @run_makeMap Try.prog
  have HK := hide ((Kept.refl [] w).alloc (.map #[] 0))
  go_enter Try.func32, Try.ntmps32
  go_wp2_with fail
  go_loopw [7, 16] (fun l i X => l = .string ByteArray.empty ∧ i = .int .u64 0 ∧ Hid (X = w.alloc (.map #[] 0))) (fun _ i _ => 0)
  case atStart => exact ⟨rfl, rfl, rfl⟩
  case round =>
    obtain ⟨rfl, rfl, HX⟩ := hrel
    go_wp2_with fail
    go_ret
    refine ⟨rfl, ?_⟩
    rw [unhide HX]
    exact unhide HK
set_option maxRecDepth 100000 in
set_option maxHeartbeats 2000000 in
theorem tread_any {w : World} {v : Value} {ps : List Nat} (h : Wide w v ps) (hl : ps.length ≤ 140737488355328) (hb : ∀ x ∈ ps, x < 256) :
    Calls Try.prog 9 #[v] w (RdOut w (rdT ps)) := by
  have HRD := hide (read_w h hl hb)
  obtain ⟨a, c, rfl⟩ := wide_len h
  obtain ⟨L, hL⟩ : ∃ n, ps.length = n := ⟨_, rfl⟩
  rw [hL] at HRD ⊢
  obtain ⟨s1, rv, hA⟩ : ∃ s n, rdA ps = (s, n) := ⟨_, _, rfl⟩
  obtain ⟨s2, n, hB⟩ : ∃ s n, rdB ps = (s, n) := ⟨_, _, rfl⟩
  have hB' : rNum s1 = (s2, n) := by unfold rdB at hB; rw [hA] at hB; exact hB
  have hcase : (∃ l, s2 = rG l ∧ ∀ b ∈ l, b < 256) ∨ ∃ q, q ≠ 0 ∧ s2 = rF q ∧ n = 0 := by
    rcases rNum_cases hb with ⟨m, r, e1, e2, e3, e4⟩ | ⟨q, hq, e1⟩
    · have h1 : rdA ps = (rG r, m) := e1
      rw [hA] at h1
      cases h1
      rcases rNum_cases e4 with ⟨m2, r2, f1, f2, f3, f4⟩ | ⟨q, hq, f1⟩
      · rw [f1] at hB'; cases hB'; exact Or.inl ⟨r2, rfl, f4⟩
      · rw [f1] at hB'; cases hB'; exact Or.inr ⟨q, hq, rfl, rfl⟩
    · have h1 : rdA ps = (rF q, 0) := e1
      rw [hA] at h1
      cases h1
      rw [rNum_F hq] at hB'
      cases hB'
      exact Or.inr ⟨q, hq, rfl, rfl⟩
  have hrv : rv < 18446744073709551616 := by
    rcases rNum_cases hb with ⟨m, r, e1, e2, e3, e4⟩ | ⟨q, hq, e1⟩
    · have h1 : rdA ps = (rG r, m) := e1
      rw [hA] at h1; cases h1; exact e3
    · have h1 : rdA ps = (rF q, 0) := e1
      rw [hA] at h1; cases h1; omega
  have hnn : n < 18446744073709551616 := by
    rcases rNum_cases hb with ⟨m, r, e1, e2, e3, e4⟩ | ⟨q, hq, e1⟩
    · have h1 : rdA ps = (rG r, m) := e1
      rw [hA] at h1
      cases h1
      rcases rNum_cases e4 with ⟨m2, r2, f1, f2, f3, f4⟩ | ⟨q, hq, f1⟩
      · rw [f1] at hB'; cases hB'; exact f3
      · rw [f1] at hB'; cases hB'; omega
    · have h1 : rdA ps = (rF q, 0) := e1
      rw [hA] at h1
      cases h1
      rw [rNum_F hq] at hB'
      cases hB'
      omega
  obtain ⟨O, hO⟩ : ∃ O, rdRows rv n ⟨s2, .nil, ByteArray.empty, []⟩ = O := ⟨_, rfl⟩
  have hT : rdT ps = if 1099511627776 < rv then none else match O with
      | none => none
      | some y => if rDone y.s = 0 then some ⟨y.t, rv⟩ else none := by
    unfold rdT rd0
    rw [hA, hB]
    simp only [hO]
    rfl
  have HA : Hid (rNum ⟨0, ps, []⟩ = (s1, rv)) := hA
  have HB := hide hB'
  have HCASE := hide hcase
  rw [hT]
  have HO := hide hO
  clear h hA hB hB' hT hO hL hb hcase
  by_cases hbig : 1099511627776 < rv
  · rw [if_pos hbig]
    have t1 : ((1099511627776 : Int) < (rv : Int)) = True := by simp; omega
    have t2 : (1099511627776 < rv) = True := by simp; omega
    clear hbig
    go_enter Try.func9, Try.ntmps9
    go_wp2_with (first
      | (go_at_call 30; refine (unhide HRD).mono ?_; rintro e w1 ⟨r, F, rfl, hr1, hf1, hk1⟩; have HR1 := hide hr1; have HF1 := hide hf1; have HK1 := hide hk1; clear hr1 hf1 hk1 HRD)
      | (go_at_call 31; refine (rnum_q (unhide HR1)).mono ?_; rw [unhide HA]; rintro e w2 ⟨rfl, F2, hr2, hk2, hf2⟩; have HR2 := hide hr2; have HK2 := hide hk2; clear hr2 hk2 hf2 HA)
      | (go_at_call 31; refine (rnum_q (unhide HR2)).mono ?_; rw [unhide HB]; rintro e w3 ⟨rfl, F3, hr3, hk3, hf3⟩; have HK3 := hide hk3; clear hr3 hk3 hf3 HB)
      | fail)
    go_ret2
    refine ⟨?_, Or.inl ⟨rfl, rfl⟩⟩
    have h1 := unhide HF1 _ (unhide HR1).mem
    have h2 : Kept [] w w2 := (unhide HK1).trans (unhide HK2) (fun y hy => by simp at hy; subst hy; exact Or.inr h1)
    exact h2.trans (unhide HK3) (fun y hy => by simp at hy; subst hy; exact Or.inr h1)
  · rw [if_neg hbig]
    have t1 : ((1099511627776 : Int) < (rv : Int)) = False := by simp; omega
    have t2 : (1099511627776 < rv) = False := by simp; omega
    have hwr : IntKind.i64.wrap (rv : Int) = (rv : Int) := by rw [IntKind.wrap_i64]; omega
    have hrev : rv ≤ 1099511627776 := by omega
    clear hbig
    rcases unhide HCASE with ⟨l, rfl, hlb⟩ | ⟨q, hq, rfl, rfl⟩
    · have HRI : Hid (RI rv l ⟨rG l, .nil, ByteArray.empty, []⟩) := rd0_ri (ps := ps) (n := n) hlb
      clear hlb HCASE
      cases O with
      | none =>
        go_enter Try.func9, Try.ntmps9
        go_wp2_with (first
          | (go_at_call 30; refine (unhide HRD).mono ?_; rintro e w1 ⟨r, F, rfl, hr1, hf1, hk1⟩; have HR1 := hide hr1; have HF1 := hide hf1; have HK1 := hide hk1; clear hr1 hf1 hk1 HRD)
          | (go_at_call 31; refine (rnum_q (unhide HR1)).mono ?_; rw [unhide HA]; rintro e w2 ⟨rfl, F2, hr2, hk2, hf2⟩; have HR2 := hide hr2; have HK2 := hide hk2; have HF2 := hide hf2; clear hr2 hk2 hf2 HA)
          | (go_at_call 31; refine (rnum_q (unhide HR2)).mono ?_; rw [unhide HB]; rintro e w3 ⟨rfl, F3, hr3, hk3, hf3⟩
             have hF3 : ∀ y ∈ F3, w.heap.size ≤ y := fun y hy => unhide HF1 y (unhide HF2 y (hf3 y hy))
             have hrw : w.heap.size ≤ r := hF3 r hr3.mem
             have hkk : Kept [] w w3 := ((unhide HK1).trans (unhide HK2) (fun y hy => by simp at hy; subst hy; exact Or.inr hrw)).trans hk3 (fun y hy => by simp at hy; subst hy; exact Or.inr hrw)
             have HSZ3 := hide hkk.size
             have HKK := hide (hkk.alloc (.cells #[.pointer none, .int .i64 (rv : Int), .int .i64 0] 66))
             have HR3 := hide (hr3.kept ((Kept.refl [] w3).alloc (.cells #[.pointer none, .int .i64 (rv : Int), .int .i64 0] 66)) (by simp))
             have HF3 := hide hF3
             have HLT3 := hide hr3.lt
             have HT3 : Hid (Tab (w3.alloc (.cells #[.pointer none, .int .i64 (rv : Int), .int .i64 0] 66)) w3.heap.size ⟨.nil, rv⟩) := ⟨none, Blk.new w3 _ _, Tt.of_nil⟩
             clear hr3 hk3 hf3 hF3 hkk HB)
          | (go_at_call 32; refine (take_any (unhide HT3) (unhide HR3) (fun hm => by have := unhide HLT3 _ hm; omega) hrev (unhide HRI) n hnn).mono ?_; rw [unhide HO]; rintro e w4 ⟨hk4, ho4⟩
             have he4 : e = .returned (.bool false) := by
               rcases ho4 with ⟨-, h4⟩ | ⟨y, h4, -⟩
               · exact h4
               · cases h4
             subst he4
             have HK4 := hide hk4
             clear hk4 ho4)
          | fail)
        go_ret2
        exact ⟨(unhide HKK).trans (unhide HK4) (fun y hy => by simp at hy; rcases hy with rfl | rfl; exact Or.inr (unhide HSZ3); exact Or.inr hrw), Or.inl ⟨rfl, rfl⟩⟩
      | some y =>
        obtain ⟨dn, hdn⟩ : ∃ d, rDone y.s = d := ⟨_, rfl⟩
        simp only [hdn]
        have HDN := hide hdn
        clear hdn
        by_cases hd : dn = 0
        · subst hd
          rw [if_pos rfl]
          go_enter Try.func9, Try.ntmps9
          go_wp2_with (first
            | (go_at_call 30; refine (unhide HRD).mono ?_; rintro e w1 ⟨r, F, rfl, hr1, hf1, hk1⟩; have HR1 := hide hr1; have HF1 := hide hf1; have HK1 := hide hk1; clear hr1 hf1 hk1 HRD)
            | (go_at_call 31; refine (rnum_q (unhide HR1)).mono ?_; rw [unhide HA]; rintro e w2 ⟨rfl, F2, hr2, hk2, hf2⟩; have HR2 := hide hr2; have HK2 := hide hk2; have HF2 := hide hf2; clear hr2 hk2 hf2 HA)
            | (go_at_call 31; refine (rnum_q (unhide HR2)).mono ?_; rw [unhide HB]; rintro e w3 ⟨rfl, F3, hr3, hk3, hf3⟩
               have hF3 : ∀ y ∈ F3, w.heap.size ≤ y := fun y hy => unhide HF1 y (unhide HF2 y (hf3 y hy))
               have hrw : w.heap.size ≤ r := hF3 r hr3.mem
               have hkk : Kept [] w w3 := ((unhide HK1).trans (unhide HK2) (fun y hy => by simp at hy; subst hy; exact Or.inr hrw)).trans hk3 (fun y hy => by simp at hy; subst hy; exact Or.inr hrw)
               have HSZ3 := hide hkk.size
               have HKK := hide (hkk.alloc (.cells #[.pointer none, .int .i64 (rv : Int), .int .i64 0] 66))
               have HR3 := hide (hr3.kept ((Kept.refl [] w3).alloc (.cells #[.pointer none, .int .i64 (rv : Int), .int .i64 0] 66)) (by simp))
               have HF3 := hide hF3
               have HLT3 := hide hr3.lt
               have HT3 : Hid (Tab (w3.alloc (.cells #[.pointer none, .int .i64 (rv : Int), .int .i64 0] 66)) w3.heap.size ⟨.nil, rv⟩) := ⟨none, Blk.new w3 _ _, Tt.of_nil⟩
               clear hr3 hk3 hf3 hF3 hkk HB)
            | (go_at_call 32; refine (take_any (unhide HT3) (unhide HR3) (fun hm => by have := unhide HLT3 _ hm; omega) hrev (unhide HRI) n hnn).mono ?_; rw [unhide HO]; rintro e w4 ⟨hk4, ho4⟩
               have h4 : e = .returned (.bool true) ∧ Tab w4 w3.heap.size ⟨y.t, rv⟩ ∧ ∃ F4, Go.Proofs.Ytkejpbfbpomjfab.Rs w4 r F4 y.s := by
                 rcases ho4 with ⟨h4, -⟩ | ⟨y', h4, h5, ht4, F4, hr4, -⟩
                 · cases h4
                 · cases h4; exact ⟨h5, ht4, F4, hr4⟩
               obtain ⟨rfl, ht4, F4, hr4⟩ := h4
               have HK4 := hide hk4
               have HT4 := hide ht4
               have HR4 := hide hr4
               clear hk4 ho4 ht4 hr4)
            | (go_at_call 33; refine (rdone_s (unhide HR4)).mono ?_; rw [unhide HDN]; rintro e w5 ⟨rfl, hq⟩; subst hq)
            | fail)
          go_ret2
          refine ⟨?_, Or.inr ⟨⟨y.t, rv⟩, w3.heap.size, rfl, rfl, unhide HT4, unhide HSZ3⟩⟩
          exact (unhide HKK).trans (unhide HK4) (fun y hy => by simp at hy; rcases hy with rfl | rfl; exact Or.inr (unhide HSZ3); exact Or.inr hrw)
        · rw [if_neg hd]
          have td : ((dn : Int) == 0) = false := by simpa using hd
          have td2 : (dn == 0) = false := by simpa using hd
          go_enter Try.func9, Try.ntmps9
          go_wp2_with (first
            | (go_at_call 30; refine (unhide HRD).mono ?_; rintro e w1 ⟨r, F, rfl, hr1, hf1, hk1⟩; have HR1 := hide hr1; have HF1 := hide hf1; have HK1 := hide hk1; clear hr1 hf1 hk1 HRD)
            | (go_at_call 31; refine (rnum_q (unhide HR1)).mono ?_; rw [unhide HA]; rintro e w2 ⟨rfl, F2, hr2, hk2, hf2⟩; have HR2 := hide hr2; have HK2 := hide hk2; have HF2 := hide hf2; clear hr2 hk2 hf2 HA)
            | (go_at_call 31; refine (rnum_q (unhide HR2)).mono ?_; rw [unhide HB]; rintro e w3 ⟨rfl, F3, hr3, hk3, hf3⟩
               have hF3 : ∀ y ∈ F3, w.heap.size ≤ y := fun y hy => unhide HF1 y (unhide HF2 y (hf3 y hy))
               have hrw : w.heap.size ≤ r := hF3 r hr3.mem
               have hkk : Kept [] w w3 := ((unhide HK1).trans (unhide HK2) (fun y hy => by simp at hy; subst hy; exact Or.inr hrw)).trans hk3 (fun y hy => by simp at hy; subst hy; exact Or.inr hrw)
               have HSZ3 := hide hkk.size
               have HKK := hide (hkk.alloc (.cells #[.pointer none, .int .i64 (rv : Int), .int .i64 0] 66))
               have HR3 := hide (hr3.kept ((Kept.refl [] w3).alloc (.cells #[.pointer none, .int .i64 (rv : Int), .int .i64 0] 66)) (by simp))
               have HF3 := hide hF3
               have HLT3 := hide hr3.lt
               have HT3 : Hid (Tab (w3.alloc (.cells #[.pointer none, .int .i64 (rv : Int), .int .i64 0] 66)) w3.heap.size ⟨.nil, rv⟩) := ⟨none, Blk.new w3 _ _, Tt.of_nil⟩
               clear hr3 hk3 hf3 hF3 hkk HB)
            | (go_at_call 32; refine (take_any (unhide HT3) (unhide HR3) (fun hm => by have := unhide HLT3 _ hm; omega) hrev (unhide HRI) n hnn).mono ?_; rw [unhide HO]; rintro e w4 ⟨hk4, ho4⟩
               have h4 : e = .returned (.bool true) ∧ Tab w4 w3.heap.size ⟨y.t, rv⟩ ∧ ∃ F4, Go.Proofs.Ytkejpbfbpomjfab.Rs w4 r F4 y.s := by
                 rcases ho4 with ⟨h4, -⟩ | ⟨y', h4, h5, ht4, F4, hr4, -⟩
                 · cases h4
                 · cases h4; exact ⟨h5, ht4, F4, hr4⟩
               obtain ⟨rfl, ht4, F4, hr4⟩ := h4
               have HK4 := hide hk4
               have HT4 := hide ht4
               have HR4 := hide hr4
               clear hk4 ho4 ht4 hr4)
            | (go_at_call 33; refine (rdone_s (unhide HR4)).mono ?_; rw [unhide HDN]; rintro e w5 ⟨rfl, hq⟩; subst hq)
            | fail)
          go_ret2
          refine ⟨?_, Or.inl ⟨rfl, rfl⟩⟩
          exact (unhide HKK).trans (unhide HK4) (fun y hy => by simp at hy; rcases hy with rfl | rfl; exact Or.inr (unhide HSZ3); exact Or.inr hrw)
    · have hO : some (⟨rF q, .nil, ByteArray.empty, []⟩ : RdS) = O := unhide HO
      subst hO
      have hdq : rDone (rF q) = q := by unfold rDone rF; simp only; rw [if_pos hq]
      simp only [hdq]
      rw [if_neg hq]
      have td : ((q : Int) == 0) = false := by simpa using hq
      have td2 : (q == 0) = false := by simpa using hq
      have HDQ := hide hdq
      clear hdq hq HO HCASE
      go_enter Try.func9, Try.ntmps9
      go_wp2_with (first
        | (go_at_call 30; refine (unhide HRD).mono ?_; rintro e w1 ⟨r, F, rfl, hr1, hf1, hk1⟩; have HR1 := hide hr1; have HF1 := hide hf1; have HK1 := hide hk1; clear hr1 hf1 hk1 HRD)
        | (go_at_call 31; refine (rnum_q (unhide HR1)).mono ?_; rw [unhide HA]; rintro e w2 ⟨rfl, F2, hr2, hk2, hf2⟩; have HR2 := hide hr2; have HK2 := hide hk2; have HF2 := hide hf2; clear hr2 hk2 hf2 HA)
        | (go_at_call 31; refine (rnum_q (unhide HR2)).mono ?_; rw [unhide HB]; rintro e w3 ⟨rfl, F3, hr3, hk3, hf3⟩
           have hF3 : ∀ y ∈ F3, w.heap.size ≤ y := fun y hy => unhide HF1 y (unhide HF2 y (hf3 y hy))
           have hrw : w.heap.size ≤ r := hF3 r hr3.mem
           have hkk : Kept [] w w3 := ((unhide HK1).trans (unhide HK2) (fun y hy => by simp at hy; subst hy; exact Or.inr hrw)).trans hk3 (fun y hy => by simp at hy; subst hy; exact Or.inr hrw)
           have HSZ3 := hide hkk.size
           have HKK := hide (hkk.alloc (.cells #[.pointer none, .int .i64 (rv : Int), .int .i64 0] 66))
           have HR3 := hide (hr3.kept ((Kept.refl [] w3).alloc (.cells #[.pointer none, .int .i64 (rv : Int), .int .i64 0] 66)) (by simp))
           have HF3 := hide hF3
           have HLT3 := hide hr3.lt
           have HT3 : Hid (Tab (w3.alloc (.cells #[.pointer none, .int .i64 (rv : Int), .int .i64 0] 66)) w3.heap.size ⟨.nil, rv⟩) := ⟨none, Blk.new w3 _ _, Tt.of_nil⟩
           clear hr3 hk3 hf3 hF3 hkk HB)
        | (go_at_call 32; refine (take_zero _ _ _).mono ?_; rintro e w4 ⟨rfl, hk4⟩
           have HK4 := hide hk4
           have HR4 := hide ((unhide HR3).kept hk4 (by simp))
           clear hk4)
        | (go_at_call 33; refine (rdone_s (unhide HR4)).mono ?_; rw [unhide HDQ]; rintro e w5 ⟨rfl, hq⟩; subst hq)
        | fail)
      go_ret2
      refine ⟨?_, Or.inl ⟨rfl, rfl⟩⟩
      exact (unhide HKK).step (unhide HK4)
end Go.Proofs.Ytkejpbfbpomjfab.tre
