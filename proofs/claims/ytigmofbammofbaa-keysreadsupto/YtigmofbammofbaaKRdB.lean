/- The document's reading: a real number, a text. -/
import Derived.Test.YtigmofbammofbaaKRdA
import Derived.Test.YtigmofbammofbaaKRefC
import Derived.Deep.DeepCutAuto
namespace Go.Proofs.Ytigmofbammofbaa
open Go.RowKit

def realS (s : St) : Nat × St := (backN (numK 8 0 s).1, match (numK 8 0 s).2 with
  | .error e => .error e
  | .ok t => if canon (backN (numK 8 0 s).1) = backN (numK 8 0 s).1 then .ok t else .error 40)
theorem numK_err (k : Nat) : ∀ (n e : Nat), (numK k n (.error e)).2 = .error e := by
  induction k with
  | zero => intro n e; rfl
  | succ k ih => intro n e; exact ih _ e
theorem numK_nil (k : Nat) (n : Nat) : (numK (k + 1) n (.ok [])).2 = .error 40 := numK_err k _ 40
theorem numK_short (k : Nat) : ∀ (n : Nat) (t : List Nat), t.length < k → (numK k n (.ok t)).2 = .error 40 := by
  induction k with
  | zero => intro n t h; omega
  | succ k ih =>
    intro n t h
    cases t with
    | nil => exact numK_nil k n
    | cons x t => exact ih _ t (by simpa using h)
theorem numK_take (k : Nat) : ∀ (n : Nat) (t : List Nat), k ≤ t.length → numK k n (.ok t) = ((t.take k).foldl (fun a b => a * 256 + b) n, .ok (t.drop k)) := by
  induction k with
  | zero => intro n t h; rfl
  | succ k ih =>
    intro n t h
    cases t with
    | nil => simp at h
    | cons x t =>
      have := ih (256 * n + x) t (by simpa using h)
      simp only [numK, nxt]
      rw [this]
      simp [Nat.mul_comm]
theorem num_takeW (t : List Nat) : (∃ m r, takeW t = some (m, r) ∧ numK 8 0 (.ok t) = (m, .ok r)) ∨ (takeW t = none ∧ (numK 8 0 (.ok t)).2 = .error 40) := by
  by_cases h : t.length < 8
  · exact Or.inr ⟨by unfold takeW; rw [if_pos h], numK_short 8 0 t h⟩
  · exact Or.inl ⟨word (t.take 8), t.drop 8, by unfold takeW; rw [if_neg h], numK_take 8 0 t (by omega)⟩
theorem turn_back {m : Nat} (h : m < 18446744073709551616) : turnN (backN m) = m := by
  unfold turnN backN top
  by_cases h1 : m < 9223372036854775808
  · rw [if_pos h1, if_neg (by omega)]; omega
  · rw [if_neg h1, if_pos (by omega)]; omega
theorem turn_inj {m n : Nat} (hm : m < 18446744073709551616) (hn : n < 18446744073709551616) (h : turnN m = turnN n) : m = n := by
  unfold turnN top at h
  by_cases h1 : m < 9223372036854775808
  · rw [if_pos h1] at h
    by_cases h2 : n < 9223372036854775808
    · rw [if_pos h2] at h; omega
    · rw [if_neg h2] at h; omega
  · rw [if_neg h1] at h
    by_cases h2 : n < 9223372036854775808
    · rw [if_pos h2] at h; omega
    · rw [if_neg h2] at h; omega
theorem place_back {m : Nat} (h : m < 18446744073709551616) : placeR (backN m) = m ↔ canon (backN m) = backN m := by
  have hb := backN_lt h
  unfold placeR
  constructor
  · intro e
    refine turn_inj (canon_lt hb) hb ?_
    rw [e, turn_back h]
  · intro e
    rw [e, turn_back h]
theorem real_takeF (t : List Nat) (hb : ∀ x ∈ t, x < 256) : (∃ m r, takeF t = some (m, r) ∧ realS (.ok t) = (m, .ok r)) ∨ (takeF t = none ∧ (realS (.ok t)).2 = .error 40) := by
  rcases num_takeW t with ⟨m, r, h1, h2⟩ | ⟨h1, h2⟩
  · obtain ⟨hm, _, _⟩ := takeW_lt h1 hb
    unfold takeF realS
    rw [h1, h2]
    simp only
    by_cases hc : canon (backN m) = backN m
    · rw [if_pos ((place_back hm).2 hc), if_pos hc]
      exact Or.inl ⟨_, _, rfl, rfl⟩
    · rw [if_neg (fun e => hc ((place_back hm).1 e)), if_neg hc]
      exact Or.inr ⟨rfl, rfl⟩
  · unfold takeF realS
    rw [h1, h2]
    exact Or.inr ⟨rfl, rfl⟩
theorem realS_err (e : Nat) : (realS (.error e)).2 = .error e := by unfold realS; rw [numK_err 8 0 e]

theorem Rdg.setF {w : World} {b : Nat} {V : Value} {bs t : List Nat} (h : Rdg w b V bs (.ok t)) (e : Nat) (he : e ≠ 0) (h9 : e < 100) : Rdg (w.setCell ⟨b, 2, none⟩ (.int .i64 (e : Int))) b V bs (.error e) := by
  obtain ⟨h1, h0, h2, i, f, h3, h4, h5, h6, h7⟩ := h
  have hk1 : Kept [b] w (w.setCell ⟨b, 2, none⟩ (.int .i64 (e : Int))) := (Kept.refl [b] w).setCell (p := ⟨b, 2, none⟩) (Or.inl (by simp)) _
  exact ⟨h1.kept hk1 (hv_not h2 (by simp)), h0, h2, i, e, h3.set 2 _, h4, h9, rfl, he⟩
theorem Rdg.f0 {w : World} {b : Nat} {V : Value} {bs t : List Nat} (h : Rdg w b V bs (.ok t)) : w.cell? ⟨b, 2, none⟩ = some (.int .i64 0) ∧ w.frozen? ⟨b, 2, none⟩ = false := by
  obtain ⟨h1, h0, h2, i, f, h3, h4, h5, h6, h7⟩ := h
  subst h6
  exact ⟨by have := h3.cell 2; simpa using this, h3.frozen 2⟩
theorem Rdg.fe {w : World} {b : Nat} {V : Value} {bs : List Nat} {e : Nat} (h : Rdg w b V bs (.error e)) : w.cell? ⟨b, 2, none⟩ = some (.int .i64 (e : Int)) ∧ e ≠ 0 ∧ e < 100 := by
  obtain ⟨h1, h0, h2, i, f, h3, h4, h5, h6, h7⟩ := h
  subst h6
  exact ⟨by have := h3.cell 2; simpa using this, h7, h5⟩

set_option maxRecDepth 100000 in
set_option maxHeartbeats 1000000 in
theorem real_any {w : World} {b : Nat} {V : Value} {bs : List Nat} {s : St} (h : Rdg w b V bs s) :
    Calls Try.prog 43 #[.pointer (some ⟨b, 0, none⟩)] w fun e w' => e = .returned (.int .u64 ((realS s).1 : Nat)) ∧ Rdg w' b V bs (realS s).2 ∧ (realS s).1 < 18446744073709551616 ∧ Kept [b] w w' := by
  have HN := hide (number_any h)
  clear h
  unfold realS
  generalize hns : numK 8 0 s = ns at *
  clear hns
  obtain ⟨m, s'⟩ := ns
  simp only at *
  by_cases hm : m < 18446744073709551616
  case neg =>
    go_enter Try.func43, Try.ntmps43
    go_wp2_with (first | (go_at_call 42; refine (unhide HN).mono ?_; rintro e w1 ⟨rfl, hr1, hm1, hk1⟩; exact absurd hm1 hm))
  have hbl := backN_lt hm
  have HCL := hide (fun w => rclean_any (backN m) hbl w)
  have HBK : Hid (backN m = if 9223372036854775808 ≤ m then m - 9223372036854775808 else 18446744073709551615 - m) := by
    unfold Hid backN top
    by_cases h1 : m < 9223372036854775808
    · rw [if_pos h1, if_neg (by omega)]
    · rw [if_neg h1, if_pos (by omega)]
  have hcl2 := canon_lt hbl
  generalize backN m = q at *
  generalize hcq : canon q = cq at *
  have HCQ := hide hcq
  clear hcq
  have hq : ((9223372036854775808 : Int) ≤ (m : Int)) = True ∧ (m : Int) - 9223372036854775808 = (q : Int) ∨ ((9223372036854775808 : Int) ≤ (m : Int)) = False ∧ (18446744073709551615 : Int) - (m : Int) = (q : Int) := by
    have := unhide HBK
    by_cases h1 : 9223372036854775808 ≤ m
    · rw [if_pos h1] at this
      exact Or.inl ⟨by simp; omega, by omega⟩
    · rw [if_neg h1] at this
      exact Or.inr ⟨by simp; omega, by omega⟩
  rcases hq with ⟨t1, e1⟩ | ⟨t1, e1⟩
  · have HE1 : Hid ((q : Int) = ((m : Int) - 9223372036854775808)) := e1.symm
    rw [← e1] at HCL
    have bx1 : 0 ≤ ((m : Int) - 9223372036854775808) := by omega
    have bx2 : ((m : Int) - 9223372036854775808) < 18446744073709551616 := by omega
    have t3 : (((m : Int) - 9223372036854775808) != (cq : Int)) = (q != cq) := by
      rw [e1]
      by_cases h : q = cq
      · simp [h]
      · have h2 : (q : Int) ≠ (cq : Int) := by omega
        rw [show (q != cq) = true by simpa using h]
        simpa using h2
    clear e1 HBK
    cases s' with
    | error e0 =>
      go_enter Try.func43, Try.ntmps43
      go_wp2_with (first | (go_at_call 42; refine (unhide HN).mono ?_; rintro e w1 ⟨rfl, hr1, hm1, hk1⟩; obtain ⟨c2, he0, he9⟩ := hr1.fe; have t5 : ((e0 : Int) == 0) = false := (by simp; omega); have HR1 := hide hr1; have HK1 := hide hk1; clear hr1 hm1 hk1 HN))
      go_ret
      exact ⟨by rw [unhide HE1]; rfl, unhide HR1, hbl, unhide HK1⟩
    | ok t =>
      by_cases hc : cq = q
      · simp only
        rw [if_pos hc]
        have t4 : (q != cq) = false := by simp [hc]
        rw [t4] at t3
        clear hc t4
        go_enter Try.func43, Try.ntmps43
        go_wp2_with (first | (go_at_call 42; refine (unhide HN).mono ?_; rintro e w1 ⟨rfl, hr1, hm1, hk1⟩; obtain ⟨c2, f2⟩ := hr1.f0; have HR1 := hide hr1; have HK1 := hide hk1; clear hr1 hm1 hk1 HN) | (go_at_call 50; refine (unhide HCL _).mono ?_; rintro e w2 ⟨rfl, hq2⟩; have hq2' := hq2.symm; subst hq2'; clear hq2 HCL))
        go_ret
        exact ⟨by rw [unhide HE1]; rfl, unhide HR1, hbl, unhide HK1⟩
      · simp only
        rw [if_neg hc]
        have t4 : (q != cq) = true := by simp; exact fun h => hc h.symm
        rw [t4] at t3
        clear hc t4
        go_enter Try.func43, Try.ntmps43
        go_wp2_with (first | (go_at_call 42; refine (unhide HN).mono ?_; rintro e w1 ⟨rfl, hr1, hm1, hk1⟩; obtain ⟨c2, f2⟩ := hr1.f0; have HR1 := hide hr1; have HK1 := hide hk1; clear hr1 hm1 hk1 HN) | (go_at_call 50; refine (unhide HCL _).mono ?_; rintro e w2 ⟨rfl, hq2⟩; have hq2' := hq2.symm; subst hq2'; clear hq2 HCL))
        go_ret
        have hk2 : Kept [b] w1 (w1.setCell ⟨b, 2, none⟩ (.int .i64 40)) := (Kept.refl [b] w1).setCell (p := ⟨b, 2, none⟩) (Or.inl (by simp)) _
        exact ⟨by rw [unhide HE1]; rfl, (unhide HR1).setF 40 (by omega) (by omega), hbl, (unhide HK1).trans hk2 (fun y hy => Or.inl hy)⟩
  · have HE1 : Hid ((q : Int) = ((18446744073709551615 : Int) - (m : Int))) := e1.symm
    rw [← e1] at HCL
    have bx1 : 0 ≤ ((18446744073709551615 : Int) - (m : Int)) := by omega
    have bx2 : ((18446744073709551615 : Int) - (m : Int)) < 18446744073709551616 := by omega
    have t3 : (((18446744073709551615 : Int) - (m : Int)) != (cq : Int)) = (q != cq) := by
      rw [e1]
      by_cases h : q = cq
      · simp [h]
      · have h2 : (q : Int) ≠ (cq : Int) := by omega
        rw [show (q != cq) = true by simpa using h]
        simpa using h2
    clear e1 HBK
    cases s' with
    | error e0 =>
      go_enter Try.func43, Try.ntmps43
      go_wp2_with (first | (go_at_call 42; refine (unhide HN).mono ?_; rintro e w1 ⟨rfl, hr1, hm1, hk1⟩; obtain ⟨c2, he0, he9⟩ := hr1.fe; have t5 : ((e0 : Int) == 0) = false := (by simp; omega); have HR1 := hide hr1; have HK1 := hide hk1; clear hr1 hm1 hk1 HN))
      go_ret
      exact ⟨by rw [unhide HE1]; rfl, unhide HR1, hbl, unhide HK1⟩
    | ok t =>
      by_cases hc : cq = q
      · simp only
        rw [if_pos hc]
        have t4 : (q != cq) = false := by simp [hc]
        rw [t4] at t3
        clear hc t4
        go_enter Try.func43, Try.ntmps43
        go_wp2_with (first | (go_at_call 42; refine (unhide HN).mono ?_; rintro e w1 ⟨rfl, hr1, hm1, hk1⟩; obtain ⟨c2, f2⟩ := hr1.f0; have HR1 := hide hr1; have HK1 := hide hk1; clear hr1 hm1 hk1 HN) | (go_at_call 50; refine (unhide HCL _).mono ?_; rintro e w2 ⟨rfl, hq2⟩; have hq2' := hq2.symm; subst hq2'; clear hq2 HCL))
        go_ret
        exact ⟨by rw [unhide HE1]; rfl, unhide HR1, hbl, unhide HK1⟩
      · simp only
        rw [if_neg hc]
        have t4 : (q != cq) = true := by simp; exact fun h => hc h.symm
        rw [t4] at t3
        clear hc t4
        go_enter Try.func43, Try.ntmps43
        go_wp2_with (first | (go_at_call 42; refine (unhide HN).mono ?_; rintro e w1 ⟨rfl, hr1, hm1, hk1⟩; obtain ⟨c2, f2⟩ := hr1.f0; have HR1 := hide hr1; have HK1 := hide hk1; clear hr1 hm1 hk1 HN) | (go_at_call 50; refine (unhide HCL _).mono ?_; rintro e w2 ⟨rfl, hq2⟩; have hq2' := hq2.symm; subst hq2'; clear hq2 HCL))
        go_ret
        have hk2 : Kept [b] w1 (w1.setCell ⟨b, 2, none⟩ (.int .i64 40)) := (Kept.refl [b] w1).setCell (p := ⟨b, 2, none⟩) (Or.inl (by simp)) _
        exact ⟨by rw [unhide HE1]; rfl, (unhide HR1).setF 40 (by omega) (by omega), hbl, (unhide HK1).trans hk2 (fun y hy => Or.inl hy)⟩
end Go.Proofs.Ytigmofbammofbaa
