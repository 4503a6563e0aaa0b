/- The document's Holder. -/
import Derived.Test.YtnpabeodakncfaaGRHoldP
import Derived.Test.YtnpabeodakncfaaGHas
import Derived.BigRegion
namespace Go.Proofs.Ytnpabeodakncfaa
open Go.RowKit

theorem has123 (w : World) (p : Int) : Calls Try.prog 46 #[.string (ByteArray.mk #[49, 50, 51]), .int .i64 p] w fun e w' => e = .returned (.bool (decide (p = 1 ∨ p = 2 ∨ p = 3))) ∧ w' = w :=
  rhas_lit w [49, 50, 51] p (by simp) _ (by simp; omega)
theorem clm_def (l : Ld) : clm l = true ↔ l.ph = 1 ∨ l.ph = 2 ∨ l.ph = 3 := by unfold clm; simp
theorem gOk.up {row : List Ld} {g : Int} {k : Nat} {a b c : Int} (h : gOk row g k) (hl : rg row k = ⟨a, b, c⟩) (h1 : a = 1 ∨ a = 2 ∨ a = 3) (h2 : g < b) : gOk row b (k + 1) := by
  refine ⟨fun i hi ci => ?_, Or.inr ⟨k, by omega, by rw [hl, clm_def]; exact h1, by rw [hl]⟩⟩
  by_cases e : i = k
  · subst e; rw [hl]; exact Int.le_refl _
  · have := h.1 i (by omega) ci; omega
theorem gOk.stay {row : List Ld} {g : Int} {k : Nat} {a b c : Int} (h : gOk row g k) (hl : rg row k = ⟨a, b, c⟩) (h1 : (a = 1 ∨ a = 2 ∨ a = 3) → b ≤ g) : gOk row g (k + 1) := by
  refine ⟨fun i hi ci => ?_, ?_⟩
  · by_cases e : i = k
    · subst e; rw [hl] at ci ⊢; exact h1 ((clm_def _).1 ci)
    · exact h.1 i (by omega) ci
  · rcases h.2 with q | ⟨i, i1, i2⟩
    · exact Or.inl q
    · exact Or.inr ⟨i, by omega, i2⟩
theorem oOk.up {row : List Ld} {g : Int} {o o2 : Bool} {k : Nat} {a b c : Int} (h : oOk row g o k) (hl : rg row k = ⟨a, b, c⟩) (h1 : o2 = true ↔ o = true ∨ a = 1 ∧ b = g) : oOk row g o2 (k + 1) := by
  unfold oOk at h ⊢
  rw [h1, h]
  constructor
  · rintro (⟨i, i1, i2⟩ | ⟨rfl, rfl⟩)
    · exact ⟨i, by omega, i2⟩
    · exact ⟨k, by omega, by rw [hl], by rw [hl]⟩
  · rintro ⟨i, i1, i2, i3⟩
    by_cases e : i = k
    · subst e; rw [hl] at i2 i3; exact Or.inr ⟨i2, i3⟩
    · exact Or.inl ⟨i, by omega, i2, i3⟩
def FN (row : List Ld) (g : Int) (o : Bool) (k : Nat) (f : Int) : Prop :=
  (f = -1 ∧ ∀ i, i < k → ¬cand row g o i) ∨ ∃ i : Nat, i < k ∧ f = (i : Int) ∧ cand row g o i ∧ ∀ j, j < k → cand row g o j → j = i
theorem FN.stay {row : List Ld} {g : Int} {o : Bool} {k : Nat} {f : Int} (h : FN row g o k f) (hc : ¬cand row g o k) : FN row g o (k + 1) f := by
  rcases h with ⟨h1, h2⟩ | ⟨i, h1, h2, h3, h4⟩
  · refine Or.inl ⟨h1, fun i hi => ?_⟩
    by_cases e : i = k
    · subst e; exact hc
    · exact h2 i (by omega)
  · refine Or.inr ⟨i, by omega, h2, h3, fun j hj cj => ?_⟩
    by_cases e : j = k
    · subst e; exact absurd cj hc
    · exact h4 j (by omega) cj
theorem FN.first {row : List Ld} {g : Int} {o : Bool} {k : Nat} {f : Int} (h : FN row g o k f) (hf : f < 0) (hc : cand row g o k) : FN row g o (k + 1) (k : Int) := by
  rcases h with ⟨h1, h2⟩ | ⟨i, h1, h2, h3, h4⟩
  · refine Or.inr ⟨k, by omega, rfl, hc, fun j hj cj => ?_⟩
    by_cases e : j = k
    · exact e
    · exact absurd cj (h2 j (by omega))
  · omega
theorem FN.two {row : List Ld} {g : Int} {o : Bool} {k : Nat} {f : Int} (h : FN row g o k f) (hk : k < row.length) (hf : 0 ≤ f) (hc : cand row g o k) : RH row g o (-1) := by
  rcases h with ⟨h1, h2⟩ | ⟨i, h1, h2, h3, h4⟩
  · omega
  · refine Or.inl ⟨rfl, fun j hj cj => ?_⟩
    by_cases e : j = k
    · exact ⟨i, by omega, by omega, h3⟩
    · exact ⟨k, hk, fun z => e z.symm, hc⟩
theorem FN.done {row : List Ld} {g : Int} {o : Bool} {k : Nat} {f : Int} (h : FN row g o k f) (hk : k = row.length) : RH row g o f := by
  subst hk
  rcases h with ⟨h1, h2⟩ | h
  · exact Or.inl ⟨h1, fun i hi ci => absurd ci (h2 i hi)⟩
  · exact Or.inr h
theorem cand_at {row : List Ld} {g : Int} {o : Bool} {k : Nat} {a b c : Int} (hl : rg row k = ⟨a, b, c⟩) : cand row g o k ↔ (a = 1 ∨ a = 2 ∨ a = 3) ∧ b = g ∧ (o = true → a = 1) := by
  unfold cand; rw [hl, clm_def]
set_option maxRecDepth 100000 in
set_option maxHeartbeats 4000000 in
theorem rholder_any {w : World} {v : Value} {row : List Ld} (hv : RowOf 3 lc w v row) : Calls Try.prog 15 #[v] w fun e w' => (∃ g o r, gOk row g row.length ∧ oOk row g o row.length ∧ RH row g o r ∧ e = .returned (.int .i64 r)) ∧ Kept [] w w' := by
  have HV := hide hv
  obtain ⟨pa, pcap, rfl, hlen, -⟩ := hv
  have HH := fun W p => hide (has123 W p)
  obtain ⟨n, hn⟩ : ∃ n, row.length = n := ⟨_, rfl⟩
  rw [hn] at hlen HV
  have HN := hide hn
  clear hn
  rw [unhide HN]
  go_enter Try.func15, Try.ntmps15
  go_wp2_with fail
  go_loopw [3, 4] (fun g i wr => ∃ (k : Nat) (gg : Int), k ≤ n ∧ i = .int .i64 (k : Int) ∧ g = .int .i64 gg ∧ gOk row gg k ∧ Kept [] w wr) (fun _ i _ => n - (intOf i).toNat)
  case atStart => exact ⟨0, -9223372036854775808, by omega, rfl, rfl, ⟨fun i h => absurd h (Nat.not_lt_zero _), Or.inl rfl⟩, Kept.refl _ _⟩
  case round =>
    obtain ⟨k, gg, hk, rfl, rfl, hg, hkp⟩ := hrel
    by_cases hlt : k < n
    · have hkn : k < row.length := by rw [unhide HN]; exact hlt
      obtain ⟨ob, off, hpa, hbl, hrg⟩ := row_at ((unhide HV).kept hkp) rfl hkn
      subst hpa
      obtain ⟨d0, d1, d2⟩ := row_cells hrg
      have HG := hide hg
      have HKP := hide hkp
      generalize hlk : row.getD k ⟨0, 0, 0⟩ = l at *
      have HLK : Hid (rg row k = l) := hlk
      clear hlk hrg hg hkp hkn
      obtain ⟨la, lb, lc'⟩ := l
      dsimp only at *
      go_wp2_with (first
        | (go_at_call 46; refine (unhide (HH _ _)).mono ?_; rintro e w2 ⟨rfl, rfl⟩))
      all_goals clear HH
      · rename_i q1 q2
        exact ⟨⟨k + 1, lb, by omega, by simp, rfl, (unhide HG).up (unhide HLK) q2.1 q2.2, unhide HKP⟩, by simp [intOf]; omega⟩
      · rename_i q1 q2
        exact ⟨⟨k + 1, gg, by omega, by simp, rfl, (unhide HG).stay (unhide HLK) (by intro z; omega), unhide HKP⟩, by simp [intOf]; omega⟩
      · rename_i q1
        exact ⟨⟨k + 1, gg, by omega, by simp, rfl, (unhide HG).stay (unhide HLK) (fun z => absurd z q1), unhide HKP⟩, by simp [intOf]; omega⟩
    · obtain rfl : k = n := by omega
      have HGG := hide hg
      clear hg hlt
      rename_i wr
      go_wp2_with fail
      go_loopw [5, 6] (fun o i wr => ∃ (j : Nat) (oo : Bool), j ≤ k ∧ i = .int .i64 (j : Int) ∧ o = .bool oo ∧ oOk row gg oo j ∧ Kept [] w wr) (fun _ i _ => k - (intOf i).toNat)
      case atStart => exact ⟨0, false, by omega, rfl, rfl, by unfold oOk; simp, hkp⟩
      case round =>
        clear hkp
        obtain ⟨j, oo, hj, rfl, rfl, ho, hkp⟩ := hrel
        by_cases hlt : j < k
        · have hkn : j < row.length := by rw [unhide HN]; exact hlt
          obtain ⟨ob, off, hpa, hbl, hrg⟩ := row_at ((unhide HV).kept hkp) rfl hkn
          subst hpa
          obtain ⟨d0, d1, d2⟩ := row_cells hrg
          have HO := hide ho
          have HKP := hide hkp
          generalize hlk : row.getD j ⟨0, 0, 0⟩ = l at *
          have HLK : Hid (rg row j = l) := hlk
          clear hlk hrg ho hkp hkn
          obtain ⟨la, lb, lc'⟩ := l
          dsimp only at *
          go_wp2_with (first
            | (go_at_call 46; refine (unhide (HH _ _)).mono ?_; rintro e w2 ⟨rfl, rfl⟩))
          all_goals clear HH
          · rename_i q
            exact ⟨⟨j + 1, true, by omega, by simp, rfl, (unhide HO).up (unhide HLK) (by simp [q]), unhide HKP⟩, by simp [intOf]; omega⟩
          · rename_i q1 q2
            exact ⟨⟨j + 1, lb == gg, by omega, by simp, rfl, (unhide HO).up (unhide HLK) (by simp [q1, q2]), unhide HKP⟩, by simp [intOf]; omega⟩
          · rename_i q1 q2
            exact ⟨⟨j + 1, false, by omega, by simp, rfl, (unhide HO).up (unhide HLK) (by simp [q1, q2]), unhide HKP⟩, by simp [intOf]; omega⟩
        · obtain rfl : j = k := by omega
          have HOO := hide ho
          clear ho hlt
          go_wp2_with fail
          cases oo
          · go_loopw [7, 8] (fun f i wr => ∃ (m : Nat) (ff : Int), m ≤ j ∧ i = .int .i64 (m : Int) ∧ f = .int .i64 ff ∧ FN row gg false m ff ∧ Kept [] w wr) (fun _ i _ => j - (intOf i).toNat)
            case atStart => exact ⟨0, -1, by omega, rfl, rfl, Or.inl ⟨rfl, fun i h => absurd h (Nat.not_lt_zero _)⟩, hkp⟩
            case round =>
              clear hkp
              obtain ⟨m, ff, hm, rfl, rfl, hf, hkp⟩ := hrel
              by_cases hlt : m < j
              · have hkn : m < row.length := by rw [unhide HN]; exact hlt
                obtain ⟨ob, off, hpa, hbl, hrg⟩ := row_at ((unhide HV).kept hkp) rfl hkn
                subst hpa
                obtain ⟨d0, d1, d2⟩ := row_cells hrg
                have HF := hide hf
                have HKP := hide hkp
                generalize hlk : row.getD m ⟨0, 0, 0⟩ = l at *
                have HLK : Hid (rg row m = l) := hlk
                clear hlk hrg hf hkp hkn
                obtain ⟨la, lb, lc'⟩ := l
                dsimp only at *
                go_wp2_with (first
                  | (go_at_call 46; refine (unhide (HH _ _)).mono ?_; rintro e w2 ⟨rfl, rfl⟩))
                all_goals clear HH
                · rename_i q1 q3
                  refine ⟨⟨m + 1, ff, by omega, by simp, rfl, (unhide HF).stay (fun z => ?_), unhide HKP⟩, by simp [intOf]; omega⟩
                  have := ((cand_at (unhide HLK)).1 z).1
                  simp at q3
                  omega
                · have q1 : lb = gg := by assumption
                  have q3 : (!decide (la = 1)) = false ∨ (!decide (la = 2)) = false ∨ (!decide (la = 3)) = false := by assumption
                  have q4 : 0 ≤ ff := by assumption
                  go_ret
                  simp at q3
                  exact ⟨⟨gg, false, -1, unhide HGG, unhide HOO, (unhide HF).two (by rw [unhide HN]; exact hlt) q4 ((cand_at (unhide HLK)).2 ⟨by omega, q1, fun z => by cases z⟩), rfl⟩, unhide HKP⟩
                · have q1 : lb = gg := by assumption
                  have q3 : (!decide (la = 1)) = false ∨ (!decide (la = 2)) = false ∨ (!decide (la = 3)) = false := by assumption
                  have q4 : ff < 0 := by assumption
                  simp at q3
                  exact ⟨⟨m + 1, (m : Int), by omega, by simp, rfl, (unhide HF).first q4 ((cand_at (unhide HLK)).2 ⟨by omega, q1, fun z => by cases z⟩), unhide HKP⟩, by simp [intOf]; omega⟩
                · rename_i q1
                  exact ⟨⟨m + 1, ff, by omega, by simp, rfl, (unhide HF).stay (fun z => q1 ((cand_at (unhide HLK)).1 z).2.1), unhide HKP⟩, by simp [intOf]; omega⟩
              · obtain rfl : m = j := by omega
                go_wp2_with fail
                go_ret
                exact ⟨⟨gg, false, ff, unhide HGG, unhide HOO, hf.done (unhide HN).symm, rfl⟩, hkp⟩
          · go_loopw [7, 8] (fun f i wr => ∃ (m : Nat) (ff : Int), m ≤ j ∧ i = .int .i64 (m : Int) ∧ f = .int .i64 ff ∧ FN row gg true m ff ∧ Kept [] w wr) (fun _ i _ => j - (intOf i).toNat)
            case atStart => exact ⟨0, -1, by omega, rfl, rfl, Or.inl ⟨rfl, fun i h => absurd h (Nat.not_lt_zero _)⟩, hkp⟩
            case round =>
              clear hkp
              obtain ⟨m, ff, hm, rfl, rfl, hf, hkp⟩ := hrel
              by_cases hlt : m < j
              · have hkn : m < row.length := by rw [unhide HN]; exact hlt
                obtain ⟨ob, off, hpa, hbl, hrg⟩ := row_at ((unhide HV).kept hkp) rfl hkn
                subst hpa
                obtain ⟨d0, d1, d2⟩ := row_cells hrg
                have HF := hide hf
                have HKP := hide hkp
                generalize hlk : row.getD m ⟨0, 0, 0⟩ = l at *
                have HLK : Hid (rg row m = l) := hlk
                clear hlk hrg hf hkp hkn
                obtain ⟨la, lb, lc'⟩ := l
                dsimp only at *
                go_wp2_with (first
                  | (go_at_call 46; refine (unhide (HH _ _)).mono ?_; rintro e w2 ⟨rfl, rfl⟩))
                all_goals clear HH
                · have q1 : lb = gg := by assumption
                  have q3 : la = 1 := by assumption
                  have q4 : 0 ≤ ff := by assumption
                  go_ret
                  exact ⟨⟨gg, true, -1, unhide HGG, unhide HOO, (unhide HF).two (by rw [unhide HN]; exact hlt) q4 ((cand_at (unhide HLK)).2 ⟨Or.inl q3, q1, fun _ => q3⟩), rfl⟩, unhide HKP⟩
                · have q1 : lb = gg := by assumption
                  have q3 : la = 1 := by assumption
                  have q4 : ff < 0 := by assumption
                  exact ⟨⟨m + 1, (m : Int), by omega, by simp, rfl, (unhide HF).first q4 ((cand_at (unhide HLK)).2 ⟨Or.inl q3, q1, fun _ => q3⟩), unhide HKP⟩, by simp [intOf]; omega⟩
                · rename_i q1 q3
                  exact ⟨⟨m + 1, ff, by omega, by simp, rfl, (unhide HF).stay (fun z => q3 (((cand_at (unhide HLK)).1 z).2.2 rfl)), unhide HKP⟩, by simp [intOf]; omega⟩
                · rename_i q1
                  exact ⟨⟨m + 1, ff, by omega, by simp, rfl, (unhide HF).stay (fun z => q1 ((cand_at (unhide HLK)).1 z).2.1), unhide HKP⟩, by simp [intOf]; omega⟩
              · obtain rfl : m = j := by omega
                go_wp2_with fail
                go_ret
                exact ⟨⟨gg, true, ff, unhide HGG, unhide HOO, hf.done (unhide HN).symm, rfl⟩, hkp⟩
end Go.Proofs.Ytnpabeodakncfaa
