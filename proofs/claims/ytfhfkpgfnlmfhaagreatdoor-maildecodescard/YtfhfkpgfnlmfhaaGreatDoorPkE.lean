/- A text of the base. -/
import Derived.Test.YtfhfkpgfnlmfhaaGreatDoorPkD
import Derived.Deep.RegionWith
/- The reader's number. -/
namespace Go.Proofs.YtfhfkpgfnlmfhaaGreatDoor
open Go.RowKit

theorem and127 (x : Nat) (h : x < 256) : bits .and .u8 (x : Int) 127 = ((x % 128 : Nat) : Int) := by
  have := u8_and_nat x 127 h (by omega)
  rw [show ((127 : Nat) : Int) = 127 from rfl] at this
  rw [this]
  have : ∀ m, m < 256 → m &&& 127 = m % 128 := by decide +kernel
  rw [this x h]

theorem or_shift (k acc y : Nat) (hk : k ≤ 9) (hacc : acc < 128 ^ k) (hy : y < 128) (h9 : k = 9 → y ≤ 1) :
    bits .or .u64 (acc : Int) (IntKind.u64.wrap ((y : Int) * 2 ^ (7 * k))) = ((acc + y * 128 ^ k : Nat) : Int) ∧ acc + y * 128 ^ k < 128 ^ (k + 1) := by
  have e : 128 ^ k = 2 ^ (7 * k) := by rw [Nat.pow_mul]
  rw [e] at hacc ⊢
  have hs : acc + y * 2 ^ (7 * k) < 128 ^ (k + 1) := by
    have e2 : 128 ^ (k + 1) = 2 ^ (7 * k) * 128 := by rw [Nat.pow_succ, e]
    rw [e2]
    have : y * 2 ^ (7 * k) ≤ 127 * 2 ^ (7 * k) := Nat.mul_le_mul_right _ (by omega)
    omega
  refine ⟨?_, hs⟩
  have hb : y * 2 ^ (7 * k) < 18446744073709551616 := by
    by_cases h : k = 9
    · have := h9 h
      subst h
      have : y * 2 ^ (7 * 9) ≤ 1 * 2 ^ (7 * 9) := Nat.mul_le_mul_right _ this
      omega
    · have h1 : y * 2 ^ (7 * k) ≤ 127 * 2 ^ (7 * k) := Nat.mul_le_mul_right _ (by omega)
      have h2 : 2 ^ (7 * k) ≤ 2 ^ 56 := Nat.pow_le_pow_right (by omega) (by omega)
      omega
  have ha : acc < 18446744073709551616 := by
    have h2 : 2 ^ (7 * k) ≤ 2 ^ 63 := Nat.pow_le_pow_right (by omega) (by omega)
    omega
  have ew : IntKind.u64.wrap ((y : Int) * 2 ^ (7 * k)) = ((y * 2 ^ (7 * k) : Nat) : Int) := by
    rw [IntKind.wrap_u64]
    have : ((y : Int) * 2 ^ (7 * k)) = ((y * 2 ^ (7 * k) : Nat) : Int) := by simp
    rw [this]; omega
  rw [ew, u64_or_nat _ _ ha hb]
  have := Nat.two_pow_add_eq_or_of_lt hacc y
  rw [Nat.mul_comm y, Nat.or_comm, ← this, Nat.add_comm]

set_option maxRecDepth 100000 in
set_option maxHeartbeats 400000 in
theorem number_any {w : World} {b : Nat} {lv bv : Value} {l : List Nat} (h : Rd w b lv bv l) (hl : ∀ x ∈ l, x < 256) :
    Calls Tryz.prog 117 #[.pointer (some ⟨b, 0, none⟩)] w fun e w' =>
      (∀ n rest, readNum 0 0 l = .inr (n, rest) → e = .returned (.int .u64 (n : Nat)) ∧ ∃ lv', Rd w' b lv' bv rest ∧ lv'.ownBlock = lv.ownBlock) ∧
      (∀ c, readNum 0 0 l = .inl c → Faulty e c ∧ ∃ lv' l', Rd w' b lv' bv l') ∧ Kept [b] w w' := by
  have HH := hide h
  have HL := hide hl
  clear h hl
  go_enter Tryz.func117, Tryz.ntmps117
  go_wp2
  go_loopw [3, 4] (fun n i wr => ∃ (k acc : Nat) (lk : List Nat) (lv' : Value), k ≤ 9 ∧ i = .int .i64 k ∧ n = .int .u64 acc ∧ acc < 128 ^ k ∧ Hid (readNum k acc lk = readNum 0 0 l) ∧ Hid (Rd wr b lv' bv lk ∧ (∀ x ∈ lk, x < 256) ∧ lv'.ownBlock = lv.ownBlock ∧ Kept [b] w wr)) (fun _ i _ => 10 - (intOf i).toNat)
  case atStart => exact ⟨0, 0, l, lv, by omega, rfl, rfl, by simp, hide rfl, hide ⟨unhide HH, unhide HL, rfl, Kept.refl _ _⟩⟩
  case round =>
    obtain ⟨k, acc, lk, lv', hk, rfl, rfl, hacc, HE, HR⟩ := hrel
    have hacc' : acc < 9223372036854775808 := Nat.lt_of_lt_of_le hacc (by
      have : 128 ^ k ≤ 128 ^ 9 := Nat.pow_le_pow_right (by omega) hk
      exact this)
    cases lk with
    | nil =>
      go_wp2_with (first | (go_at_call 79; refine (next_end (unhide HR).1).mono ?_; rintro e w' ⟨⟨pv, rfl⟩, hq⟩))
      refine ⟨rfl, fun n rest hr => ?_, fun c hr => ?_, ?_⟩
      · rw [← unhide HE] at hr; simp [readNum] at hr
      · rw [← unhide HE] at hr; simp [readNum] at hr
        exact ⟨⟨8, pv, rfl, Or.inl ⟨rfl, hr.symm⟩⟩, lv', [], (unhide HR).1.kept hq.kept (by simp) (by simp)⟩
      · exact (unhide HR).2.2.2.trans hq.kept (by simp)
    | cons x lk =>
      have hx : x < 256 := (unhide HR).2.1 x (by simp)
      have hand := and127 x hx
      have HO : Hid ((k = 9 → x % 128 ≤ 1) → bits .or .u64 (acc : Int) (IntKind.u64.wrap ((x : Int) % 128 * 2 ^ (7 * k))) = ((acc + x % 128 * 128 ^ k : Nat) : Int) ∧ acc + x % 128 * 128 ^ k < 128 ^ (k + 1)) := by
        have e : ((x : Int) % 128) = ((x % 128 : Nat) : Int) := by omega
        rw [e]; exact hide (or_shift k acc (x % 128) hk hacc (by omega))
      clear hacc
      by_cases hA : k = 9 ∧ 1 < x
      · have b1 : ((k : Int) == 9) = true := by rw [beq_iff_eq]; omega
        have b2 : decide (1 < (x : Int)) = true := by simp; omega
        have HA := hide hA
        clear hA
        go_wp2_with (first | (go_at_call 79; refine (next_ok (unhide HR).1).mono ?_; rintro e w' ⟨rfl, lv2, hr2, ho2, hk2⟩) | (go_at_call_of 42 (Value.bool false); refine (refuse_no _ _).mono ?_; rintro e w'' ⟨rfl, rfl⟩) | (go_at_call_of 42 (Value.bool true); refine (refuse_yes _ _).mono ?_; rintro e w'' ⟨rfl, rfl⟩))
        refine ⟨rfl, fun n rest hr => ?_, fun c hr => ?_, ?_⟩
        · rw [← unhide HE, readNum, if_pos (unhide HA)] at hr; cases hr
        · rw [← unhide HE, readNum, if_pos (unhide HA)] at hr; cases hr
          exact ⟨⟨26, _, rfl, Or.inr ⟨rfl, rfl⟩⟩, lv2, lk, hr2⟩
        · exact (unhide HR).2.2.2.trans hk2 (fun y hy => Or.inl hy)
      · have hB : ((k : Int) == 9) = false ∨ (((k : Int) == 9) = true ∧ decide (1 < (x : Int)) = false) := by
          by_cases h9 : k = 9
          · right; exact ⟨by rw [beq_iff_eq]; omega, by simp; omega⟩
          · left; rw [beq_eq_false_iff_ne]; omega
        have HA := hide hA
        have hO := unhide HO (by omega)
        have HO2 := hide hO
        clear hA hO HO
        by_cases hx8 : x < 128
        · by_cases h0 : x = 0 ∧ 0 < k
          · have b3 : ((x : Int) == 0) = true := by rw [beq_iff_eq]; omega
            have b4 : decide (0 < k) = true := by simp; omega
            have H0 := hide h0
            clear h0
            rcases hB with b1 | ⟨b1, b2⟩
            all_goals
              go_wp2_with (first | (go_at_call 79; refine (next_ok (unhide HR).1).mono ?_; rintro e w' ⟨rfl, lv2, hr2, ho2, hk2⟩) | (go_at_call_of 42 (Value.bool false); refine (refuse_no _ _).mono ?_; rintro e w'' ⟨rfl, rfl⟩) | (go_at_call_of 42 (Value.bool true); refine (refuse_yes _ _).mono ?_; rintro e w'' ⟨rfl, rfl⟩))
              refine ⟨rfl, fun n rest hr => ?_, fun c hr => ?_, ?_⟩
              · rw [← unhide HE, readNum, if_neg (unhide HA), if_pos hx8, if_pos (unhide H0)] at hr; cases hr
              · rw [← unhide HE, readNum, if_neg (unhide HA), if_pos hx8, if_pos (unhide H0)] at hr; cases hr
                exact ⟨⟨26, _, rfl, Or.inr ⟨rfl, rfl⟩⟩, lv2, lk, hr2⟩
              · exact (unhide HR).2.2.2.trans hk2 (fun y hy => Or.inl hy)
          · have hC : ((x : Int) == 0) = false ∨ (((x : Int) == 0) = true ∧ decide (0 < k) = false) := by
              by_cases h9 : x = 0
              · right; exact ⟨by rw [beq_iff_eq]; omega, by simp; omega⟩
              · left; rw [beq_eq_false_iff_ne]; omega
            have H0 := hide h0
            clear h0
            rcases hB with b1 | ⟨b1, b2⟩ <;> rcases hC with b3 | ⟨b3, b4⟩
            all_goals
              go_wp2_with (first | (go_at_call 79; refine (next_ok (unhide HR).1).mono ?_; rintro e w' ⟨rfl, lv2, hr2, ho2, hk2⟩) | (go_at_call_of 42 (Value.bool false); refine (refuse_no _ _).mono ?_; rintro e w'' ⟨rfl, rfl⟩) | (go_at_call_of 42 (Value.bool true); refine (refuse_yes _ _).mono ?_; rintro e w'' ⟨rfl, rfl⟩))
              go_ret
              obtain ⟨o1, _⟩ := unhide HO2
              refine ⟨fun n rest hr => ?_, fun c hr => ?_, ?_⟩
              · rw [← unhide HE, readNum, if_neg (unhide HA), if_pos hx8, if_neg (unhide H0)] at hr
                cases hr
                refine ⟨ret_int ?_, lv2, hr2, ho2.trans (unhide HR).2.2.1⟩
                rw [o1, Nat.mod_eq_of_lt hx8]
              · rw [← unhide HE, readNum, if_neg (unhide HA), if_pos hx8, if_neg (unhide H0)] at hr; cases hr
              · exact (unhide HR).2.2.2.trans hk2 (fun y hy => Or.inl hy)
        · have h9b : ((k : Int) == 9) = false := by
            have := unhide HA; rw [beq_eq_false_iff_ne]; omega
          clear hB
          go_wp2_with (first | (go_at_call 79; refine (next_ok (unhide HR).1).mono ?_; rintro e w' ⟨rfl, lv2, hr2, ho2, hk2⟩) | (go_at_call_of 42 (Value.bool false); refine (refuse_no _ _).mono ?_; rintro e w'' ⟨rfl, rfl⟩) | (go_at_call_of 42 (Value.bool true); refine (refuse_yes _ _).mono ?_; rintro e w'' ⟨rfl, rfl⟩))
          obtain ⟨o1, o2⟩ := unhide HO2
          refine ⟨⟨k + 1, acc + x % 128 * 128 ^ k, lk, lv2, by have := unhide HA; omega, by go_num, by rw [o1], o2, ?_, hide ⟨hr2, fun y hy => (unhide HR).2.1 y (by simp [hy]), ho2.trans (unhide HR).2.2.1, (unhide HR).2.2.2.trans hk2 (fun y hy => Or.inl hy)⟩⟩, by have := unhide HA; simp [intOf]; omega⟩
          rw [← unhide HE]
          show _ = _
          rw [readNum, if_neg (unhide HA), if_neg hx8]
end Go.Proofs.YtfhfkpgfnlmfhaaGreatDoor
