/- TreeDepth: digits, run, zig. -/
import Derived.Test.YtbpeeifgfjpghaaTDepQ
namespace Go.Proofs.Ytbpeeifgfjpghaa
open Go.RowKit
set_option linter.unusedVariables false

set_option maxRecDepth 100000 in
theorem digits_any {w : World} (n : Nat) (hn : n ≤ 4611686018427387904) : Calls Try.prog 29 #[.int .i64 (n : Int)] w fun e w' => e = .returned (.int .i64 (dig n : Nat)) ∧ w' = w := by
  have hd : dig n ≤ 63 := dig_min _ _ (by omega)
  go_enter Try.func29, Try.ntmps29
  go_wp2_with fail
  go_loop [0, 3] (fun nv kv => ∃ m k : Nat, nv = .int .i64 (m : Int) ∧ kv = .int .i64 (k : Int) ∧ k + dig m = dig n ∧ m ≤ n) (fun nv _ => (intOf nv).toNat)
  case atStart => exact ⟨n, 0, rfl, rfl, by omega, by omega⟩
  case round =>
    obtain ⟨m, k, rfl, rfl, hk, hm⟩ := hrel
    by_cases h0 : m = 0
    · subst h0
      rw [dig_zero] at hk
      have hk' : k = dig n := by omega
      have t1 : ((0 : Int) < ((0 : Nat) : Int)) = False := by simp
      go_wp2
      go_ret
      exact ⟨rfl, rfl⟩
    · have t1 : ((0 : Int) < (m : Int)) = True := by simp only [eq_iff_iff, iff_true]; omega
      have hd2 := dig_pos (show 0 < m by omega)
      have hq : (m : Int).tdiv 2 = ((m / 2 : Nat) : Int) := by rw [Int.tdiv_eq_ediv_of_nonneg (by omega)]; omega
      go_wp2
      refine ⟨⟨m / 2, k + 1, ?_, by simp, by omega, by omega⟩, ?_⟩
      · first | rfl | (simp; done) | (congr 1; omega)
      · simp [intOf]; omega

set_option maxRecDepth 100000 in
theorem run_any {w : World} {q : Option Addr} {t : TI} {Ks : List Int} (h : Tt w q t) (hf : Fine Ks t) (hk : Ks.length ≤ 4398046511104) (fr by' : Int) (n : Nat) (hn : n ≤ 3000) : Calls Try.prog 21 #[.pointer q, .int .i64 fr, .int .i64 by', .int .i64 (n : Int)] w fun e w' =>
    ∃ q' t' Ks', e = .returned (.pointer q') ∧ Tt w' q' t' ∧ Fine Ks' t' ∧ Ks'.length ≤ Ks.length + n ∧ Kept [] w w' := by
  go_enter Try.func21, Try.ntmps21
  go_wp2_with fail
  go_loopw [0, 9] (fun tv iv wr => ∃ (k : Nat) (q' : Option Addr) (t' : TI) (Ks' : List Int), tv = .pointer q' ∧ iv = .int .i64 (k : Int) ∧ k ≤ n ∧ Tt wr q' t' ∧ Fine Ks' t' ∧ Ks'.length ≤ Ks.length + k ∧ Kept [] w wr) (fun _ iv _ => n - (intOf iv).toNat)
  case atStart => exact ⟨0, q, t, Ks, rfl, rfl, by omega, h, hf, by omega, Kept.refl _ _⟩
  case round =>
    obtain ⟨k, q', t', Ks', rfl, rfl, hkn, ht, hf', hl', hkp⟩ := hrel
    by_cases h0 : k = n
    · subst h0
      have t1 : ((k : Int) < (k : Int)) = False := by simp
      have HT := hide ht
      have HF := hide hf'
      have HK := hide hkp
      clear ht hf' hkp h hf
      go_wp2
      go_ret
      exact ⟨q', t', Ks', rfl, unhide HT, unhide HF, hl', unhide HK⟩
    · have t1 : ((k : Int) < (n : Int)) = True := by simp only [eq_iff_iff, iff_true]; omega
      have HP : Hid (∀ K, Calls Try.prog 45 #[.pointer q', .int .i64 K, .int .i64 (k : Int)] wr fun e w' => ∃ q2 t2 Ks2, e = .returned (.pointer q2) ∧ Tt w' q2 t2 ∧ Fine Ks2 t2 ∧ Ks2.length ≤ Ks.length + (k + 1) ∧ Kept [] w w') := fun K =>
        (Put_any K (k : Int) ht (by have := hf'.size; omega)).mono (by rintro e w' ⟨q2, h1, h2, h3⟩; exact ⟨q2, _, K :: Ks', h1, h2, hf'.put K _, by simp; omega, hkp.trans h3 (by simp)⟩)
      clear ht hf' hkp h hf
      go_wp2_with (go_at_call 45; refine (unhide HP _).mono ?_; rintro e w2 ⟨q2, t2, Ks2, rfl, ht2, hf2, hl2, hk2⟩; have HEND := hide (⟨ht2, hf2, hl2, hk2⟩ : Tt w2 q2 t2 ∧ Fine Ks2 t2 ∧ Ks2.length ≤ Ks.length + (k + 1) ∧ Kept [] w w2); clear ht2 hf2 hl2 hk2)
      obtain ⟨e1, e2, e3, e4⟩ := unhide HEND
      refine ⟨⟨k + 1, q2, t2, Ks2, rfl, by simp, by omega, e1, e2, e3, e4⟩, ?_⟩
      simp [intOf]; omega

set_option maxRecDepth 100000 in
theorem zig_any {w : World} (fr by' : Int) (n : Nat) (hn : n ≤ 3000) : Calls Try.prog 27 #[.int .i64 fr, .int .i64 by', .int .i64 (n : Int)] w fun e w' =>
    ∃ q' t' Ks', e = .returned (.pointer q') ∧ Tt w' q' t' ∧ Fine Ks' t' ∧ Ks'.length ≤ n ∧ Kept [] w w' := by
  go_enter Try.func27, Try.ntmps27
  go_wp2_with fail
  go_loopw [7, 8] (fun tv iv wr => ∃ (k : Nat) (q' : Option Addr) (t' : TI) (Ks' : List Int), tv = .pointer q' ∧ iv = .int .i64 (k : Int) ∧ k ≤ n ∧ Tt wr q' t' ∧ Fine Ks' t' ∧ Ks'.length ≤ k ∧ Kept [] w wr) (fun _ iv _ => n - (intOf iv).toNat)
  case atStart => exact ⟨0, none, .nil, [], rfl, rfl, by omega, Or.inl ⟨rfl, rfl⟩, Fine.nil _, by simp, Kept.refl _ _⟩
  case round =>
    obtain ⟨k, q', t', Ks', rfl, rfl, hkn, ht, hf', hl', hkp⟩ := hrel
    by_cases h0 : k = n
    · subst h0
      have t1 : ((k : Int) < (k : Int)) = False := by simp
      have HT := hide ht
      have HF := hide hf'
      have HK := hide hkp
      clear ht hf' hkp
      go_wp2
      go_ret
      exact ⟨q', t', Ks', rfl, unhide HT, unhide HF, hl', unhide HK⟩
    · have t1 : ((k : Int) < (n : Int)) = True := by simp only [eq_iff_iff, iff_true]; omega
      have HP : Hid (∀ K, Calls Try.prog 45 #[.pointer q', .int .i64 K, .int .i64 (k : Int)] wr fun e w' => ∃ q2 t2 Ks2, e = .returned (.pointer q2) ∧ Tt w' q2 t2 ∧ Fine Ks2 t2 ∧ Ks2.length ≤ (k + 1) ∧ Kept [] w w') := fun K =>
        (Put_any K (k : Int) ht (by have := hf'.size; omega)).mono (by rintro e w' ⟨q2, h1, h2, h3⟩; exact ⟨q2, _, K :: Ks', h1, h2, hf'.put K _, by simp; omega, hkp.trans h3 (by simp)⟩)
      clear ht hf' hkp
      by_cases hodd : (k : Int) % 2 = 1
      · have t2 : ((k : Int) % 2 = 1) = True := by simp [hodd]
        have t3 : ((k : Int) % 2 == 1) = true := by simp [hodd]
        go_wp2_with (go_at_call 45; refine (unhide HP _).mono ?_; rintro e w2 ⟨q2, t2, Ks2, rfl, ht2, hf2, hl2, hk2⟩; have HEND := hide (⟨ht2, hf2, hl2, hk2⟩ : Tt w2 q2 t2 ∧ Fine Ks2 t2 ∧ Ks2.length ≤ (k + 1) ∧ Kept [] w w2); clear ht2 hf2 hl2 hk2)
        obtain ⟨e1, e2, e3, e4⟩ := unhide HEND
        refine ⟨⟨k + 1, q2, _, Ks2, rfl, by simp, by omega, e1, e2, e3, e4⟩, ?_⟩
        simp [intOf]; omega
      · have t2 : ((k : Int) % 2 = 1) = False := by simp [hodd]
        have t3 : ((k : Int) % 2 == 1) = false := by simp [hodd]
        go_wp2_with (go_at_call 45; refine (unhide HP _).mono ?_; rintro e w2 ⟨q2, t2, Ks2, rfl, ht2, hf2, hl2, hk2⟩; have HEND := hide (⟨ht2, hf2, hl2, hk2⟩ : Tt w2 q2 t2 ∧ Fine Ks2 t2 ∧ Ks2.length ≤ (k + 1) ∧ Kept [] w w2); clear ht2 hf2 hl2 hk2)
        obtain ⟨e1, e2, e3, e4⟩ := unhide HEND
        refine ⟨⟨k + 1, q2, _, Ks2, rfl, by simp, by omega, e1, e2, e3, e4⟩, ?_⟩
        simp [intOf]; omega
end Go.Proofs.Ytbpeeifgfjpghaa
