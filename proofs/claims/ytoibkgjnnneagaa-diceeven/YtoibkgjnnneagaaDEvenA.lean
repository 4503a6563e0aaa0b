/- DiceEven: every number of sides. -/
import Derived.Test.YtoibkgjnnneagaaDEven
namespace Go.Proofs.Ytoibkgjnnneagaa
open Go.RowKit

theorem once_at (w : World) (v n k : Nat) (c : Bool) (hv : v < 18446744073709551616) (h1 : 1 ≤ n) (h2 : n ≤ 9223372036854775807) (e : onceN v n = (k, c)) :
    Calls Try.prog 27 #[.int .u64 v, .int .u64 n] w fun e w' => e = .returned (.tuple #[.int .i64 (k : Int), .bool c]) ∧ Kept [] w w' := by
  have := once_any w v n hv h1 h2
  rw [e] at this
  exact this

theorem restN_lt {n : Nat} (h1 : 1 ≤ n) : restN n < n := Nat.mod_lt _ h1

set_option maxRecDepth 10000 in
theorem even_all (w : World) (num : Int) (n k : Nat) (h1 : 1 ≤ n) (h2 : n ≤ 9223372036854775807) (hk : num % (n : Int) = (k : Int)) :
    Calls Try.prog 7 #[.int .i64 (n : Int), .int .i64 num] w fun e w' => e = .returned (.bool true) ∧ Kept [] w w' := by
  have hkn : k < n := by have := Int.emod_lt_of_pos num (b := (n : Int)) (by omega); omega
  have hT := til_frm k h1
  have hTl := til_le hkn
  have hq := quo_pos h1 h2
  have hR := restN_lt h1
  have HR : ∀ w, Calls Try.prog 11 #[.int .i64 num, .int .i64 n] w fun e w' => e = .returned (.int .i64 (k : Int)) ∧ w' = w := by
    intro w; have := round_any w num n h1 h2; rw [hk] at this; exact this
  have HC1 : ∀ w, Calls Try.prog 26 #[.int .u64 k, .int .u64 (restN n), .int .u64 n] w fun e w' => e = .returned (.tuple #[.int .u64 (frm n k : Int), .bool false]) ∧ w' = w :=
    fun w => ceil_any w k (restN n) n hkn (by omega) h2 (frm_fits hkn h2)
  have hw1 := neg_wrap h1 h2
  have hw2 := rest_mod h1 h2
  have hd := neg_div h1 h2
  have e4 : ((18446744073709551616 - n : Nat) : Int) / (n : Int) = (((18446744073709551616 - n) / n : Nat) : Int) := by simp
  have HI : ∀ x, x < 18446744073709551616 → frm n k ≤ x → x < til n k → onceN x n = (k, true) := fun x a b c => once_in h1 a b c
  have HX : ∀ x, x < 18446744073709551616 → ¬ (frm n k ≤ x ∧ x < til n k) → ¬ ((onceN x n).2 = true ∧ (onceN x n).1 = k) := fun x a b => once_out h1 a b
  have hlast := @til_last n k
  have hhalf := @quo_half n
  have HC2 : k + 1 < n → ∀ w, Calls Try.prog 26 #[.int .u64 ((k : Int) + 1), .int .u64 0, .int .u64 n] w fun e w' => e = .returned (.tuple #[.int .u64 (til n k : Int), .bool false]) ∧ w' = w := by
    intro h w
    have := ceil_any w (k + 1) 0 n h (by omega) h2 (til_fits h h2)
    have e0 : ceilN ((k + 1) * 18446744073709551616 + 0) n = til n k := by unfold til; rw [Nat.add_zero ((k + 1) * 18446744073709551616)]
    rw [e0, show ((k + 1 : Nat) : Int) = (k : Int) + 1 from rfl, show ((0 : Nat) : Int) = 0 from rfl] at this
    exact this
  have hmid : k + 1 < n → til n k < 18446744073709551616 := by
    intro h
    have h3 := til_fits h h2
    unfold til ceilN
    rw [Nat.add_zero ((k + 1) * 18446744073709551616)] at h3
    generalize (k + 1) * 18446744073709551616 / n = y at *
    clear hw1 hw2 hd e4
    split <;> omega
  have hq1 : n = 1 → 18446744073709551616 / n = 18446744073709551616 := by intro h; rw [h, Nat.div_one]
  generalize frm n k = F at *
  generalize til n k = T at *
  generalize (18446744073709551616 - n) / n = d at *
  generalize 18446744073709551616 / n = q at *
  generalize restN n = R at *
  have HO : ∀ x c u, x < 18446744073709551616 → onceN x n = (u, c) → ∀ w, Calls Try.prog 27 #[.int .u64 x, .int .u64 n] w fun e w' => e = .returned (.tuple #[.int .i64 (u : Int), .bool c]) ∧ Kept [] w w' :=
    fun x c u hx e w => once_at w x n u c hx h1 h2 e
  have hz : ∀ g : Nat, g = q - 1 → q ≤ 18446744073709551616 → F + q ≤ 18446744073709551616 → IntKind.u64.wrap ((F : Int) + IntKind.u64.wrap ((g : Int) / 2)) = ((F + (q - 1) / 2 : Nat) : Int) := by
    intro g hg a b; rw [IntKind.wrap_u64, IntKind.wrap_u64]; omega
  have hf : IntKind.u64.wrap ((F : Int) - 1) = (((F + 18446744073709551615) % 18446744073709551616 : Nat) : Int) := by rw [IntKind.wrap_u64]; omega
  have hfl := mod_lt' (F + 18446744073709551615)
  have hfo : 1 ≤ q → q ≤ 9223372036854775808 → ¬ (F ≤ (F + 18446744073709551615) % 18446744073709551616 ∧ (F + 18446744073709551615) % 18446744073709551616 < T) := by
    clear hw1 hw2 hd e4 hf hz; intro a b; omega
  by_cases hn : n = 1
  · have hk0 : k = 0 := by omega
    have hTT := hlast (by omega)
    have hqq : q = 18446744073709551616 := hq1 hn
    have hF : F = 0 := by omega
    refine even_one w num n k R _ F 18446744073709551615 18446744073709551615 (F + (q - 1) / 2) _ 0 (onceN ((F + 18446744073709551615) % 18446744073709551616) n).1 (onceN 0 n).1 (onceN ((F + 18446744073709551615) % 18446744073709551616) n).2 (onceN 0 n).2 h1 h2 (by omega) (by simp; omega) (by simp; omega) (by simp; omega) (by simp; omega) (by rfl) HR hw1 hw2 HC1 ?_ ?_ ?_ ?_ hf ?_ ?_ ?_ ?_ ?_ (Or.inl hn) (Or.inl hn)
    · rw [hF]; rfl
    · rw [IntKind.wrap_u64]; omega
    · rw [IntKind.wrap_u64]; omega
    · exact hz _ (by omega) (by omega) (by omega)
    · exact HO _ _ _ (by omega) (HI _ (by omega) (by omega) (by omega))
    · exact HO _ _ _ (by omega) (HI _ (by omega) (by omega) (by omega))
    · exact HO _ _ _ (by omega) (HI _ (by omega) (by omega) (by omega))
    · exact HO _ _ _ hfl rfl
    · exact HO 0 _ _ (by decide) rfl
  · have hh := hhalf (by omega)
    have hX4 : ¬ ((onceN ((F + 18446744073709551615) % 18446744073709551616) n).2 = true ∧ (onceN ((F + 18446744073709551615) % 18446744073709551616) n).1 = k) := HX _ hfl (hfo hq hh)
    by_cases hm : k + 1 < n
    · have hTm := hmid hm
      refine even_mid w num n k R _ F T (T - 1) (q - 1) (F + (q - 1) / 2) _ q d (onceN ((F + 18446744073709551615) % 18446744073709551616) n).1 (onceN T n).1 (onceN ((F + 18446744073709551615) % 18446744073709551616) n).2 (onceN T n).2 h1 h2 hm HR hw1 hw2 HC1 (HC2 hm) (by omega) ?_ e4 ?_ ?_ ?_ ?_ hf ?_ ?_ ?_ ?_ ?_ (Or.inr hX4) (Or.inr (HX _ hTm (by omega)))
      · rw [IntKind.wrap_u64]; omega
      · rw [IntKind.wrap_u64, IntKind.wrap_u64]; omega
      · rw [IntKind.wrap_u64]; omega
      · rw [IntKind.wrap_u64]; omega
      · exact hz _ rfl (by omega) (by omega)
      · exact HO _ _ _ (by omega) (HI _ (by omega) (by omega) (by omega))
      · exact HO _ _ _ (by omega) (HI _ (by omega) (by omega) (by omega))
      · exact HO _ _ _ (by omega) (HI _ (by omega) (by omega) (by omega))
      · exact HO _ _ _ hfl rfl
      · exact HO _ _ _ hTm rfl
    · have hTT := hlast (by omega)
      refine even_last w num n k R _ F 18446744073709551615 (q - 1) (F + (q - 1) / 2) _ q d (onceN ((F + 18446744073709551615) % 18446744073709551616) n).1 (onceN 0 n).1 (onceN ((F + 18446744073709551615) % 18446744073709551616) n).2 (onceN 0 n).2 h1 h2 (by omega) (by omega) HR hw1 hw2 HC1 ?_ e4 ?_ ?_ ?_ ?_ hf ?_ ?_ ?_ ?_ ?_ (Or.inr hX4) (Or.inr (HX 0 (by omega) (by omega)))
      · rw [IntKind.wrap_u64]; omega
      · rw [IntKind.wrap_u64, IntKind.wrap_u64]; omega
      · rw [IntKind.wrap_u64]; omega
      · rw [IntKind.wrap_u64]; omega
      · exact hz _ rfl (by omega) (by omega)
      · exact HO _ _ _ (by omega) (HI _ (by omega) (by omega) (by omega))
      · exact HO _ _ _ (by omega) (HI _ (by omega) (by omega) (by omega))
      · exact HO _ _ _ (by omega) (HI _ (by omega) (by omega) (by omega))
      · exact HO _ _ _ hfl rfl
      · exact HO 0 _ _ (by decide) rfl

set_option maxRecDepth 100000 in
theorem even_low (w : World) (sides num : Int) (h : sides < 1) :
    Calls Try.prog 7 #[.int .i64 sides, .int .i64 num] w fun e w' => e = .returned (.bool true) ∧ Kept [] w w' := by
  have HA := hide (awake_any w)
  have HN := fun w => hide (new_any w 5 (by omega))
  have HR := fun w b => hide (roll_low (w := w) (b := b) sides h)
  go_enter Try.func7, Try.ntmps7
  go_wp2_with (first
    | (go_at_call 20; refine (unhide HA).mono ?_; rintro e w1 ⟨rfl, hkp⟩; clear HA; replace hkp := hide hkp)
    | (go_at_call 9; refine (unhide (HN _)).mono ?_; rintro e w2 ⟨b, rfl, hd, hb, hk⟩; clear HN; replace hkp := hide ((unhide hkp).more hk); have HS := hide (state_any hd); clear hd hb hk)
    | (go_at_call 25; refine (unhide (HR _ _)).mono ?_; rintro e w3 ⟨rfl, hq⟩; have hq' := hq.symm; subst hq'; clear HR)
    | (go_at_call 23; refine (unhide HS).mono ?_; rintro e w3 ⟨rfl, hq⟩; have hq' := hq.symm; subst hq'; clear HS))
  go_ret
  exact ⟨rfl, unhide hkp⟩

theorem even_any (w : World) (sides num : Int) (h2 : sides ≤ 9223372036854775807) :
    Calls Try.prog 7 #[.int .i64 sides, .int .i64 num] w fun e w' => e = .returned (.bool true) ∧ Kept [] w w' := by
  by_cases h : sides < 1
  · exact even_low w sides num h
  · obtain ⟨n, rfl⟩ : ∃ n : Nat, sides = (n : Int) := ⟨sides.toNat, by omega⟩
    have h0 := Int.emod_nonneg num (b := (n : Int)) (by omega)
    exact even_all w num n (num % (n : Int)).toNat (by omega) (by omega) (by omega)
end Go.Proofs.Ytoibkgjnnneagaa
