/- DiceEven: the walk. -/
import Derived.Test.YtoibkgjnnneagaaDEvenP
namespace Go.Proofs.Ytoibkgjnnneagaa
open Go.RowKit

set_option maxRecDepth 100000 in
set_option maxHeartbeats 4000000 in
theorem even_mid (w : World) (num : Int) (n k R m F to t1 g z f1 c d u v : Nat) (c4 c5 : Bool) (h1 : 1 ≤ n) (h2 : n ≤ 9223372036854775807)  (hkn : k + 1 < n)
    (HR : ∀ w, Calls Try.prog 11 #[.int .i64 num, .int .i64 n] w fun e w' => e = .returned (.int .i64 (k : Int)) ∧ w' = w)
    (hw1 : IntKind.u64.wrap (-(n : Int)) = (m : Int)) (hw2 : (m : Int) % (n : Int) = (R : Int))
    (HC1 : ∀ w, Calls Try.prog 26 #[.int .u64 k, .int .u64 R, .int .u64 n] w fun e w' => e = .returned (.tuple #[.int .u64 (F : Int), .bool false]) ∧ w' = w)
    (HC2 : ∀ w, Calls Try.prog 26 #[.int .u64 ((k : Int) + 1), .int .u64 0, .int .u64 n] w fun e w' => e = .returned (.tuple #[.int .u64 (to : Int), .bool false]) ∧ w' = w) (hto : 1 ≤ to)
    (e3 : IntKind.u64.wrap ((to : Int) - (F : Int)) = (c : Int)) (e4 : (m : Int) / (n : Int) = (d : Int)) (e5 : IntKind.u64.wrap (IntKind.u64.wrap (d : Int) + 1) = (c : Int))
    (e6 : IntKind.u64.wrap ((to : Int) - 1) = (t1 : Int)) (e7 : IntKind.u64.wrap ((t1 : Int) - (F : Int)) = (g : Int)) (e8 : IntKind.u64.wrap ((F : Int) + IntKind.u64.wrap ((g : Int) / 2)) = (z : Int)) (e9 : IntKind.u64.wrap ((F : Int) - 1) = (f1 : Int))
    (HO1 : ∀ w, Calls Try.prog 27 #[.int .u64 F, .int .u64 n] w fun e w' => e = .returned (.tuple #[.int .i64 (k : Int), .bool true]) ∧ Kept [] w w')
    (HO2 : ∀ w, Calls Try.prog 27 #[.int .u64 t1, .int .u64 n] w fun e w' => e = .returned (.tuple #[.int .i64 (k : Int), .bool true]) ∧ Kept [] w w')
    (HO3 : ∀ w, Calls Try.prog 27 #[.int .u64 z, .int .u64 n] w fun e w' => e = .returned (.tuple #[.int .i64 (k : Int), .bool true]) ∧ Kept [] w w')
    (HO4 : ∀ w, Calls Try.prog 27 #[.int .u64 f1, .int .u64 n] w fun e w' => e = .returned (.tuple #[.int .i64 (u : Int), .bool c4]) ∧ Kept [] w w')
    (HO5 : ∀ w, Calls Try.prog 27 #[.int .u64 to, .int .u64 n] w fun e w' => e = .returned (.tuple #[.int .i64 (v : Int), .bool c5]) ∧ Kept [] w w')
    (hc4 : n = 1 ∨ ¬ (c4 = true ∧ u = k)) (hc5 : n = 1 ∨ ¬ (c5 = true ∧ v = k)) :
    Calls Try.prog 7 #[.int .i64 (n : Int), .int .i64 num] w fun e w' => e = .returned (.bool true) ∧ Kept [] w w' := by
  have HA := hide (awake_any w)
  replace HR := hide HR
  replace HC1 := hide HC1
  replace HO1 := hide HO1
  replace HO2 := hide HO2
  replace HO3 := hide HO3
  replace HO4 := hide HO4
  replace HO5 := hide HO5
  replace HC2 := hide HC2
  replace hc4 := hide hc4
  replace hc5 := hide hc5
  have ts : ((n : Int) < 1) = False := by simp; omega
  have tk : ((k : Int) + 1 < (n : Int)) = True := by simp; omega
  have tn : ((1 : Int) < (n : Int)) = True := by simp; omega
  have tn1 : ((n : Int) == 1) = false := by simp; omega
  have tz : ((to : Int) == 0) = false := by simp; omega
  go_enter Try.func7, Try.ntmps7
  go_wp2_with (first
    | (go_at_call 20; refine (unhide HA).mono ?_; rintro e w1 ⟨rfl, hkp⟩; clear HA; replace hkp := hide hkp)
    | (go_at_call 11; refine (unhide HR _).mono ?_; rintro e w2 ⟨rfl, hq⟩; have hq' := hq.symm; subst hq'; clear HR)
    | (go_at_call 26; refine (unhide HC1 _).mono ?_; rintro e w2 ⟨rfl, hq⟩; have hq' := hq.symm; subst hq'; clear HC1)
    | (go_at_call 26; refine (unhide HC2 _).mono ?_; rintro e w2 ⟨rfl, hq⟩; have hq' := hq.symm; subst hq'; clear HC2)
    | (go_at_call 27; refine (unhide HO1 _).mono ?_; rintro e w3 ⟨rfl, hk2⟩; clear HO1; replace hkp := hide ((unhide hkp).more hk2); clear hk2)
    | (go_at_call 27; refine (unhide HO2 _).mono ?_; rintro e w3 ⟨rfl, hk2⟩; clear HO2; replace hkp := hide ((unhide hkp).more hk2); clear hk2)
    | (go_at_call 27; refine (unhide HO3 _).mono ?_; rintro e w3 ⟨rfl, hk2⟩; clear HO3; replace hkp := hide ((unhide hkp).more hk2); clear hk2)
    | (go_at_call 27; refine (unhide HO4 _).mono ?_; rintro e w3 ⟨rfl, hk2⟩; clear HO4; replace hkp := hide ((unhide hkp).more hk2); clear hk2)
    | (go_at_call 27; refine (unhide HO5 _).mono ?_; rintro e w3 ⟨rfl, hk2⟩; clear HO5; replace hkp := hide ((unhide hkp).more hk2); clear hk2))
  all_goals first
    | (go_ret; exact ⟨rfl, unhide hkp⟩)
    | (exfalso; rcases unhide hc4 with q4 | q4; omega; exact q4 ⟨by assumption, by omega⟩)
    | (exfalso; rcases unhide hc5 with q5 | q5; omega; exact q5 ⟨by assumption, by omega⟩)

set_option maxRecDepth 100000 in
set_option maxHeartbeats 4000000 in
theorem even_last (w : World) (num : Int) (n k R m F t1 g z f1 c d u v : Nat) (c4 c5 : Bool) (h1 : 1 ≤ n) (h2 : n ≤ 9223372036854775807)  (hkn : k + 1 = n) (hn2 : 2 ≤ n)
    (HR : ∀ w, Calls Try.prog 11 #[.int .i64 num, .int .i64 n] w fun e w' => e = .returned (.int .i64 (k : Int)) ∧ w' = w)
    (hw1 : IntKind.u64.wrap (-(n : Int)) = (m : Int)) (hw2 : (m : Int) % (n : Int) = (R : Int))
    (HC1 : ∀ w, Calls Try.prog 26 #[.int .u64 k, .int .u64 R, .int .u64 n] w fun e w' => e = .returned (.tuple #[.int .u64 (F : Int), .bool false]) ∧ w' = w)
    (e3 : IntKind.u64.wrap (-(F : Int)) = (c : Int)) (e4 : (m : Int) / (n : Int) = (d : Int)) (e5 : IntKind.u64.wrap (IntKind.u64.wrap (d : Int) + 1) = (c : Int))
    (e6 : IntKind.u64.wrap (-1) = (t1 : Int)) (e7 : IntKind.u64.wrap ((t1 : Int) - (F : Int)) = (g : Int)) (e8 : IntKind.u64.wrap ((F : Int) + IntKind.u64.wrap ((g : Int) / 2)) = (z : Int)) (e9 : IntKind.u64.wrap ((F : Int) - 1) = (f1 : Int))
    (HO1 : ∀ w, Calls Try.prog 27 #[.int .u64 F, .int .u64 n] w fun e w' => e = .returned (.tuple #[.int .i64 (k : Int), .bool true]) ∧ Kept [] w w')
    (HO2 : ∀ w, Calls Try.prog 27 #[.int .u64 t1, .int .u64 n] w fun e w' => e = .returned (.tuple #[.int .i64 (k : Int), .bool true]) ∧ Kept [] w w')
    (HO3 : ∀ w, Calls Try.prog 27 #[.int .u64 z, .int .u64 n] w fun e w' => e = .returned (.tuple #[.int .i64 (k : Int), .bool true]) ∧ Kept [] w w')
    (HO4 : ∀ w, Calls Try.prog 27 #[.int .u64 f1, .int .u64 n] w fun e w' => e = .returned (.tuple #[.int .i64 (u : Int), .bool c4]) ∧ Kept [] w w')
    (HO5 : ∀ w, Calls Try.prog 27 #[.int .u64 0, .int .u64 n] w fun e w' => e = .returned (.tuple #[.int .i64 (v : Int), .bool c5]) ∧ Kept [] w w')
    (hc4 : n = 1 ∨ ¬ (c4 = true ∧ u = k)) (hc5 : n = 1 ∨ ¬ (c5 = true ∧ v = k)) :
    Calls Try.prog 7 #[.int .i64 (n : Int), .int .i64 num] w fun e w' => e = .returned (.bool true) ∧ Kept [] w w' := by
  have HA := hide (awake_any w)
  replace HR := hide HR
  replace HC1 := hide HC1
  replace HO1 := hide HO1
  replace HO2 := hide HO2
  replace HO3 := hide HO3
  replace HO4 := hide HO4
  replace HO5 := hide HO5
  replace hc4 := hide hc4
  replace hc5 := hide hc5
  have ts : ((n : Int) < 1) = False := by simp; omega
  have tk : ((k : Int) + 1 < (n : Int)) = False := by simp; omega
  have tn : ((1 : Int) < (n : Int)) = True := by simp; omega
  have tn1 : ((n : Int) == 1) = false := by simp; omega
  go_enter Try.func7, Try.ntmps7
  go_wp2_with (first
    | (go_at_call 20; refine (unhide HA).mono ?_; rintro e w1 ⟨rfl, hkp⟩; clear HA; replace hkp := hide hkp)
    | (go_at_call 11; refine (unhide HR _).mono ?_; rintro e w2 ⟨rfl, hq⟩; have hq' := hq.symm; subst hq'; clear HR)
    | (go_at_call 26; refine (unhide HC1 _).mono ?_; rintro e w2 ⟨rfl, hq⟩; have hq' := hq.symm; subst hq'; clear HC1)
    | (go_at_call 27; refine (unhide HO1 _).mono ?_; rintro e w3 ⟨rfl, hk2⟩; clear HO1; replace hkp := hide ((unhide hkp).more hk2); clear hk2)
    | (go_at_call 27; refine (unhide HO2 _).mono ?_; rintro e w3 ⟨rfl, hk2⟩; clear HO2; replace hkp := hide ((unhide hkp).more hk2); clear hk2)
    | (go_at_call 27; refine (unhide HO3 _).mono ?_; rintro e w3 ⟨rfl, hk2⟩; clear HO3; replace hkp := hide ((unhide hkp).more hk2); clear hk2)
    | (go_at_call 27; refine (unhide HO4 _).mono ?_; rintro e w3 ⟨rfl, hk2⟩; clear HO4; replace hkp := hide ((unhide hkp).more hk2); clear hk2)
    | (go_at_call 27; refine (unhide HO5 _).mono ?_; rintro e w3 ⟨rfl, hk2⟩; clear HO5; replace hkp := hide ((unhide hkp).more hk2); clear hk2))
  all_goals first
    | (go_ret; exact ⟨rfl, unhide hkp⟩)
    | (exfalso; rcases unhide hc4 with q4 | q4; omega; exact q4 ⟨by assumption, by omega⟩)
    | (exfalso; rcases unhide hc5 with q5 | q5; omega; exact q5 ⟨by assumption, by omega⟩)

set_option maxRecDepth 100000 in
set_option maxHeartbeats 4000000 in
theorem even_one (w : World) (num : Int) (n k R m F t1 g z f1 c u v : Nat) (c4 c5 : Bool) (h1 : 1 ≤ n) (h2 : n ≤ 9223372036854775807)  (hkk : k < 9223372036854775807) (ts : ((n : Int) < 1) = False) (tk : ((k : Int) + 1 < (n : Int)) = False) (tn : ((1 : Int) < (n : Int)) = False) (tn1 : ((n : Int) == 1) = true) (tc : ((c : Int) == 0) = true)
    (HR : ∀ w, Calls Try.prog 11 #[.int .i64 num, .int .i64 n] w fun e w' => e = .returned (.int .i64 (k : Int)) ∧ w' = w)
    (hw1 : IntKind.u64.wrap (-(n : Int)) = (m : Int)) (hw2 : (m : Int) % (n : Int) = (R : Int))
    (HC1 : ∀ w, Calls Try.prog 26 #[.int .u64 k, .int .u64 R, .int .u64 n] w fun e w' => e = .returned (.tuple #[.int .u64 (F : Int), .bool false]) ∧ w' = w)
    (e3 : IntKind.u64.wrap (-(F : Int)) = (c : Int))
    (e6 : IntKind.u64.wrap (-1) = (t1 : Int)) (e7 : IntKind.u64.wrap ((t1 : Int) - (F : Int)) = (g : Int)) (e8 : IntKind.u64.wrap ((F : Int) + IntKind.u64.wrap ((g : Int) / 2)) = (z : Int)) (e9 : IntKind.u64.wrap ((F : Int) - 1) = (f1 : Int))
    (HO1 : ∀ w, Calls Try.prog 27 #[.int .u64 F, .int .u64 n] w fun e w' => e = .returned (.tuple #[.int .i64 (k : Int), .bool true]) ∧ Kept [] w w')
    (HO2 : ∀ w, Calls Try.prog 27 #[.int .u64 t1, .int .u64 n] w fun e w' => e = .returned (.tuple #[.int .i64 (k : Int), .bool true]) ∧ Kept [] w w')
    (HO3 : ∀ w, Calls Try.prog 27 #[.int .u64 z, .int .u64 n] w fun e w' => e = .returned (.tuple #[.int .i64 (k : Int), .bool true]) ∧ Kept [] w w')
    (HO4 : ∀ w, Calls Try.prog 27 #[.int .u64 f1, .int .u64 n] w fun e w' => e = .returned (.tuple #[.int .i64 (u : Int), .bool c4]) ∧ Kept [] w w')
    (HO5 : ∀ w, Calls Try.prog 27 #[.int .u64 0, .int .u64 n] w fun e w' => e = .returned (.tuple #[.int .i64 (v : Int), .bool c5]) ∧ Kept [] w w')
    (hc4 : n = 1 ∨ ¬ (c4 = true ∧ u = k)) (hc5 : n = 1 ∨ ¬ (c5 = true ∧ v = k)) :
    Calls Try.prog 7 #[.int .i64 (n : Int), .int .i64 num] w fun e w' => e = .returned (.bool true) ∧ Kept [] w w' := by
  have HA := hide (awake_any w)
  replace HR := hide HR
  replace HC1 := hide HC1
  replace HO1 := hide HO1
  replace HO2 := hide HO2
  replace HO3 := hide HO3
  replace HO4 := hide HO4
  replace HO5 := hide HO5
  replace hc4 := hide hc4
  replace hc5 := hide hc5
  have hk : k < 9223372036854775807 := hkk
  go_enter Try.func7, Try.ntmps7
  go_wp2_with (first
    | (go_at_call 20; refine (unhide HA).mono ?_; rintro e w1 ⟨rfl, hkp⟩; clear HA; replace hkp := hide hkp)
    | (go_at_call 11; refine (unhide HR _).mono ?_; rintro e w2 ⟨rfl, hq⟩; have hq' := hq.symm; subst hq'; clear HR)
    | (go_at_call 26; refine (unhide HC1 _).mono ?_; rintro e w2 ⟨rfl, hq⟩; have hq' := hq.symm; subst hq'; clear HC1)
    | (go_at_call 27; refine (unhide HO1 _).mono ?_; rintro e w3 ⟨rfl, hk2⟩; clear HO1; replace hkp := hide ((unhide hkp).more hk2); clear hk2)
    | (go_at_call 27; refine (unhide HO2 _).mono ?_; rintro e w3 ⟨rfl, hk2⟩; clear HO2; replace hkp := hide ((unhide hkp).more hk2); clear hk2)
    | (go_at_call 27; refine (unhide HO3 _).mono ?_; rintro e w3 ⟨rfl, hk2⟩; clear HO3; replace hkp := hide ((unhide hkp).more hk2); clear hk2)
    | (go_at_call 27; refine (unhide HO4 _).mono ?_; rintro e w3 ⟨rfl, hk2⟩; clear HO4; replace hkp := hide ((unhide hkp).more hk2); clear hk2)
    | (go_at_call 27; refine (unhide HO5 _).mono ?_; rintro e w3 ⟨rfl, hk2⟩; clear HO5; replace hkp := hide ((unhide hkp).more hk2); clear hk2))
  all_goals first
    | (go_ret; exact ⟨rfl, unhide hkp⟩)
    | (exfalso; rcases unhide hc4 with q4 | q4; omega; exact q4 ⟨by assumption, by omega⟩)
    | (exfalso; rcases unhide hc5 with q5 | q5; omega; exact q5 ⟨by assumption, by omega⟩)
end Go.Proofs.Ytoibkgjnnneagaa
