/- KeysOrder: Compare is an order. -/
import Derived.Test.YtigmofbammofbabKSortH
namespace Go.Proofs.Ytigmofbammofbab
open Go.RowKit

theorem cmpL_anti (x y : List Nat) : cmpL y x = -cmpL x y := by
  induction x generalizing y with
  | nil => cases y <;> simp [cmpL]
  | cons a x ih =>
    cases y with
    | nil => simp [cmpL]
    | cons b y =>
      rcases Nat.lt_trichotomy a b with h | h | h
      · have : ¬ b < a := by omega
        simp [cmpL, h, this]
      · subst h; rw [cmpL_cons_eq, cmpL_cons_eq]; exact ih y
      · have : ¬ a < b := by omega
        simp [cmpL, h, this]
theorem cmpL_trans (x y z : List Nat) (h1 : cmpL x y ≤ 0) (h2 : cmpL y z ≤ 0) : cmpL x z ≤ 0 := by
  induction x generalizing y z with
  | nil => cases z <;> simp [cmpL]
  | cons a x ih =>
    cases y with
    | nil => simp [cmpL] at h1
    | cons b y =>
      cases z with
      | nil => simp [cmpL] at h2
      | cons c z =>
        rcases Nat.lt_trichotomy a b with h | h | h
        · rcases Nat.lt_trichotomy b c with g | g | g
          · have : a < c := by omega
            simp [cmpL, this]
          · subst g; simp [cmpL, h]
          · have : ¬ b < c := by omega
            simp [cmpL, g, this] at h2
        · subst h
          rcases Nat.lt_trichotomy a c with g | g | g
          · simp [cmpL, g]
          · subst g; rw [cmpL_cons_eq] at *; exact ih y z h1 h2
          · have : ¬ a < c := by omega
            simp [cmpL, g, this] at h2
        · have : ¬ a < b := by omega
          simp [cmpL, h, this] at h1
/-- Compare of two good rows -/
theorem cmp_good {S : Nat → Prop} {w : World} {v1 v2 : Value} {r s : Row} (h1 : RowV S w v1 r) (h2 : RowV S w v2 s) (f1 : faultR r 0 = 0) (f2 : faultR s 0 = 0) : Calls Try.prog 16 #[v1, v2] w fun e w' => Kept [] w w' ∧ e = .returned (.tuple #[.int .i64 (cmpL (codeR r) (codeR s)), .int .i64 0]) := by
  have := compare_any h1 h2
  rw [f1, f2, sort_code (fine_of_fault f1) (fine_of_fault f2) h1.ok h2.ok] at this
  simpa using this
theorem cmp_bad1 {S : Nat → Prop} {w : World} {v1 v2 : Value} {r s : Row} (h1 : RowV S w v1 r) (h2 : RowV S w v2 s) (f1 : faultR r 0 ≠ 0) : Calls Try.prog 16 #[v1, v2] w fun e w' => Kept [] w w' ∧ e = .returned (.tuple #[.int .i64 0, .int .i64 (faultR r 0 : Nat)]) := by
  have := compare_any h1 h2
  rw [if_neg (fun h => f1 h.1), if_neg f1] at this
  exact this
theorem cmp_bad2 {S : Nat → Prop} {w : World} {v1 v2 : Value} {r s : Row} (h1 : RowV S w v1 r) (h2 : RowV S w v2 s) (f1 : faultR r 0 = 0) (f2 : faultR s 0 ≠ 0) : Calls Try.prog 16 #[v1, v2] w fun e w' => Kept [] w w' ∧ e = .returned (.tuple #[.int .i64 0, .int .i64 (faultR s 0 : Nat)]) := by
  have := compare_any h1 h2
  rw [if_neg (fun h => f2 h.2), if_pos f1] at this
  exact this

set_option maxRecDepth 100000 in
set_option maxHeartbeats 4000000 in
theorem order_A {w : World} {va : Value} {ra : Row} {vb : Value} {rb : Row} {vc : Value} {rc : Row} (ha : RowP w va ra) (ca : cnt ra ≤ 131072) (hb : RowP w vb rb) (cb : cnt rb ≤ 131072) (hc : RowP w vc rc) (cc : cnt rc ≤ 131072) (fa : faultR ra 0 = 0) (fb : faultR rb 0 = 0) (fc : faultR rc 0 = 0) :
    Calls Try.prog 6 #[va, vb, vc] w fun e w' => e = .returned (.bool true) ∧ Kept [] w w' := by
  have HBa := hide (beyond_any ha)
  rw [show decide (131072 < cnt ra) = false by simp; omega] at HBa
  have HVa := hide (fun (w1 : World) (hk : Kept [] w w1) => values_any ra w1 va (ha.kept hk) ca)
  have HCa := hide ca
  have HBb := hide (beyond_any hb)
  rw [show decide (131072 < cnt rb) = false by simp; omega] at HBb
  have HVb := hide (fun (w1 : World) (hk : Kept [] w w1) => values_any rb w1 vb (hb.kept hk) cb)
  have HCb := hide cb
  have HBc := hide (beyond_any hc)
  rw [show decide (131072 < cnt rc) = false by simp; omega] at HBc
  have HVc := hide (fun (w1 : World) (hk : Kept [] w w1) => values_any rc w1 vc (hc.kept hk) cc)
  have HCc := hide cc
  have HAW := hide (awake_any w)
  have a1 := cmpL_range (codeR ra) (codeR rb)
  have a3 := cmpL_trans (codeR ra) (codeR rb) (codeR rc)
  obtain ⟨X, hX⟩ : ∃ X, cmpL (codeR ra) (codeR rb) = X := ⟨_, rfl⟩
  obtain ⟨Z, hZ⟩ : ∃ Z, cmpL (codeR rb) (codeR rc) = Z := ⟨_, rfl⟩
  obtain ⟨V, hV⟩ : ∃ V, cmpL (codeR ra) (codeR rc) = V := ⟨_, rfl⟩
  rw [hX] at a1 a3
  rw [hZ, hV] at a3
  have HM1 : Hid (∀ (S : Nat → Prop) (w1 : World) (u1 u2 : Value), RowV S w1 u1 ra → RowV S w1 u2 rb → Calls Try.prog 16 #[u1, u2] w1 fun e w' => Kept [] w1 w' ∧ e = .returned (.tuple #[.int .i64 X, .int .i64 0])) := by
    intro S w1 u1 u2 h1 h2
    have := cmp_good h1 h2 fa fb
    rw [hX] at this
    exact this
  have HM2 : Hid (∀ (S : Nat → Prop) (w1 : World) (u1 u2 : Value), RowV S w1 u1 rb → RowV S w1 u2 ra → Calls Try.prog 16 #[u1, u2] w1 fun e w' => Kept [] w1 w' ∧ e = .returned (.tuple #[.int .i64 (-X), .int .i64 0])) := by
    intro S w1 u1 u2 h1 h2
    have := cmp_good h1 h2 fb fa
    rw [cmpL_anti, hX] at this
    exact this
  have HM3 : Hid (∀ (S : Nat → Prop) (w1 : World) (u1 u2 : Value), RowV S w1 u1 rb → RowV S w1 u2 rc → Calls Try.prog 16 #[u1, u2] w1 fun e w' => Kept [] w1 w' ∧ e = .returned (.tuple #[.int .i64 Z, .int .i64 0])) := by
    intro S w1 u1 u2 h1 h2
    have := cmp_good h1 h2 fb fc
    rw [hZ] at this
    exact this
  have HM4 : Hid (∀ (S : Nat → Prop) (w1 : World) (u1 u2 : Value), RowV S w1 u1 ra → RowV S w1 u2 rc → Calls Try.prog 16 #[u1, u2] w1 fun e w' => Kept [] w1 w' ∧ e = .returned (.tuple #[.int .i64 V, .int .i64 0])) := by
    intro S w1 u1 u2 h1 h2
    have := cmp_good h1 h2 fa fc
    rw [hV] at this
    exact this
  have HM5 : Hid (∀ (S : Nat → Prop) (w1 : World) (u1 u2 : Value), RowV S w1 u1 ra → RowV S w1 u2 ra → Calls Try.prog 16 #[u1, u2] w1 fun e w' => Kept [] w1 w' ∧ e = .returned (.tuple #[.int .i64 0, .int .i64 0])) := by
    intro S w1 u1 u2 h1 h2
    have := cmp_good h1 h2 fa fa
    rw [cmpL_self] at this
    exact this
  have HA3 := hide a3
  obtain ⟨a1, a2⟩ := a1
  clear a3 hX hZ hV fa fb fc
  obtain ⟨aa, capa, rfl, -⟩ := ha
  generalize ra.len = La at *
  obtain ⟨ab, capb, rfl, -⟩ := hb
  generalize rb.len = Lb at *
  obtain ⟨ac, capc, rfl, -⟩ := hc
  generalize rc.len = Lc at *
  clear ca cb cc
  go_enter Try.func6, Try.ntmps6
  go_wp2_with (first
    | (go_at_call 8; refine (unhide HBa).mono ?_; rintro e w' ⟨rfl, hq⟩; have hq' := hq.symm; subst hq'; clear HBa)
    | (go_at_call 8; refine (unhide HBb).mono ?_; rintro e w' ⟨rfl, hq⟩; have hq' := hq.symm; subst hq'; clear HBb)
    | (go_at_call 8; refine (unhide HBc).mono ?_; rintro e w' ⟨rfl, hq⟩; have hq' := hq.symm; subst hq'; clear HBc)
    | (go_at_call 9; refine (unhide HAW).mono ?_; rintro e w1 ⟨rfl, hk⟩; have HK1 := hide (hk); have HN1 := hide (unhide HVa _ (unhide HK1)); clear hk HAW)
    | (go_at_call 11; refine (unhide HN1).mono ?_; rintro e w2 ⟨⟨q1, z1, rfl, hrv⟩, hk⟩; have HK2 := hide ((unhide HK1).trans hk (by simp)); have HR1_2 := hide hrv.any; have HN2 := hide (unhide HVb _ (unhide HK2)); clear hrv hk HN1 )
    | (go_at_call 11; refine (unhide HN2).mono ?_; rintro e w3 ⟨⟨q2, z2, rfl, hrv⟩, hk⟩; have HK3 := hide ((unhide HK2).trans hk (by simp)); have HR1_3 := hide ((unhide HR1_2).kept hk (by simp)); have HR2_3 := hide hrv.any; have HN3 := hide (unhide HM1 _ _ _ _ (unhide HR1_3) (unhide HR2_3)); clear hrv hk HN2 HR1_2)
    | (go_at_call 16; refine (unhide HN3).mono ?_; rintro e w4 ⟨hk, rfl⟩; have HK4 := hide ((unhide HK3).trans hk (by simp)); have HN4 := hide (unhide HVb _ (unhide HK4)); clear hk HN3 HR1_3 HR2_3)
    | (go_at_call 11; refine (unhide HN4).mono ?_; rintro e w5 ⟨⟨q4, z4, rfl, hrv⟩, hk⟩; have HK5 := hide ((unhide HK4).trans hk (by simp)); have HR4_5 := hide hrv.any; have HN5 := hide (unhide HVa _ (unhide HK5)); clear hrv hk HN4 )
    | (go_at_call 11; refine (unhide HN5).mono ?_; rintro e w6 ⟨⟨q5, z5, rfl, hrv⟩, hk⟩; have HK6 := hide ((unhide HK5).trans hk (by simp)); have HR4_6 := hide ((unhide HR4_5).kept hk (by simp)); have HR5_6 := hide hrv.any; have HN6 := hide (unhide HM2 _ _ _ _ (unhide HR4_6) (unhide HR5_6)); clear hrv hk HN5 HR4_5)
    | (go_at_call 16; refine (unhide HN6).mono ?_; rintro e w7 ⟨hk, rfl⟩; have HK7 := hide ((unhide HK6).trans hk (by simp)); have HN7 := hide (unhide HVb _ (unhide HK7)); clear hk HN6 HR4_6 HR5_6)
    | (go_at_call 11; refine (unhide HN7).mono ?_; rintro e w8 ⟨⟨q7, z7, rfl, hrv⟩, hk⟩; have HK8 := hide ((unhide HK7).trans hk (by simp)); have HR7_8 := hide hrv.any; have HN8 := hide (unhide HVc _ (unhide HK8)); clear hrv hk HN7 )
    | (go_at_call 11; refine (unhide HN8).mono ?_; rintro e w9 ⟨⟨q8, z8, rfl, hrv⟩, hk⟩; have HK9 := hide ((unhide HK8).trans hk (by simp)); have HR7_9 := hide ((unhide HR7_8).kept hk (by simp)); have HR8_9 := hide hrv.any; have HN9 := hide (unhide HM3 _ _ _ _ (unhide HR7_9) (unhide HR8_9)); clear hrv hk HN8 HR7_8)
    | (go_at_call 16; refine (unhide HN9).mono ?_; rintro e w10 ⟨hk, rfl⟩; have HK10 := hide ((unhide HK9).trans hk (by simp)); have HN10 := hide (unhide HVa _ (unhide HK10)); clear hk HN9 HR7_9 HR8_9)
    | (go_at_call 11; refine (unhide HN10).mono ?_; rintro e w11 ⟨⟨q10, z10, rfl, hrv⟩, hk⟩; have HK11 := hide ((unhide HK10).trans hk (by simp)); have HR10_11 := hide hrv.any; have HN11 := hide (unhide HVc _ (unhide HK11)); clear hrv hk HN10 )
    | (go_at_call 11; refine (unhide HN11).mono ?_; rintro e w12 ⟨⟨q11, z11, rfl, hrv⟩, hk⟩; have HK12 := hide ((unhide HK11).trans hk (by simp)); have HR10_12 := hide ((unhide HR10_11).kept hk (by simp)); have HR11_12 := hide hrv.any; have HN12 := hide (unhide HM4 _ _ _ _ (unhide HR10_12) (unhide HR11_12)); clear hrv hk HN11 HR10_11)
    | (go_at_call 16; refine (unhide HN12).mono ?_; rintro e w13 ⟨hk, rfl⟩; have HK13 := hide ((unhide HK12).trans hk (by simp)); have HN13 := hide (unhide HVa _ (unhide HK13)); clear hk HN12 HR10_12 HR11_12)
    | (go_at_call 11; refine (unhide HN13).mono ?_; rintro e w14 ⟨⟨q13, z13, rfl, hrv⟩, hk⟩; have HK14 := hide ((unhide HK13).trans hk (by simp)); have HR13_14 := hide hrv.any; have HN14 := hide (unhide HVa _ (unhide HK14)); clear hrv hk HN13 )
    | (go_at_call 11; refine (unhide HN14).mono ?_; rintro e w15 ⟨⟨q14, z14, rfl, hrv⟩, hk⟩; have HK15 := hide ((unhide HK14).trans hk (by simp)); have HR13_15 := hide ((unhide HR13_14).kept hk (by simp)); have HR14_15 := hide hrv.any; have HN15 := hide (unhide HM5 _ _ _ _ (unhide HR13_15) (unhide HR14_15)); clear hrv hk HN14 HR13_14)
    | (go_at_call 16; refine (unhide HN15).mono ?_; rintro e w16 ⟨hk, rfl⟩; have HK16 := hide ((unhide HK15).trans hk (by simp)); clear hk HN15 HR13_15 HR14_15))
  all_goals go_ret
  all_goals exact ⟨by first | rfl | (have h9 := unhide HA3; simp; omega) | (have h9 := unhide HA3; congr 2; simp; omega), unhide HK16⟩

set_option maxRecDepth 100000 in
set_option maxHeartbeats 4000000 in
theorem order_B {w : World} {va : Value} {ra : Row} {vb : Value} {rb : Row} {vc : Value} {rc : Row} (ha : RowP w va ra) (ca : cnt ra ≤ 131072) (hb : RowP w vb rb) (cb : cnt rb ≤ 131072) (hc : RowP w vc rc) (cc : cnt rc ≤ 131072) (fa : faultR ra 0 ≠ 0) :
    Calls Try.prog 6 #[va, vb, vc] w fun e w' => e = .returned (.bool true) ∧ Kept [] w w' := by
  have HBa := hide (beyond_any ha)
  rw [show decide (131072 < cnt ra) = false by simp; omega] at HBa
  have HVa := hide (fun (w1 : World) (hk : Kept [] w w1) => values_any ra w1 va (ha.kept hk) ca)
  have HCa := hide ca
  have HBb := hide (beyond_any hb)
  rw [show decide (131072 < cnt rb) = false by simp; omega] at HBb
  have HVb := hide (fun (w1 : World) (hk : Kept [] w w1) => values_any rb w1 vb (hb.kept hk) cb)
  have HCb := hide cb
  have HBc := hide (beyond_any hc)
  rw [show decide (131072 < cnt rc) = false by simp; omega] at HBc
  have HVc := hide (fun (w1 : World) (hk : Kept [] w w1) => values_any rc w1 vc (hc.kept hk) cc)
  have HCc := hide cc
  have HAW := hide (awake_any w)
  obtain ⟨F, hF⟩ : ∃ F, faultR ra 0 = F := ⟨_, rfl⟩
  have tF : ((F : Int) != 0) = true := by rw [← hF]; simp; omega
  have uF : ((F : Int) == 0) = false := by rw [← hF]; simp; omega
  obtain ⟨G, hG, hG0⟩ : ∃ G : Nat, (if faultR rb 0 = 0 then faultR ra 0 else faultR rb 0) = G ∧ G ≠ 0 := ⟨_, rfl, by split <;> assumption⟩
  have uG : ((G : Int) == 0) = false := by simp; omega
  have HM1 : Hid (∀ (S : Nat → Prop) (w1 : World) (u1 u2 : Value), RowV S w1 u1 ra → RowV S w1 u2 rb → Calls Try.prog 16 #[u1, u2] w1 fun e w' => Kept [] w1 w' ∧ e = .returned (.tuple #[.int .i64 0, .int .i64 (F : Nat)])) := by
    intro S w1 u1 u2 h1 h2
    have := cmp_bad1 h1 h2 fa
    rw [hF] at this
    exact this
  have HM2 : Hid (∀ (S : Nat → Prop) (w1 : World) (u1 u2 : Value), RowV S w1 u1 rb → RowV S w1 u2 ra → Calls Try.prog 16 #[u1, u2] w1 fun e w' => Kept [] w1 w' ∧ e = .returned (.tuple #[.int .i64 0, .int .i64 (G : Nat)])) := by
    intro S w1 u1 u2 h1 h2
    by_cases fb : faultR rb 0 = 0
    · have := cmp_bad2 h1 h2 fb fa
      rw [if_pos fb] at hG
      rw [hG] at this
      exact this
    · have := cmp_bad1 h1 h2 fb
      rw [if_neg fb] at hG
      rw [hG] at this
      exact this
  have HM3 : Hid (∀ (S : Nat → Prop) (w1 : World) (u1 u2 : Value), RowV S w1 u1 rb → RowV S w1 u2 rc → Calls Try.prog 16 #[u1, u2] w1 fun e w' => Kept [] w1 w' ∧ e = .returned (.tuple #[.int .i64 (if faultR rb 0 = 0 ∧ faultR rc 0 = 0 then cmpR rb rc else 0), .int .i64 (if faultR rb 0 = 0 then (faultR rc 0 : Nat) else (faultR rb 0 : Nat))])) := fun S w1 u1 u2 h1 h2 => compare_any h1 h2
  generalize (if faultR rb 0 = 0 ∧ faultR rc 0 = 0 then cmpR rb rc else 0) = Z3 at HM3
  generalize (if faultR rb 0 = 0 then ((faultR rc 0 : Nat) : Int) else ((faultR rb 0 : Nat) : Int)) = E3 at HM3
  have HM4 : Hid (∀ (S : Nat → Prop) (w1 : World) (u1 u2 : Value), RowV S w1 u1 ra → RowV S w1 u2 rc → Calls Try.prog 16 #[u1, u2] w1 fun e w' => Kept [] w1 w' ∧ e = .returned (.tuple #[.int .i64 0, .int .i64 (F : Nat)])) := by
    intro S w1 u1 u2 h1 h2
    have := cmp_bad1 h1 h2 fa
    rw [hF] at this
    exact this
  have HM5 : Hid (∀ (S : Nat → Prop) (w1 : World) (u1 u2 : Value), RowV S w1 u1 ra → RowV S w1 u2 ra → Calls Try.prog 16 #[u1, u2] w1 fun e w' => Kept [] w1 w' ∧ e = .returned (.tuple #[.int .i64 0, .int .i64 (F : Nat)])) := by
    intro S w1 u1 u2 h1 h2
    have := cmp_bad1 h1 h2 fa
    rw [hF] at this
    exact this
  clear fa hF hG hG0
  obtain ⟨aa, capa, rfl, -⟩ := ha
  generalize ra.len = La at *
  obtain ⟨ab, capb, rfl, -⟩ := hb
  generalize rb.len = Lb at *
  obtain ⟨ac, capc, rfl, -⟩ := hc
  generalize rc.len = Lc at *
  clear ca cb cc
  go_enter Try.func6, Try.ntmps6
  go_wp2_with (first
    | (go_at_call 8; refine (unhide HBa).mono ?_; rintro e w' ⟨rfl, hq⟩; have hq' := hq.symm; subst hq'; clear HBa)
    | (go_at_call 8; refine (unhide HBb).mono ?_; rintro e w' ⟨rfl, hq⟩; have hq' := hq.symm; subst hq'; clear HBb)
    | (go_at_call 8; refine (unhide HBc).mono ?_; rintro e w' ⟨rfl, hq⟩; have hq' := hq.symm; subst hq'; clear HBc)
    | (go_at_call 9; refine (unhide HAW).mono ?_; rintro e w1 ⟨rfl, hk⟩; have HK1 := hide (hk); have HN1 := hide (unhide HVa _ (unhide HK1)); clear hk HAW)
    | (go_at_call 11; refine (unhide HN1).mono ?_; rintro e w2 ⟨⟨q1, z1, rfl, hrv⟩, hk⟩; have HK2 := hide ((unhide HK1).trans hk (by simp)); have HR1_2 := hide hrv.any; have HN2 := hide (unhide HVb _ (unhide HK2)); clear hrv hk HN1 )
    | (go_at_call 11; refine (unhide HN2).mono ?_; rintro e w3 ⟨⟨q2, z2, rfl, hrv⟩, hk⟩; have HK3 := hide ((unhide HK2).trans hk (by simp)); have HR1_3 := hide ((unhide HR1_2).kept hk (by simp)); have HR2_3 := hide hrv.any; have HN3 := hide (unhide HM1 _ _ _ _ (unhide HR1_3) (unhide HR2_3)); clear hrv hk HN2 HR1_2)
    | (go_at_call 16; refine (unhide HN3).mono ?_; rintro e w4 ⟨hk, rfl⟩; have HK4 := hide ((unhide HK3).trans hk (by simp)); have HN4 := hide (unhide HVb _ (unhide HK4)); clear hk HN3 HR1_3 HR2_3)
    | (go_at_call 11; refine (unhide HN4).mono ?_; rintro e w5 ⟨⟨q4, z4, rfl, hrv⟩, hk⟩; have HK5 := hide ((unhide HK4).trans hk (by simp)); have HR4_5 := hide hrv.any; have HN5 := hide (unhide HVa _ (unhide HK5)); clear hrv hk HN4 )
    | (go_at_call 11; refine (unhide HN5).mono ?_; rintro e w6 ⟨⟨q5, z5, rfl, hrv⟩, hk⟩; have HK6 := hide ((unhide HK5).trans hk (by simp)); have HR4_6 := hide ((unhide HR4_5).kept hk (by simp)); have HR5_6 := hide hrv.any; have HN6 := hide (unhide HM2 _ _ _ _ (unhide HR4_6) (unhide HR5_6)); clear hrv hk HN5 HR4_5)
    | (go_at_call 16; refine (unhide HN6).mono ?_; rintro e w7 ⟨hk, rfl⟩; have HK7 := hide ((unhide HK6).trans hk (by simp)); have HN7 := hide (unhide HVb _ (unhide HK7)); clear hk HN6 HR4_6 HR5_6)
    | (go_at_call 11; refine (unhide HN7).mono ?_; rintro e w8 ⟨⟨q7, z7, rfl, hrv⟩, hk⟩; have HK8 := hide ((unhide HK7).trans hk (by simp)); have HR7_8 := hide hrv.any; have HN8 := hide (unhide HVc _ (unhide HK8)); clear hrv hk HN7 )
    | (go_at_call 11; refine (unhide HN8).mono ?_; rintro e w9 ⟨⟨q8, z8, rfl, hrv⟩, hk⟩; have HK9 := hide ((unhide HK8).trans hk (by simp)); have HR7_9 := hide ((unhide HR7_8).kept hk (by simp)); have HR8_9 := hide hrv.any; have HN9 := hide (unhide HM3 _ _ _ _ (unhide HR7_9) (unhide HR8_9)); clear hrv hk HN8 HR7_8)
    | (go_at_call 16; refine (unhide HN9).mono ?_; rintro e w10 ⟨hk, rfl⟩; have HK10 := hide ((unhide HK9).trans hk (by simp)); have HN10 := hide (unhide HVa _ (unhide HK10)); clear hk HN9 HR7_9 HR8_9)
    | (go_at_call 11; refine (unhide HN10).mono ?_; rintro e w11 ⟨⟨q10, z10, rfl, hrv⟩, hk⟩; have HK11 := hide ((unhide HK10).trans hk (by simp)); have HR10_11 := hide hrv.any; have HN11 := hide (unhide HVc _ (unhide HK11)); clear hrv hk HN10 )
    | (go_at_call 11; refine (unhide HN11).mono ?_; rintro e w12 ⟨⟨q11, z11, rfl, hrv⟩, hk⟩; have HK12 := hide ((unhide HK11).trans hk (by simp)); have HR10_12 := hide ((unhide HR10_11).kept hk (by simp)); have HR11_12 := hide hrv.any; have HN12 := hide (unhide HM4 _ _ _ _ (unhide HR10_12) (unhide HR11_12)); clear hrv hk HN11 HR10_11)
    | (go_at_call 16; refine (unhide HN12).mono ?_; rintro e w13 ⟨hk, rfl⟩; have HK13 := hide ((unhide HK12).trans hk (by simp)); have HN13 := hide (unhide HVa _ (unhide HK13)); clear hk HN12 HR10_12 HR11_12)
    | (go_at_call 11; refine (unhide HN13).mono ?_; rintro e w14 ⟨⟨q13, z13, rfl, hrv⟩, hk⟩; have HK14 := hide ((unhide HK13).trans hk (by simp)); have HR13_14 := hide hrv.any; have HN14 := hide (unhide HVa _ (unhide HK14)); clear hrv hk HN13 )
    | (go_at_call 11; refine (unhide HN14).mono ?_; rintro e w15 ⟨⟨q14, z14, rfl, hrv⟩, hk⟩; have HK15 := hide ((unhide HK14).trans hk (by simp)); have HR13_15 := hide ((unhide HR13_14).kept hk (by simp)); have HR14_15 := hide hrv.any; have HN15 := hide (unhide HM5 _ _ _ _ (unhide HR13_15) (unhide HR14_15)); clear hrv hk HN14 HR13_14)
    | (go_at_call 16; refine (unhide HN15).mono ?_; rintro e w16 ⟨hk, rfl⟩; have HK16 := hide ((unhide HK15).trans hk (by simp)); clear hk HN15 HR13_15 HR14_15))
  go_ret
  exact ⟨rfl, unhide HK16⟩

set_option maxRecDepth 100000 in
set_option maxHeartbeats 4000000 in
theorem order_C {w : World} {va : Value} {ra : Row} {vb : Value} {rb : Row} {vc : Value} {rc : Row} (ha : RowP w va ra) (ca : cnt ra ≤ 131072) (hb : RowP w vb rb) (cb : cnt rb ≤ 131072) (hc : RowP w vc rc) (cc : cnt rc ≤ 131072) (fa : faultR ra 0 = 0) (fb : faultR rb 0 ≠ 0) :
    Calls Try.prog 6 #[va, vb, vc] w fun e w' => e = .returned (.bool true) ∧ Kept [] w w' := by
  have HBa := hide (beyond_any ha)
  rw [show decide (131072 < cnt ra) = false by simp; omega] at HBa
  have HVa := hide (fun (w1 : World) (hk : Kept [] w w1) => values_any ra w1 va (ha.kept hk) ca)
  have HCa := hide ca
  have HBb := hide (beyond_any hb)
  rw [show decide (131072 < cnt rb) = false by simp; omega] at HBb
  have HVb := hide (fun (w1 : World) (hk : Kept [] w w1) => values_any rb w1 vb (hb.kept hk) cb)
  have HCb := hide cb
  have HBc := hide (beyond_any hc)
  rw [show decide (131072 < cnt rc) = false by simp; omega] at HBc
  have HVc := hide (fun (w1 : World) (hk : Kept [] w w1) => values_any rc w1 vc (hc.kept hk) cc)
  have HCc := hide cc
  have HAW := hide (awake_any w)
  obtain ⟨F, hF⟩ : ∃ F, faultR rb 0 = F := ⟨_, rfl⟩
  have tF : ((F : Int) != 0) = true := by rw [← hF]; simp; omega
  have uF : ((F : Int) == 0) = false := by rw [← hF]; simp; omega
  have HM1 : Hid (∀ (S : Nat → Prop) (w1 : World) (u1 u2 : Value), RowV S w1 u1 ra → RowV S w1 u2 rb → Calls Try.prog 16 #[u1, u2] w1 fun e w' => Kept [] w1 w' ∧ e = .returned (.tuple #[.int .i64 0, .int .i64 (F : Nat)])) := by
    intro S w1 u1 u2 h1 h2
    have := cmp_bad2 h1 h2 fa fb
    rw [hF] at this
    exact this
  have HM2 : Hid (∀ (S : Nat → Prop) (w1 : World) (u1 u2 : Value), RowV S w1 u1 rb → RowV S w1 u2 ra → Calls Try.prog 16 #[u1, u2] w1 fun e w' => Kept [] w1 w' ∧ e = .returned (.tuple #[.int .i64 0, .int .i64 (F : Nat)])) := by
    intro S w1 u1 u2 h1 h2
    have := cmp_bad1 h1 h2 fb
    rw [hF] at this
    exact this
  have HM3 : Hid (∀ (S : Nat → Prop) (w1 : World) (u1 u2 : Value), RowV S w1 u1 rb → RowV S w1 u2 rc → Calls Try.prog 16 #[u1, u2] w1 fun e w' => Kept [] w1 w' ∧ e = .returned (.tuple #[.int .i64 0, .int .i64 (F : Nat)])) := by
    intro S w1 u1 u2 h1 h2
    have := cmp_bad1 h1 h2 fb
    rw [hF] at this
    exact this
  have HM4 : Hid (∀ (S : Nat → Prop) (w1 : World) (u1 u2 : Value), RowV S w1 u1 ra → RowV S w1 u2 rc → Calls Try.prog 16 #[u1, u2] w1 fun e w' => Kept [] w1 w' ∧ e = .returned (.tuple #[.int .i64 (if faultR ra 0 = 0 ∧ faultR rc 0 = 0 then cmpR ra rc else 0), .int .i64 (if faultR ra 0 = 0 then (faultR rc 0 : Nat) else (faultR ra 0 : Nat))])) := fun S w1 u1 u2 h1 h2 => compare_any h1 h2
  generalize (if faultR ra 0 = 0 ∧ faultR rc 0 = 0 then cmpR ra rc else 0) = Z3 at HM4
  generalize (if faultR ra 0 = 0 then ((faultR rc 0 : Nat) : Int) else ((faultR ra 0 : Nat) : Int)) = E3 at HM4
  have HM5 : Hid (∀ (S : Nat → Prop) (w1 : World) (u1 u2 : Value), RowV S w1 u1 ra → RowV S w1 u2 ra → Calls Try.prog 16 #[u1, u2] w1 fun e w' => Kept [] w1 w' ∧ e = .returned (.tuple #[.int .i64 0, .int .i64 0])) := by
    intro S w1 u1 u2 h1 h2
    have := cmp_good h1 h2 fa fa
    rw [cmpL_self] at this
    exact this
  clear fa fb hF
  obtain ⟨aa, capa, rfl, -⟩ := ha
  generalize ra.len = La at *
  obtain ⟨ab, capb, rfl, -⟩ := hb
  generalize rb.len = Lb at *
  obtain ⟨ac, capc, rfl, -⟩ := hc
  generalize rc.len = Lc at *
  clear ca cb cc
  go_enter Try.func6, Try.ntmps6
  go_wp2_with (first
    | (go_at_call 8; refine (unhide HBa).mono ?_; rintro e w' ⟨rfl, hq⟩; have hq' := hq.symm; subst hq'; clear HBa)
    | (go_at_call 8; refine (unhide HBb).mono ?_; rintro e w' ⟨rfl, hq⟩; have hq' := hq.symm; subst hq'; clear HBb)
    | (go_at_call 8; refine (unhide HBc).mono ?_; rintro e w' ⟨rfl, hq⟩; have hq' := hq.symm; subst hq'; clear HBc)
    | (go_at_call 9; refine (unhide HAW).mono ?_; rintro e w1 ⟨rfl, hk⟩; have HK1 := hide (hk); have HN1 := hide (unhide HVa _ (unhide HK1)); clear hk HAW)
    | (go_at_call 11; refine (unhide HN1).mono ?_; rintro e w2 ⟨⟨q1, z1, rfl, hrv⟩, hk⟩; have HK2 := hide ((unhide HK1).trans hk (by simp)); have HR1_2 := hide hrv.any; have HN2 := hide (unhide HVb _ (unhide HK2)); clear hrv hk HN1 )
    | (go_at_call 11; refine (unhide HN2).mono ?_; rintro e w3 ⟨⟨q2, z2, rfl, hrv⟩, hk⟩; have HK3 := hide ((unhide HK2).trans hk (by simp)); have HR1_3 := hide ((unhide HR1_2).kept hk (by simp)); have HR2_3 := hide hrv.any; have HN3 := hide (unhide HM1 _ _ _ _ (unhide HR1_3) (unhide HR2_3)); clear hrv hk HN2 HR1_2)
    | (go_at_call 16; refine (unhide HN3).mono ?_; rintro e w4 ⟨hk, rfl⟩; have HK4 := hide ((unhide HK3).trans hk (by simp)); have HN4 := hide (unhide HVb _ (unhide HK4)); clear hk HN3 HR1_3 HR2_3)
    | (go_at_call 11; refine (unhide HN4).mono ?_; rintro e w5 ⟨⟨q4, z4, rfl, hrv⟩, hk⟩; have HK5 := hide ((unhide HK4).trans hk (by simp)); have HR4_5 := hide hrv.any; have HN5 := hide (unhide HVa _ (unhide HK5)); clear hrv hk HN4 )
    | (go_at_call 11; refine (unhide HN5).mono ?_; rintro e w6 ⟨⟨q5, z5, rfl, hrv⟩, hk⟩; have HK6 := hide ((unhide HK5).trans hk (by simp)); have HR4_6 := hide ((unhide HR4_5).kept hk (by simp)); have HR5_6 := hide hrv.any; have HN6 := hide (unhide HM2 _ _ _ _ (unhide HR4_6) (unhide HR5_6)); clear hrv hk HN5 HR4_5)
    | (go_at_call 16; refine (unhide HN6).mono ?_; rintro e w7 ⟨hk, rfl⟩; have HK7 := hide ((unhide HK6).trans hk (by simp)); have HN7 := hide (unhide HVb _ (unhide HK7)); clear hk HN6 HR4_6 HR5_6)
    | (go_at_call 11; refine (unhide HN7).mono ?_; rintro e w8 ⟨⟨q7, z7, rfl, hrv⟩, hk⟩; have HK8 := hide ((unhide HK7).trans hk (by simp)); have HR7_8 := hide hrv.any; have HN8 := hide (unhide HVc _ (unhide HK8)); clear hrv hk HN7 )
    | (go_at_call 11; refine (unhide HN8).mono ?_; rintro e w9 ⟨⟨q8, z8, rfl, hrv⟩, hk⟩; have HK9 := hide ((unhide HK8).trans hk (by simp)); have HR7_9 := hide ((unhide HR7_8).kept hk (by simp)); have HR8_9 := hide hrv.any; have HN9 := hide (unhide HM3 _ _ _ _ (unhide HR7_9) (unhide HR8_9)); clear hrv hk HN8 HR7_8)
    | (go_at_call 16; refine (unhide HN9).mono ?_; rintro e w10 ⟨hk, rfl⟩; have HK10 := hide ((unhide HK9).trans hk (by simp)); have HN10 := hide (unhide HVa _ (unhide HK10)); clear hk HN9 HR7_9 HR8_9)
    | (go_at_call 11; refine (unhide HN10).mono ?_; rintro e w11 ⟨⟨q10, z10, rfl, hrv⟩, hk⟩; have HK11 := hide ((unhide HK10).trans hk (by simp)); have HR10_11 := hide hrv.any; have HN11 := hide (unhide HVc _ (unhide HK11)); clear hrv hk HN10 )
    | (go_at_call 11; refine (unhide HN11).mono ?_; rintro e w12 ⟨⟨q11, z11, rfl, hrv⟩, hk⟩; have HK12 := hide ((unhide HK11).trans hk (by simp)); have HR10_12 := hide ((unhide HR10_11).kept hk (by simp)); have HR11_12 := hide hrv.any; have HN12 := hide (unhide HM4 _ _ _ _ (unhide HR10_12) (unhide HR11_12)); clear hrv hk HN11 HR10_11)
    | (go_at_call 16; refine (unhide HN12).mono ?_; rintro e w13 ⟨hk, rfl⟩; have HK13 := hide ((unhide HK12).trans hk (by simp)); have HN13 := hide (unhide HVa _ (unhide HK13)); clear hk HN12 HR10_12 HR11_12)
    | (go_at_call 11; refine (unhide HN13).mono ?_; rintro e w14 ⟨⟨q13, z13, rfl, hrv⟩, hk⟩; have HK14 := hide ((unhide HK13).trans hk (by simp)); have HR13_14 := hide hrv.any; have HN14 := hide (unhide HVa _ (unhide HK14)); clear hrv hk HN13 )
    | (go_at_call 11; refine (unhide HN14).mono ?_; rintro e w15 ⟨⟨q14, z14, rfl, hrv⟩, hk⟩; have HK15 := hide ((unhide HK14).trans hk (by simp)); have HR13_15 := hide ((unhide HR13_14).kept hk (by simp)); have HR14_15 := hide hrv.any; have HN15 := hide (unhide HM5 _ _ _ _ (unhide HR13_15) (unhide HR14_15)); clear hrv hk HN14 HR13_14)
    | (go_at_call 16; refine (unhide HN15).mono ?_; rintro e w16 ⟨hk, rfl⟩; have HK16 := hide ((unhide HK15).trans hk (by simp)); clear hk HN15 HR13_15 HR14_15))
  go_ret
  exact ⟨rfl, unhide HK16⟩

set_option maxRecDepth 100000 in
set_option maxHeartbeats 4000000 in
theorem order_D {w : World} {va : Value} {ra : Row} {vb : Value} {rb : Row} {vc : Value} {rc : Row} (ha : RowP w va ra) (ca : cnt ra ≤ 131072) (hb : RowP w vb rb) (cb : cnt rb ≤ 131072) (hc : RowP w vc rc) (cc : cnt rc ≤ 131072) (fa : faultR ra 0 = 0) (fb : faultR rb 0 = 0) (fc : faultR rc 0 ≠ 0) :
    Calls Try.prog 6 #[va, vb, vc] w fun e w' => e = .returned (.bool true) ∧ Kept [] w w' := by
  have HBa := hide (beyond_any ha)
  rw [show decide (131072 < cnt ra) = false by simp; omega] at HBa
  have HVa := hide (fun (w1 : World) (hk : Kept [] w w1) => values_any ra w1 va (ha.kept hk) ca)
  have HCa := hide ca
  have HBb := hide (beyond_any hb)
  rw [show decide (131072 < cnt rb) = false by simp; omega] at HBb
  have HVb := hide (fun (w1 : World) (hk : Kept [] w w1) => values_any rb w1 vb (hb.kept hk) cb)
  have HCb := hide cb
  have HBc := hide (beyond_any hc)
  rw [show decide (131072 < cnt rc) = false by simp; omega] at HBc
  have HVc := hide (fun (w1 : World) (hk : Kept [] w w1) => values_any rc w1 vc (hc.kept hk) cc)
  have HCc := hide cc
  have HAW := hide (awake_any w)
  obtain ⟨F, hF⟩ : ∃ F, faultR rc 0 = F := ⟨_, rfl⟩
  have tF : ((F : Int) != 0) = true := by rw [← hF]; simp; omega
  have uF : ((F : Int) == 0) = false := by rw [← hF]; simp; omega
  obtain ⟨X, hX⟩ : ∃ X, cmpL (codeR ra) (codeR rb) = X := ⟨_, rfl⟩
  have HM1 : Hid (∀ (S : Nat → Prop) (w1 : World) (u1 u2 : Value), RowV S w1 u1 ra → RowV S w1 u2 rb → Calls Try.prog 16 #[u1, u2] w1 fun e w' => Kept [] w1 w' ∧ e = .returned (.tuple #[.int .i64 X, .int .i64 0])) := by
    intro S w1 u1 u2 h1 h2
    have := cmp_good h1 h2 fa fb
    rw [hX] at this
    exact this
  have HM2 : Hid (∀ (S : Nat → Prop) (w1 : World) (u1 u2 : Value), RowV S w1 u1 rb → RowV S w1 u2 ra → Calls Try.prog 16 #[u1, u2] w1 fun e w' => Kept [] w1 w' ∧ e = .returned (.tuple #[.int .i64 (-X), .int .i64 0])) := by
    intro S w1 u1 u2 h1 h2
    have := cmp_good h1 h2 fb fa
    rw [cmpL_anti, hX] at this
    exact this
  have HM3 : Hid (∀ (S : Nat → Prop) (w1 : World) (u1 u2 : Value), RowV S w1 u1 rb → RowV S w1 u2 rc → Calls Try.prog 16 #[u1, u2] w1 fun e w' => Kept [] w1 w' ∧ e = .returned (.tuple #[.int .i64 0, .int .i64 (F : Nat)])) := by
    intro S w1 u1 u2 h1 h2
    have := cmp_bad2 h1 h2 fb fc
    rw [hF] at this
    exact this
  have HM4 : Hid (∀ (S : Nat → Prop) (w1 : World) (u1 u2 : Value), RowV S w1 u1 ra → RowV S w1 u2 rc → Calls Try.prog 16 #[u1, u2] w1 fun e w' => Kept [] w1 w' ∧ e = .returned (.tuple #[.int .i64 0, .int .i64 (F : Nat)])) := by
    intro S w1 u1 u2 h1 h2
    have := cmp_bad2 h1 h2 fa fc
    rw [hF] at this
    exact this
  have HM5 : Hid (∀ (S : Nat → Prop) (w1 : World) (u1 u2 : Value), RowV S w1 u1 ra → RowV S w1 u2 ra → Calls Try.prog 16 #[u1, u2] w1 fun e w' => Kept [] w1 w' ∧ e = .returned (.tuple #[.int .i64 0, .int .i64 0])) := by
    intro S w1 u1 u2 h1 h2
    have := cmp_good h1 h2 fa fa
    rw [cmpL_self] at this
    exact this
  clear fa fb fc hF hX
  obtain ⟨aa, capa, rfl, -⟩ := ha
  generalize ra.len = La at *
  obtain ⟨ab, capb, rfl, -⟩ := hb
  generalize rb.len = Lb at *
  obtain ⟨ac, capc, rfl, -⟩ := hc
  generalize rc.len = Lc at *
  clear ca cb cc
  go_enter Try.func6, Try.ntmps6
  go_wp2_with (first
    | (go_at_call 8; refine (unhide HBa).mono ?_; rintro e w' ⟨rfl, hq⟩; have hq' := hq.symm; subst hq'; clear HBa)
    | (go_at_call 8; refine (unhide HBb).mono ?_; rintro e w' ⟨rfl, hq⟩; have hq' := hq.symm; subst hq'; clear HBb)
    | (go_at_call 8; refine (unhide HBc).mono ?_; rintro e w' ⟨rfl, hq⟩; have hq' := hq.symm; subst hq'; clear HBc)
    | (go_at_call 9; refine (unhide HAW).mono ?_; rintro e w1 ⟨rfl, hk⟩; have HK1 := hide (hk); have HN1 := hide (unhide HVa _ (unhide HK1)); clear hk HAW)
    | (go_at_call 11; refine (unhide HN1).mono ?_; rintro e w2 ⟨⟨q1, z1, rfl, hrv⟩, hk⟩; have HK2 := hide ((unhide HK1).trans hk (by simp)); have HR1_2 := hide hrv.any; have HN2 := hide (unhide HVb _ (unhide HK2)); clear hrv hk HN1 )
    | (go_at_call 11; refine (unhide HN2).mono ?_; rintro e w3 ⟨⟨q2, z2, rfl, hrv⟩, hk⟩; have HK3 := hide ((unhide HK2).trans hk (by simp)); have HR1_3 := hide ((unhide HR1_2).kept hk (by simp)); have HR2_3 := hide hrv.any; have HN3 := hide (unhide HM1 _ _ _ _ (unhide HR1_3) (unhide HR2_3)); clear hrv hk HN2 HR1_2)
    | (go_at_call 16; refine (unhide HN3).mono ?_; rintro e w4 ⟨hk, rfl⟩; have HK4 := hide ((unhide HK3).trans hk (by simp)); have HN4 := hide (unhide HVb _ (unhide HK4)); clear hk HN3 HR1_3 HR2_3)
    | (go_at_call 11; refine (unhide HN4).mono ?_; rintro e w5 ⟨⟨q4, z4, rfl, hrv⟩, hk⟩; have HK5 := hide ((unhide HK4).trans hk (by simp)); have HR4_5 := hide hrv.any; have HN5 := hide (unhide HVa _ (unhide HK5)); clear hrv hk HN4 )
    | (go_at_call 11; refine (unhide HN5).mono ?_; rintro e w6 ⟨⟨q5, z5, rfl, hrv⟩, hk⟩; have HK6 := hide ((unhide HK5).trans hk (by simp)); have HR4_6 := hide ((unhide HR4_5).kept hk (by simp)); have HR5_6 := hide hrv.any; have HN6 := hide (unhide HM2 _ _ _ _ (unhide HR4_6) (unhide HR5_6)); clear hrv hk HN5 HR4_5)
    | (go_at_call 16; refine (unhide HN6).mono ?_; rintro e w7 ⟨hk, rfl⟩; have HK7 := hide ((unhide HK6).trans hk (by simp)); have HN7 := hide (unhide HVb _ (unhide HK7)); clear hk HN6 HR4_6 HR5_6)
    | (go_at_call 11; refine (unhide HN7).mono ?_; rintro e w8 ⟨⟨q7, z7, rfl, hrv⟩, hk⟩; have HK8 := hide ((unhide HK7).trans hk (by simp)); have HR7_8 := hide hrv.any; have HN8 := hide (unhide HVc _ (unhide HK8)); clear hrv hk HN7 )
    | (go_at_call 11; refine (unhide HN8).mono ?_; rintro e w9 ⟨⟨q8, z8, rfl, hrv⟩, hk⟩; have HK9 := hide ((unhide HK8).trans hk (by simp)); have HR7_9 := hide ((unhide HR7_8).kept hk (by simp)); have HR8_9 := hide hrv.any; have HN9 := hide (unhide HM3 _ _ _ _ (unhide HR7_9) (unhide HR8_9)); clear hrv hk HN8 HR7_8)
    | (go_at_call 16; refine (unhide HN9).mono ?_; rintro e w10 ⟨hk, rfl⟩; have HK10 := hide ((unhide HK9).trans hk (by simp)); have HN10 := hide (unhide HVa _ (unhide HK10)); clear hk HN9 HR7_9 HR8_9)
    | (go_at_call 11; refine (unhide HN10).mono ?_; rintro e w11 ⟨⟨q10, z10, rfl, hrv⟩, hk⟩; have HK11 := hide ((unhide HK10).trans hk (by simp)); have HR10_11 := hide hrv.any; have HN11 := hide (unhide HVc _ (unhide HK11)); clear hrv hk HN10 )
    | (go_at_call 11; refine (unhide HN11).mono ?_; rintro e w12 ⟨⟨q11, z11, rfl, hrv⟩, hk⟩; have HK12 := hide ((unhide HK11).trans hk (by simp)); have HR10_12 := hide ((unhide HR10_11).kept hk (by simp)); have HR11_12 := hide hrv.any; have HN12 := hide (unhide HM4 _ _ _ _ (unhide HR10_12) (unhide HR11_12)); clear hrv hk HN11 HR10_11)
    | (go_at_call 16; refine (unhide HN12).mono ?_; rintro e w13 ⟨hk, rfl⟩; have HK13 := hide ((unhide HK12).trans hk (by simp)); have HN13 := hide (unhide HVa _ (unhide HK13)); clear hk HN12 HR10_12 HR11_12)
    | (go_at_call 11; refine (unhide HN13).mono ?_; rintro e w14 ⟨⟨q13, z13, rfl, hrv⟩, hk⟩; have HK14 := hide ((unhide HK13).trans hk (by simp)); have HR13_14 := hide hrv.any; have HN14 := hide (unhide HVa _ (unhide HK14)); clear hrv hk HN13 )
    | (go_at_call 11; refine (unhide HN14).mono ?_; rintro e w15 ⟨⟨q14, z14, rfl, hrv⟩, hk⟩; have HK15 := hide ((unhide HK14).trans hk (by simp)); have HR13_15 := hide ((unhide HR13_14).kept hk (by simp)); have HR14_15 := hide hrv.any; have HN15 := hide (unhide HM5 _ _ _ _ (unhide HR13_15) (unhide HR14_15)); clear hrv hk HN14 HR13_14)
    | (go_at_call 16; refine (unhide HN15).mono ?_; rintro e w16 ⟨hk, rfl⟩; have HK16 := hide ((unhide HK15).trans hk (by simp)); clear hk HN15 HR13_15 HR14_15))
  go_ret
  exact ⟨rfl, unhide HK16⟩

set_option maxRecDepth 100000 in
set_option maxHeartbeats 400000 in
theorem order_e0 {w : World} {va : Value} {ra : Row} {vb : Value} {rb : Row} {vc : Value} {rc : Row} (ha : RowP w va ra) (hb : RowP w vb rb) (hc : RowP w vc rc) (ca : ¬ cnt ra ≤ 131072) :
    Calls Try.prog 6 #[va, vb, vc] w fun e w' => e = .returned (.bool true) ∧ Kept [] w w' := by
  have HBa := hide (beyond_any ha)
  rw [show decide (131072 < cnt ra) = true by simp; omega] at HBa
  obtain ⟨aa, capa, rfl, -⟩ := ha
  generalize ra.len = La at *
  obtain ⟨ab, capb, rfl, -⟩ := hb
  generalize rb.len = Lb at *
  obtain ⟨ac, capc, rfl, -⟩ := hc
  generalize rc.len = Lc at *
  go_enter Try.func6, Try.ntmps6
  go_wp2_with (first
    | (go_at_call 8; refine (unhide HBa).mono ?_; rintro e w' ⟨rfl, hq⟩; have hq' := hq.symm; subst hq'; clear HBa))
  go_ret
  exact ⟨rfl, Kept.refl _ _⟩

set_option maxRecDepth 100000 in
set_option maxHeartbeats 400000 in
theorem order_e1 {w : World} {va : Value} {ra : Row} {vb : Value} {rb : Row} {vc : Value} {rc : Row} (ha : RowP w va ra) (hb : RowP w vb rb) (hc : RowP w vc rc) (ca : cnt ra ≤ 131072) (cb : ¬ cnt rb ≤ 131072) :
    Calls Try.prog 6 #[va, vb, vc] w fun e w' => e = .returned (.bool true) ∧ Kept [] w w' := by
  have HBa := hide (beyond_any ha)
  rw [show decide (131072 < cnt ra) = false by simp; omega] at HBa
  have HBb := hide (beyond_any hb)
  rw [show decide (131072 < cnt rb) = true by simp; omega] at HBb
  obtain ⟨aa, capa, rfl, -⟩ := ha
  generalize ra.len = La at *
  obtain ⟨ab, capb, rfl, -⟩ := hb
  generalize rb.len = Lb at *
  obtain ⟨ac, capc, rfl, -⟩ := hc
  generalize rc.len = Lc at *
  go_enter Try.func6, Try.ntmps6
  go_wp2_with (first
    | (go_at_call 8; refine (unhide HBa).mono ?_; rintro e w' ⟨rfl, hq⟩; have hq' := hq.symm; subst hq'; clear HBa)
    | (go_at_call 8; refine (unhide HBb).mono ?_; rintro e w' ⟨rfl, hq⟩; have hq' := hq.symm; subst hq'; clear HBb))
  go_ret
  exact ⟨rfl, Kept.refl _ _⟩

set_option maxRecDepth 100000 in
set_option maxHeartbeats 400000 in
theorem order_e2 {w : World} {va : Value} {ra : Row} {vb : Value} {rb : Row} {vc : Value} {rc : Row} (ha : RowP w va ra) (hb : RowP w vb rb) (hc : RowP w vc rc) (ca : cnt ra ≤ 131072) (cb : cnt rb ≤ 131072) (cc : ¬ cnt rc ≤ 131072) :
    Calls Try.prog 6 #[va, vb, vc] w fun e w' => e = .returned (.bool true) ∧ Kept [] w w' := by
  have HBa := hide (beyond_any ha)
  rw [show decide (131072 < cnt ra) = false by simp; omega] at HBa
  have HBb := hide (beyond_any hb)
  rw [show decide (131072 < cnt rb) = false by simp; omega] at HBb
  have HBc := hide (beyond_any hc)
  rw [show decide (131072 < cnt rc) = true by simp; omega] at HBc
  obtain ⟨aa, capa, rfl, -⟩ := ha
  generalize ra.len = La at *
  obtain ⟨ab, capb, rfl, -⟩ := hb
  generalize rb.len = Lb at *
  obtain ⟨ac, capc, rfl, -⟩ := hc
  generalize rc.len = Lc at *
  go_enter Try.func6, Try.ntmps6
  go_wp2_with (first
    | (go_at_call 8; refine (unhide HBa).mono ?_; rintro e w' ⟨rfl, hq⟩; have hq' := hq.symm; subst hq'; clear HBa)
    | (go_at_call 8; refine (unhide HBb).mono ?_; rintro e w' ⟨rfl, hq⟩; have hq' := hq.symm; subst hq'; clear HBb)
    | (go_at_call 8; refine (unhide HBc).mono ?_; rintro e w' ⟨rfl, hq⟩; have hq' := hq.symm; subst hq'; clear HBc))
  go_ret
  exact ⟨rfl, Kept.refl _ _⟩

theorem order_walk {w : World} {va vb vc : Value} {ra rb rc : Row} (ha : RowP w va ra) (hb : RowP w vb rb) (hc : RowP w vc rc) :
    Calls Try.prog 6 #[va, vb, vc] w fun e w' => e = .returned (.bool true) ∧ Kept [] w w' := by
  by_cases ca : cnt ra ≤ 131072
  · by_cases cb : cnt rb ≤ 131072
    · by_cases cc : cnt rc ≤ 131072
      · by_cases fa : faultR ra 0 = 0
        · by_cases fb : faultR rb 0 = 0
          · by_cases fc : faultR rc 0 = 0
            · exact order_A ha ca hb cb hc cc fa fb fc
            · exact order_D ha ca hb cb hc cc fa fb fc
          · exact order_C ha ca hb cb hc cc fa fb
        · exact order_B ha ca hb cb hc cc fa
      · exact order_e2 ha hb hc ca cb cc
    · exact order_e1 ha hb hc ca cb
  · exact order_e0 ha hb hc ca
end Go.Proofs.Ytigmofbammofbab
