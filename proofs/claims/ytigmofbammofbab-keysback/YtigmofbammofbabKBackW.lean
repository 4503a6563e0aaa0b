/- KeysBack: a good row's code is read back; a beginning of it is the code of none, or of a row that comes ahead. -/
import Derived.Test.YtigmofbammofbabKClean
import Derived.Test.YtigmofbammofbabKBackP
import Derived.Test.YtigmofbammofbabKAwake
import Derived.Test.YtigmofbammofbabKSortH
namespace Go.Proofs.Ytigmofbammofbab
open Go.RowKit

def dErr : Except Nat Row → Nat
  | .error e => e
  | .ok _ => 0
def dRow : Except Nat Row → Row
  | .error _ => .nil
  | .ok r => r
theorem decX {w : World} {v : Value} {bs : List Nat} (hs : Sees w v bs) (hl : bs.length ≤ 1099511627776) :
    Calls Try.prog 12 #[v] w fun e w' => (∃ a n c, e = .returned (.tuple #[.slice a n c, .int .i64 (dErr (decR bs) : Nat)]) ∧ n = (dRow (decR bs)).len ∧ RowV (New w.heap.size) w' (.slice a n c) (dRow (decR bs))) ∧ Kept [] w w' := by
  refine (decode_any hs hl).mono ?_
  rintro e w' ⟨ho, hk⟩
  refine ⟨?_, hk⟩
  cases hd : decR bs with
  | error n =>
    rw [hd] at ho
    exact ⟨none, 0, 0, ho, rfl, RowV.nil _ _⟩
  | ok r =>
    rw [hd] at ho
    obtain ⟨va, vn, vc, rfl, hn, hr⟩ := ho
    exact ⟨va, vn, vc, rfl, hn.symm, hr⟩
theorem encC {S : Nat → Prop} {w : World} {v : Value} {r : Row} {bs : List Nat} (hr : RowV S w v r) (hf : faultR r 0 = 0) (hb : codeR r = bs) (hl : bs.length ≤ 1099511627776) (h256 : ∀ x ∈ bs, x < 256) :
    Calls Try.prog 10 #[v] w fun e w' => Kept [] w w' ∧ ∃ a n cap, e = .returned (.tuple #[.slice a n cap, .int .i64 0]) ∧ n = bs.length ∧ Sees w' (.slice a n cap) bs := by
  subst hb
  refine (encode_any hr (by omega)).mono ?_
  rintro e w' ⟨hk, hh⟩
  refine ⟨hk, ?_⟩
  rcases hh with ⟨_, a, n, cap, rfl, hn, ho⟩ | ⟨hf', _⟩
  · subst hn
    exact ⟨a, _, cap, rfl, rfl, Sees.of_own ho h256⟩
  · exact absurd hf hf'
theorem Sees.take {w : World} {a : Option Addr} {L c : Nat} {bs : List Nat} (h : Sees w (.slice a L c) bs) {j : Nat} (hj : j ≤ L) : Sees w (.slice a j c) (bs.take j) := by
  obtain ⟨a', c', hv, h1, h2, h3, h4⟩ := h
  cases hv
  have hl : (bs.take j).length = j := by simp; omega
  refine ⟨a, c, by rw [hl], by rw [hl]; omega, h2, fun b hb => h3 b (List.mem_of_mem_take hb), ?_⟩
  rcases h4 with h4 | ⟨b, off, rfl, h5, h6⟩
  · exact Or.inl (by rw [h4]; simp)
  · refine Or.inr ⟨b, off, rfl, h5, fun i hi => ?_⟩
    rw [hl] at hi
    rw [h6 i (by omega)]
    simp [List.getD, hi]
theorem sees_cap {w : World} {a : Option Addr} {L c : Nat} {bs : List Nat} (h : Sees w (.slice a L c) bs) : L ≤ c ∧ c ≤ 9223372036854775807 := by
  obtain ⟨a', c', hv, h1, h2, _⟩ := h
  cases hv
  unfold maxLen at h2
  exact ⟨h1, by omega⟩
theorem code_nil {r : Row} (h : codeR r = []) : r = .nil := by
  cases r with
  | nil => rfl
  | cons h p r => rw [codeR_cons] at h; simp at h

set_option maxRecDepth 100000 in
set_option maxHeartbeats 2000000 in
theorem back_many {w : World} {v : Value} {r : Row} (hr : RowP w v r) (hc : 131072 < cnt r) (cut : Int) :
    Calls Try.prog 3 #[v, .int .i64 cut] w fun e w' => e = .returned (.bool true) ∧ Kept [] w w' := by
  have HBA := hide (beyond_any hr)
  rw [show decide (131072 < cnt r) = true by simp [hc]] at HBA
  obtain ⟨a, acap, rfl, -⟩ := hr
  generalize r.len = L at *
  go_enter Try.func3, Try.ntmps3
  go_wp2_with (first | (go_at_call 8; refine (unhide HBA).mono ?_; rintro e w' ⟨rfl, hq⟩; have hq' := hq.symm; subst hq'; clear HBA))
  go_ret
  exact ⟨rfl, Kept.refl _ _⟩

set_option maxRecDepth 100000 in
set_option maxHeartbeats 2000000 in
theorem back_bad {w : World} {v : Value} {r : Row} (hr : RowP w v r) (hc : cnt r ≤ 131072) (hf : faultR r 0 ≠ 0) (cut : Int) :
    Calls Try.prog 3 #[v, .int .i64 cut] w fun e w' => e = .returned (.bool true) ∧ Kept [] w w' := by
  have HBA := hide (beyond_any hr)
  rw [show decide (131072 < cnt r) = false by simp; omega] at HBA
  have HA := hide (awake_any w)
  have HVA := hide (fun (w1 : World) (hk : Kept [] w w1) => values_any r w1 v (hr.kept hk) hc)
  have HEN : Hid (∀ (W : World) (g : Value), RowV Any W g r → Calls Try.prog 10 #[g] W fun e w' => Kept [] W w' ∧ e = .returned (.tuple #[.slice none 0 0, .int .i64 (faultR r 0 : Nat)])) := by
    intro W g h
    refine (enc_val h hc).mono ?_
    rintro e w' ⟨hk, ⟨h0, _⟩ | ⟨_, h1⟩⟩
    · exact absurd h0 hf
    · exact ⟨hk, h1⟩
  have hcs := faultR_cases r 0
  obtain ⟨a, acap, rfl, -⟩ := hr
  generalize r.len = L at *
  generalize faultR r 0 = fp at *
  rcases hcs with hcs | hcs | hcs
  · exact absurd hcs hf
  all_goals
    subst hcs
    clear hf
    go_enter Try.func3, Try.ntmps3
    go_wp2_with (first | (go_at_call 8; refine (unhide HBA).mono ?_; rintro e w' ⟨rfl, hq⟩; have hq' := hq.symm; subst hq'; clear HBA) | (go_at_call 9; refine (unhide HA).mono ?_; rintro e w1 ⟨rfl, hk⟩; have HK1 := hide hk; have HV1 := hide (unhide HVA w1 hk); clear hk HA) | (go_at_call 11; refine (unhide HV1).mono ?_; rintro e w2 ⟨⟨va, vc, rfl, hrv⟩, hk⟩; have HK2 := hide ((unhide HK1).trans hk (by simp)); have HE2 := hide (unhide HEN w2 _ hrv.any); clear hrv hk HV1) | (go_at_call 10; refine (unhide HE2).mono ?_; rintro e w3 ⟨hk, rfl⟩; have HK3 := hide ((unhide HK2).trans hk (by simp)); clear hk HE2))
    go_ret
    exact ⟨rfl, unhide HK3⟩

set_option maxRecDepth 100000 in
set_option maxHeartbeats 4000000 in
theorem back_none {w : World} {v : Value} {r : Row} (hr : RowP w v r) (hc : cnt r ≤ 131072) (hf : faultR r 0 = 0) (cut : Int) (h0 : (codeR r).length = 0) :
    Calls Try.prog 3 #[v, .int .i64 cut] w fun e w' => e = .returned (.bool true) ∧ Kept [] w w' := by
  have hr0 : r.len = 0 := by rw [code_nil (List.eq_nil_of_length_eq_zero h0)]; rfl
  have HBA := hide (beyond_any hr)
  rw [show decide (131072 < cnt r) = false by simp; omega] at HBA
  have HA := hide (awake_any w)
  have HVA := hide (fun (w1 : World) (hk : Kept [] w w1) => values_any r w1 v (hr.kept hk) hc)
  have hok := hr.okR
  have hcc := code_cnt r
  have hdec := dec_code hok hf
  have hsound := decR_sound hdec (code_lt hok (fine_of_fault hf))
  have H256 := hide (code_lt hok (fine_of_fault hf))
  have HEN : Hid (∀ (W : World) (g : Value), RowV Any W g r → _) := fun W g h => encC h hf rfl (by omega) (unhide H256)
  have HEC : Hid (∀ (W : World) (g : Value), RowV Any W g (cleanR r) → _) := fun W g h => encC h hsound.2 hsound.1 (by omega) (unhide H256)
  have HDX : Hid (∀ (W : World) (g : Value), Sees W g (codeR r) → _) := fun W g h => decX h (by omega)
  rw [hdec] at HDX
  have HCLN := hide (fun (W : World) (hk : Kept [] w W) => clean_any r W v (hr.kept hk) (by omega))
  have htl := told_clean r hr.reR
  have HTD := hide (fun (W : World) (gv xv : Value) (h1 : RowV Any W gv (cleanR r)) (h2 : RowP W xv (cleanPR r)) => told_any (cleanR r) (cleanPR r) Any W gv xv h1 h2 htl)
  simp only [dErr, dRow] at HDX
  obtain ⟨a, acap, rfl, -⟩ := hr
  generalize hL : r.len = L at *
  have HL := hide hL
  clear hL
  generalize hPL : (codeR r).length = PL at *
  have HPL := hide hPL
  clear hPL hdec hsound htl hok
  subst h0 hr0
  go_enter Try.func3, Try.ntmps3
  go_wp2_with (first | (go_at_call 8; refine (unhide HBA).mono ?_; rintro e w' ⟨rfl, hq⟩; have hq' := hq.symm; subst hq'; clear HBA) | (go_at_call 9; refine (unhide HA).mono ?_; rintro e w1 ⟨rfl, hk⟩; have HK1 := hide hk; have HV1 := hide (unhide HVA w1 hk); clear hk HA) | (go_at_call 11; refine (unhide HV1).mono ?_; rintro e w2 ⟨⟨va, vc, rfl, hrv⟩, hk⟩; have HK2 := hide ((unhide HK1).trans hk (by simp)); have HE2 := hide (unhide HEN w2 _ hrv.any); clear hrv hk HV1) | (go_at_call 10; refine (unhide HE2).mono ?_; rintro e w3 ⟨hk, ea, en, ec, rfl, hen, hsn⟩; have HK3 := hide ((unhide HK2).trans hk (by simp)); have hen2 := hen.symm; subst hen2; clear hen; have HS3 := hide hsn; have HD3 := hide (unhide HDX w3 _ hsn); clear hk hsn HE2) | (go_at_call 12; refine (unhide HD3).mono ?_; rintro e w4 ⟨⟨ga, gn, gc, rfl, hgn, hgr⟩, hk⟩; have HK4 := hide ((unhide HK3).trans hk (by simp)); have HS4 := hide ((unhide HS3).kept hk (Or.inr (by simp))); have HG4 := hide hgr.any; have HC4 := hide (unhide HCLN w4 (unhide HK4)); clear hk hgr hgn HD3) | (go_at_call 14; refine (unhide HC4).mono ?_; rintro e w5 ⟨⟨ca, cn, cc, rfl, hps⟩, hk⟩; have HK5 := hide ((unhide HK4).trans hk (by simp)); have HS5 := hide ((unhide HS4).kept hk (Or.inr (by simp))); have HG5 := hide ((unhide HG4).kept hk (by simp)); have HT5 := hide (unhide HTD w5 _ _ (unhide HG5) hps.plain); clear hk hps HC4) | (go_at_call 13; refine (unhide HT5).mono ?_; rintro e w6 ⟨rfl, hk⟩; have HK6 := hide ((unhide HK5).trans hk (by simp)); have HS6 := hide ((unhide HS5).kept hk (Or.inr (by simp))); have HG6 := hide ((unhide HG5).kept hk (by simp)); have HE6 := hide (unhide HEC w6 _ (unhide HG6)); clear hk HT5) | (go_at_call 10; refine (unhide HE6).mono ?_; rintro e w7 ⟨hk, qa, qn, qc, rfl, hqn, hsq⟩; have HK7 := hide ((unhide HK6).trans hk (by simp)); have HS7 := hide ((unhide HS6).kept hk (Or.inr (by simp))); have HG7 := hide ((unhide HG6).kept hk (by simp)); have HSM := hide (same_yes (unhide HS7) hsq); clear hk hsq hqn HE6) | (go_at_call 15; refine (unhide HSM).mono ?_; rintro e w8 ⟨rfl, hk⟩; have HK8 := hide ((unhide HK7).trans hk (by simp)); have HS8 := hide ((unhide HS7).kept hk (Or.inr (by simp))); have HG8 := hide ((unhide HG7).kept hk (by simp)); clear hk HSM))
  go_ret
  exact ⟨rfl, unhide HK8⟩

set_option maxRecDepth 100000 in
set_option maxHeartbeats 4000000 in
theorem back_e0 {w : World} {v : Value} {r : Row} (hr : RowP w v r) (hc : cnt r ≤ 131072) (hf : faultR r 0 = 0) (cut : Int) (m : Nat) (hmb : m ≤ 9223372036854775807) (hcm : cut = (m : Int)) (hp0 : 0 < (codeR r).length) (hOk : ∀ j, m % (codeR r).length = j → ∀ s, decR ((codeR r).take j) = .ok s → s.len ≤ r.len → cmpL ((codeR r).take j) (codeR r) = -1 → Calls Try.prog 3 #[v, .int .i64 cut] w fun e w' => e = .returned (.bool true) ∧ Kept [] w w') :
    Calls Try.prog 3 #[v, .int .i64 cut] w fun e w' => e = .returned (.bool true) ∧ Kept [] w w' := by
  subst hcm
  have t0 : ((m : Int) < 0) = False := by simp
  have HBA := hide (beyond_any hr)
  rw [show decide (131072 < cnt r) = false by simp; omega] at HBA
  have HA := hide (awake_any w)
  have HVA := hide (fun (w1 : World) (hk : Kept [] w w1) => values_any r w1 v (hr.kept hk) hc)
  have hok := hr.okR
  have hcc := code_cnt r
  have hdec := dec_code hok hf
  have hsound := decR_sound hdec (code_lt hok (fine_of_fault hf))
  have H256 := hide (code_lt hok (fine_of_fault hf))
  have HEN : Hid (∀ (W : World) (g : Value), RowV Any W g r → _) := fun W g h => encC h hf rfl (by omega) (unhide H256)
  have HEC : Hid (∀ (W : World) (g : Value), RowV Any W g (cleanR r) → _) := fun W g h => encC h hsound.2 hsound.1 (by omega) (unhide H256)
  have HDX : Hid (∀ (W : World) (g : Value), Sees W g (codeR r) → _) := fun W g h => decX h (by omega)
  rw [hdec] at HDX
  have HCLN := hide (fun (W : World) (hk : Kept [] w W) => clean_any r W v (hr.kept hk) (by omega))
  have htl := told_clean r hr.reR
  have HTD := hide (fun (W : World) (gv xv : Value) (h1 : RowV Any W gv (cleanR r)) (h2 : RowP W xv (cleanPR r)) => told_any (cleanR r) (cleanPR r) Any W gv xv h1 h2 htl)
  simp only [dErr, dRow] at HDX
  have hj1 : m % (codeR r).length < (codeR r).length := Nat.mod_lt _ hp0
  generalize hj0 : m % (codeR r).length = j at *
  have hbc := begin_code hok hf hj1
  have hhl : ((codeR r).take j).length ≤ 1099511627776 := by simp; omega
  have HDH : Hid (∀ (W : World) (g : Value), Sees W g ((codeR r).take j) → _) := fun W g h => decX h hhl
  rcases hbc with hbe | ⟨s, hbs, hsl, hcm⟩
  case inr => exact hOk j rfl s hbs hsl hcm
  rw [hbe] at HDH
  simp only [dErr, dRow, Row.len] at HDH
  have HJ1 := hide hj1
  clear hbe hhl
  obtain ⟨a, acap, rfl, -⟩ := hr
  generalize hL : r.len = L at *
  have HL := hide hL
  clear hL
  generalize hPL : (codeR r).length = PL at *
  have HPL := hide hPL
  clear hPL hdec hsound htl hok hj1
  have e3 : (m : Int) % (PL : Int) = (j : Int) := by rw [← hj0]; push_cast; rfl
  have e4 : (m : Int).tmod (PL : Int) = (j : Int) := by rw [Int.tmod_eq_emod_of_nonneg (by omega)]; exact e3
  have u1 : ((PL : Int) == 0) = false := by simp; omega
  have u2 : ((PL : Int) = 0) = False := by simp; omega
  have u2' : (PL = 0) = False := by simp; omega
  have u3 : 0 < PL := hp0
  have u4 : (0 : Int) < (PL : Int) := by omega
  have u5 : IntKind.i64.wrap (j : Int) = (j : Int) := by have := unhide HJ1; rw [IntKind.wrap_i64]; omega
  clear hj0
  go_enter Try.func3, Try.ntmps3
  go_wp2_with (first | (go_at_call 8; refine (unhide HBA).mono ?_; rintro e w' ⟨rfl, hq⟩; have hq' := hq.symm; subst hq'; clear HBA) | (go_at_call 9; refine (unhide HA).mono ?_; rintro e w1 ⟨rfl, hk⟩; have HK1 := hide hk; have HV1 := hide (unhide HVA w1 hk); clear hk HA) | (go_at_call 11; refine (unhide HV1).mono ?_; rintro e w2 ⟨⟨va, vc, rfl, hrv⟩, hk⟩; have HK2 := hide ((unhide HK1).trans hk (by simp)); have HE2 := hide (unhide HEN w2 _ hrv.any); clear hrv hk HV1) | (go_at_call 10; refine (unhide HE2).mono ?_; rintro e w3 ⟨hk, ea, en, ec, rfl, hen, hsn⟩; have HK3 := hide ((unhide HK2).trans hk (by simp)); have hen2 := hen.symm; subst hen2; clear hen; have HS3 := hide hsn; have HD3 := hide (unhide HDX w3 _ hsn); clear hk hsn HE2) | (go_at_call 12; refine (unhide HD3).mono ?_; rintro e w4 ⟨⟨ga, gn, gc, rfl, hgn, hgr⟩, hk⟩; have HK4 := hide ((unhide HK3).trans hk (by simp)); have HS4 := hide ((unhide HS3).kept hk (Or.inr (by simp))); have HG4 := hide hgr.any; have HC4 := hide (unhide HCLN w4 (unhide HK4)); clear hk hgr hgn HD3) | (go_at_call 14; refine (unhide HC4).mono ?_; rintro e w5 ⟨⟨ca, cn, cc, rfl, hps⟩, hk⟩; have HK5 := hide ((unhide HK4).trans hk (by simp)); have HS5 := hide ((unhide HS4).kept hk (Or.inr (by simp))); have HG5 := hide ((unhide HG4).kept hk (by simp)); have HT5 := hide (unhide HTD w5 _ _ (unhide HG5) hps.plain); clear hk hps HC4) | (go_at_call 13; refine (unhide HT5).mono ?_; rintro e w6 ⟨rfl, hk⟩; have HK6 := hide ((unhide HK5).trans hk (by simp)); have HS6 := hide ((unhide HS5).kept hk (Or.inr (by simp))); have HG6 := hide ((unhide HG5).kept hk (by simp)); have HE6 := hide (unhide HEC w6 _ (unhide HG6)); clear hk HT5) | (go_at_call 10; refine (unhide HE6).mono ?_; rintro e w7 ⟨hk, qa, qn, qc, rfl, hqn, hsq⟩; have HK7 := hide ((unhide HK6).trans hk (by simp)); have HS7 := hide ((unhide HS6).kept hk (Or.inr (by simp))); have HG7 := hide ((unhide HG6).kept hk (by simp)); have HSM := hide (same_yes (unhide HS7) hsq); clear hk hsq hqn HE6) | (go_at_call 15; refine (unhide HSM).mono ?_; rintro e w8 ⟨rfl, hk⟩; have HK8 := hide ((unhide HK7).trans hk (by simp)); have HS8 := hide ((unhide HS7).kept hk (Or.inr (by simp))); have HG8 := hide ((unhide HG7).kept hk (by simp)); have HDD := hide (unhide HDH w8 _ ((unhide HS8).take (Nat.le_of_lt (unhide HJ1)))); obtain ⟨q1, q2⟩ := sees_cap (unhide HS8); have v1 : j ≤ ec := Nat.le_trans (Nat.le_of_lt (unhide HJ1)) q1; have v2 : (j : Int) ≤ (ec : Int) := (by omega); clear q1; clear hk HSM) | (go_at_call 12; refine (unhide HDD).mono ?_; rintro e w9 ⟨⟨sa, sn, sc, rfl, hsn, hsr⟩, hk⟩; subst hsn; have HK9 := hide ((unhide HK8).trans hk (by simp)); clear hk hsr HDD))
  go_ret
  exact ⟨rfl, unhide HK9⟩

set_option maxRecDepth 100000 in
set_option maxHeartbeats 4000000 in
theorem back_o0 {w : World} {v : Value} {r : Row} (hr : RowP w v r) (hc : cnt r ≤ 131072) (hf : faultR r 0 = 0) (cut : Int) (m : Nat) (hmb : m ≤ 9223372036854775807) (hcm : cut = (m : Int)) (hp0 : 0 < (codeR r).length) (j : Nat) (hj0 : m % (codeR r).length = j) (s : Row) (hbs : decR ((codeR r).take j) = .ok s) (hsl : s.len ≤ r.len) (hcm0 : cmpL ((codeR r).take j) (codeR r) = -1) :
    Calls Try.prog 3 #[v, .int .i64 cut] w fun e w' => e = .returned (.bool true) ∧ Kept [] w w' := by
  subst hcm
  have t0 : ((m : Int) < 0) = False := by simp
  have HBA := hide (beyond_any hr)
  rw [show decide (131072 < cnt r) = false by simp; omega] at HBA
  have HA := hide (awake_any w)
  have HVA := hide (fun (w1 : World) (hk : Kept [] w w1) => values_any r w1 v (hr.kept hk) hc)
  have hok := hr.okR
  have hcc := code_cnt r
  have hdec := dec_code hok hf
  have hsound := decR_sound hdec (code_lt hok (fine_of_fault hf))
  have H256 := hide (code_lt hok (fine_of_fault hf))
  have HEN : Hid (∀ (W : World) (g : Value), RowV Any W g r → _) := fun W g h => encC h hf rfl (by omega) (unhide H256)
  have HEC : Hid (∀ (W : World) (g : Value), RowV Any W g (cleanR r) → _) := fun W g h => encC h hsound.2 hsound.1 (by omega) (unhide H256)
  have HDX : Hid (∀ (W : World) (g : Value), Sees W g (codeR r) → _) := fun W g h => decX h (by omega)
  rw [hdec] at HDX
  have HCLN := hide (fun (W : World) (hk : Kept [] w W) => clean_any r W v (hr.kept hk) (by omega))
  have htl := told_clean r hr.reR
  have HTD := hide (fun (W : World) (gv xv : Value) (h1 : RowV Any W gv (cleanR r)) (h2 : RowP W xv (cleanPR r)) => told_any (cleanR r) (cleanPR r) Any W gv xv h1 h2 htl)
  simp only [dErr, dRow] at HDX
  have hj1 : j < (codeR r).length := by rw [← hj0]; exact Nat.mod_lt _ hp0
  have hhl : ((codeR r).take j).length ≤ 1099511627776 := by simp; omega
  have HDH : Hid (∀ (W : World) (g : Value), Sees W g ((codeR r).take j) → _) := fun W g h => decX h hhl
  rw [hbs] at HDH
  simp only [dErr, dRow] at HDH
  have h256h : ∀ x ∈ (codeR r).take j, x < 256 := fun x hx => unhide H256 x (List.mem_of_mem_take hx)
  have hss := decR_sound hbs h256h
  have HES : Hid (∀ (W : World) (g : Value), RowV Any W g s → _) := fun W g h => encC h hss.2 hss.1 hhl h256h
  have HCP : Hid (∀ (W : World) (g u : Value), RowV Any W g s → RowV Any W u (cleanR r) → Calls Try.prog 16 #[g, u] W fun e w' => Kept [] W w' ∧ e = .returned (.tuple #[.int .i64 (-1), .int .i64 0])) := by
    intro W g u h1 h2
    have h := compare_any h1 h2
    rw [hss.2, hsound.2, sort_code (fine_of_fault hss.2) (fine_of_fault hsound.2) h1.ok h2.ok, hss.1, hsound.1, hcm0] at h
    simpa using h
  have HSMH : Hid (∀ (W : World) (g u : Value), Sees W g ((codeR r).take j) → Sees W u ((codeR r).take j) → _) := fun W g u h1 h2 => same_yes h1 h2
  have HJ1 := hide hj1
  have HHD : Hid (((codeR r).take j).length = j) := by unfold Hid; simp; omega
  clear hbs hhl h256h hss hcm0
  obtain ⟨a, acap, rfl, -⟩ := hr
  generalize hL : r.len = L at *
  have HL := hide hL
  clear hL
  generalize hPL : (codeR r).length = PL at *
  have HPL := hide hPL
  clear hPL hdec hsound htl hok hj1
  generalize hSL : s.len = SL at *
  clear hSL
  have e3 : (m : Int) % (PL : Int) = (j : Int) := by rw [← hj0]; push_cast; rfl
  have e4 : (m : Int).tmod (PL : Int) = (j : Int) := by rw [Int.tmod_eq_emod_of_nonneg (by omega)]; exact e3
  have u1 : ((PL : Int) == 0) = false := by simp; omega
  have u2 : ((PL : Int) = 0) = False := by simp; omega
  have u2' : (PL = 0) = False := by simp; omega
  have u3 : 0 < PL := hp0
  have u4 : (0 : Int) < (PL : Int) := by omega
  have u5 : IntKind.i64.wrap (j : Int) = (j : Int) := by have := unhide HJ1; rw [IntKind.wrap_i64]; omega
  clear hj0
  have u9 : ((SL : Int) ≤ (L : Int)) = True := by simp; omega
  have u9' : SL ≤ L := hsl
  go_enter Try.func3, Try.ntmps3
  go_wp2_with (first | (go_at_call 8; refine (unhide HBA).mono ?_; rintro e w' ⟨rfl, hq⟩; have hq' := hq.symm; subst hq'; clear HBA) | (go_at_call 9; refine (unhide HA).mono ?_; rintro e w1 ⟨rfl, hk⟩; have HK1 := hide hk; have HV1 := hide (unhide HVA w1 hk); clear hk HA) | (go_at_call 11; refine (unhide HV1).mono ?_; rintro e w2 ⟨⟨va, vc, rfl, hrv⟩, hk⟩; have HK2 := hide ((unhide HK1).trans hk (by simp)); have HE2 := hide (unhide HEN w2 _ hrv.any); clear hrv hk HV1) | (go_at_call 10; refine (unhide HE2).mono ?_; rintro e w3 ⟨hk, ea, en, ec, rfl, hen, hsn⟩; have HK3 := hide ((unhide HK2).trans hk (by simp)); have hen2 := hen.symm; subst hen2; clear hen; have HS3 := hide hsn; have HD3 := hide (unhide HDX w3 _ hsn); clear hk hsn HE2) | (go_at_call 12; refine (unhide HD3).mono ?_; rintro e w4 ⟨⟨ga, gn, gc, rfl, hgn, hgr⟩, hk⟩; have HK4 := hide ((unhide HK3).trans hk (by simp)); have HS4 := hide ((unhide HS3).kept hk (Or.inr (by simp))); have HG4 := hide hgr.any; have HC4 := hide (unhide HCLN w4 (unhide HK4)); clear hk hgr hgn HD3) | (go_at_call 14; refine (unhide HC4).mono ?_; rintro e w5 ⟨⟨ca, cn, cc, rfl, hps⟩, hk⟩; have HK5 := hide ((unhide HK4).trans hk (by simp)); have HS5 := hide ((unhide HS4).kept hk (Or.inr (by simp))); have HG5 := hide ((unhide HG4).kept hk (by simp)); have HT5 := hide (unhide HTD w5 _ _ (unhide HG5) hps.plain); clear hk hps HC4) | (go_at_call 13; refine (unhide HT5).mono ?_; rintro e w6 ⟨rfl, hk⟩; have HK6 := hide ((unhide HK5).trans hk (by simp)); have HS6 := hide ((unhide HS5).kept hk (Or.inr (by simp))); have HG6 := hide ((unhide HG5).kept hk (by simp)); have HE6 := hide (unhide HEC w6 _ (unhide HG6)); clear hk HT5) | (go_at_call 10; refine (unhide HE6).mono ?_; rintro e w7 ⟨hk, qa, qn, qc, rfl, hqn, hsq⟩; have HK7 := hide ((unhide HK6).trans hk (by simp)); have HS7 := hide ((unhide HS6).kept hk (Or.inr (by simp))); have HG7 := hide ((unhide HG6).kept hk (by simp)); have HSM := hide (same_yes (unhide HS7) hsq); clear hk hsq hqn HE6) | (go_at_call 15; refine (unhide HSM).mono ?_; rintro e w8 ⟨rfl, hk⟩; have HK8 := hide ((unhide HK7).trans hk (by simp)); have HS8 := hide ((unhide HS7).kept hk (Or.inr (by simp))); have HG8 := hide ((unhide HG7).kept hk (by simp)); have HDD := hide (unhide HDH w8 _ ((unhide HS8).take (Nat.le_of_lt (unhide HJ1)))); obtain ⟨q1, q2⟩ := sees_cap (unhide HS8); have v1 : j ≤ ec := Nat.le_trans (Nat.le_of_lt (unhide HJ1)) q1; have v2 : (j : Int) ≤ (ec : Int) := (by omega); clear q1; clear hk HSM) | (go_at_call 12; refine (unhide HDD).mono ?_; rintro e w9 ⟨⟨sa, sn, sc, rfl, hsn, hsr⟩, hk⟩; subst hsn; have HK9 := hide ((unhide HK8).trans hk (by simp)); have HS9 := hide (((unhide HS8).take (Nat.le_of_lt (unhide HJ1))).kept hk (Or.inr (by simp))); have HG9 := hide ((unhide HG8).kept hk (by simp)); have HR9 := hide hsr.any; have HE9 := hide (unhide HES w9 _ hsr.any); clear hk hsr HDD) | (go_at_call 10; refine (unhide HE9).mono ?_; rintro e w10 ⟨hk, ta, tn, tc, rfl, htn, hst⟩; have HK10 := hide ((unhide HK9).trans hk (by simp)); have HS10 := hide ((unhide HS9).kept hk (Or.inr (by simp))); have HT10 := hide hst; have HC10 := hide (unhide HCP w10 _ _ ((unhide HR9).kept hk (by simp)) ((unhide HG9).kept hk (by simp))); clear hk hst htn HE9) | (go_at_call 16; refine (unhide HC10).mono ?_; rintro e w11 ⟨hk, rfl⟩; have HK11 := hide ((unhide HK10).trans hk (by simp)); have HSM2 := hide (unhide HSMH w11 _ _ ((unhide HT10).kept hk (Or.inr (by simp))) ((unhide HS10).kept hk (Or.inr (by simp)))); clear hk HC10) | (go_at_call 15; refine (unhide HSM2).mono ?_; rintro e w12 ⟨rfl, hk⟩; have HK12 := hide ((unhide HK11).trans hk (by simp)); clear hk HSM2))
  go_ret
  exact ⟨rfl, unhide HK12⟩

set_option maxRecDepth 100000 in
set_option maxHeartbeats 4000000 in
theorem back_e1 {w : World} {v : Value} {r : Row} (hr : RowP w v r) (hc : cnt r ≤ 131072) (hf : faultR r 0 = 0) (cut : Int) (hcut : cut < 0) (hlo : -9223372036854775808 ≤ cut) (m : Nat) (hm : -(cut + 1) = (m : Int)) (hp0 : 0 < (codeR r).length) (hOk : ∀ j, m % (codeR r).length = j → ∀ s, decR ((codeR r).take j) = .ok s → s.len ≤ r.len → cmpL ((codeR r).take j) (codeR r) = -1 → Calls Try.prog 3 #[v, .int .i64 cut] w fun e w' => e = .returned (.bool true) ∧ Kept [] w w') :
    Calls Try.prog 3 #[v, .int .i64 cut] w fun e w' => e = .returned (.bool true) ∧ Kept [] w w' := by
  have w1' : IntKind.i64.wrap (cut + 1) = cut + 1 := by rw [IntKind.wrap_i64]; omega
  have w2' : IntKind.i64.wrap (-(cut + 1)) = (m : Int) := by rw [IntKind.wrap_i64]; omega
  have t0 : (cut < 0) = True := by simp; omega
  have hmb : m ≤ 9223372036854775807 := by omega
  clear hm hcut hlo
  have HBA := hide (beyond_any hr)
  rw [show decide (131072 < cnt r) = false by simp; omega] at HBA
  have HA := hide (awake_any w)
  have HVA := hide (fun (w1 : World) (hk : Kept [] w w1) => values_any r w1 v (hr.kept hk) hc)
  have hok := hr.okR
  have hcc := code_cnt r
  have hdec := dec_code hok hf
  have hsound := decR_sound hdec (code_lt hok (fine_of_fault hf))
  have H256 := hide (code_lt hok (fine_of_fault hf))
  have HEN : Hid (∀ (W : World) (g : Value), RowV Any W g r → _) := fun W g h => encC h hf rfl (by omega) (unhide H256)
  have HEC : Hid (∀ (W : World) (g : Value), RowV Any W g (cleanR r) → _) := fun W g h => encC h hsound.2 hsound.1 (by omega) (unhide H256)
  have HDX : Hid (∀ (W : World) (g : Value), Sees W g (codeR r) → _) := fun W g h => decX h (by omega)
  rw [hdec] at HDX
  have HCLN := hide (fun (W : World) (hk : Kept [] w W) => clean_any r W v (hr.kept hk) (by omega))
  have htl := told_clean r hr.reR
  have HTD := hide (fun (W : World) (gv xv : Value) (h1 : RowV Any W gv (cleanR r)) (h2 : RowP W xv (cleanPR r)) => told_any (cleanR r) (cleanPR r) Any W gv xv h1 h2 htl)
  simp only [dErr, dRow] at HDX
  have hj1 : m % (codeR r).length < (codeR r).length := Nat.mod_lt _ hp0
  generalize hj0 : m % (codeR r).length = j at *
  have hbc := begin_code hok hf hj1
  have hhl : ((codeR r).take j).length ≤ 1099511627776 := by simp; omega
  have HDH : Hid (∀ (W : World) (g : Value), Sees W g ((codeR r).take j) → _) := fun W g h => decX h hhl
  rcases hbc with hbe | ⟨s, hbs, hsl, hcm⟩
  case inr => exact hOk j rfl s hbs hsl hcm
  rw [hbe] at HDH
  simp only [dErr, dRow, Row.len] at HDH
  have HJ1 := hide hj1
  clear hbe hhl
  obtain ⟨a, acap, rfl, -⟩ := hr
  generalize hL : r.len = L at *
  have HL := hide hL
  clear hL
  generalize hPL : (codeR r).length = PL at *
  have HPL := hide hPL
  clear hPL hdec hsound htl hok hj1
  have e3 : (m : Int) % (PL : Int) = (j : Int) := by rw [← hj0]; push_cast; rfl
  have e4 : (m : Int).tmod (PL : Int) = (j : Int) := by rw [Int.tmod_eq_emod_of_nonneg (by omega)]; exact e3
  have u1 : ((PL : Int) == 0) = false := by simp; omega
  have u2 : ((PL : Int) = 0) = False := by simp; omega
  have u2' : (PL = 0) = False := by simp; omega
  have u3 : 0 < PL := hp0
  have u4 : (0 : Int) < (PL : Int) := by omega
  have u5 : IntKind.i64.wrap (j : Int) = (j : Int) := by have := unhide HJ1; rw [IntKind.wrap_i64]; omega
  clear hj0
  go_enter Try.func3, Try.ntmps3
  go_wp2_with (first | (go_at_call 8; refine (unhide HBA).mono ?_; rintro e w' ⟨rfl, hq⟩; have hq' := hq.symm; subst hq'; clear HBA) | (go_at_call 9; refine (unhide HA).mono ?_; rintro e w1 ⟨rfl, hk⟩; have HK1 := hide hk; have HV1 := hide (unhide HVA w1 hk); clear hk HA) | (go_at_call 11; refine (unhide HV1).mono ?_; rintro e w2 ⟨⟨va, vc, rfl, hrv⟩, hk⟩; have HK2 := hide ((unhide HK1).trans hk (by simp)); have HE2 := hide (unhide HEN w2 _ hrv.any); clear hrv hk HV1) | (go_at_call 10; refine (unhide HE2).mono ?_; rintro e w3 ⟨hk, ea, en, ec, rfl, hen, hsn⟩; have HK3 := hide ((unhide HK2).trans hk (by simp)); have hen2 := hen.symm; subst hen2; clear hen; have HS3 := hide hsn; have HD3 := hide (unhide HDX w3 _ hsn); clear hk hsn HE2) | (go_at_call 12; refine (unhide HD3).mono ?_; rintro e w4 ⟨⟨ga, gn, gc, rfl, hgn, hgr⟩, hk⟩; have HK4 := hide ((unhide HK3).trans hk (by simp)); have HS4 := hide ((unhide HS3).kept hk (Or.inr (by simp))); have HG4 := hide hgr.any; have HC4 := hide (unhide HCLN w4 (unhide HK4)); clear hk hgr hgn HD3) | (go_at_call 14; refine (unhide HC4).mono ?_; rintro e w5 ⟨⟨ca, cn, cc, rfl, hps⟩, hk⟩; have HK5 := hide ((unhide HK4).trans hk (by simp)); have HS5 := hide ((unhide HS4).kept hk (Or.inr (by simp))); have HG5 := hide ((unhide HG4).kept hk (by simp)); have HT5 := hide (unhide HTD w5 _ _ (unhide HG5) hps.plain); clear hk hps HC4) | (go_at_call 13; refine (unhide HT5).mono ?_; rintro e w6 ⟨rfl, hk⟩; have HK6 := hide ((unhide HK5).trans hk (by simp)); have HS6 := hide ((unhide HS5).kept hk (Or.inr (by simp))); have HG6 := hide ((unhide HG5).kept hk (by simp)); have HE6 := hide (unhide HEC w6 _ (unhide HG6)); clear hk HT5) | (go_at_call 10; refine (unhide HE6).mono ?_; rintro e w7 ⟨hk, qa, qn, qc, rfl, hqn, hsq⟩; have HK7 := hide ((unhide HK6).trans hk (by simp)); have HS7 := hide ((unhide HS6).kept hk (Or.inr (by simp))); have HG7 := hide ((unhide HG6).kept hk (by simp)); have HSM := hide (same_yes (unhide HS7) hsq); clear hk hsq hqn HE6) | (go_at_call 15; refine (unhide HSM).mono ?_; rintro e w8 ⟨rfl, hk⟩; have HK8 := hide ((unhide HK7).trans hk (by simp)); have HS8 := hide ((unhide HS7).kept hk (Or.inr (by simp))); have HG8 := hide ((unhide HG7).kept hk (by simp)); have HDD := hide (unhide HDH w8 _ ((unhide HS8).take (Nat.le_of_lt (unhide HJ1)))); obtain ⟨q1, q2⟩ := sees_cap (unhide HS8); have v1 : j ≤ ec := Nat.le_trans (Nat.le_of_lt (unhide HJ1)) q1; have v2 : (j : Int) ≤ (ec : Int) := (by omega); clear q1; clear hk HSM) | (go_at_call 12; refine (unhide HDD).mono ?_; rintro e w9 ⟨⟨sa, sn, sc, rfl, hsn, hsr⟩, hk⟩; subst hsn; have HK9 := hide ((unhide HK8).trans hk (by simp)); clear hk hsr HDD))
  go_ret
  exact ⟨rfl, unhide HK9⟩

set_option maxRecDepth 100000 in
set_option maxHeartbeats 4000000 in
theorem back_o1 {w : World} {v : Value} {r : Row} (hr : RowP w v r) (hc : cnt r ≤ 131072) (hf : faultR r 0 = 0) (cut : Int) (hcut : cut < 0) (hlo : -9223372036854775808 ≤ cut) (m : Nat) (hm : -(cut + 1) = (m : Int)) (hp0 : 0 < (codeR r).length) (j : Nat) (hj0 : m % (codeR r).length = j) (s : Row) (hbs : decR ((codeR r).take j) = .ok s) (hsl : s.len ≤ r.len) (hcm0 : cmpL ((codeR r).take j) (codeR r) = -1) :
    Calls Try.prog 3 #[v, .int .i64 cut] w fun e w' => e = .returned (.bool true) ∧ Kept [] w w' := by
  have w1' : IntKind.i64.wrap (cut + 1) = cut + 1 := by rw [IntKind.wrap_i64]; omega
  have w2' : IntKind.i64.wrap (-(cut + 1)) = (m : Int) := by rw [IntKind.wrap_i64]; omega
  have t0 : (cut < 0) = True := by simp; omega
  have hmb : m ≤ 9223372036854775807 := by omega
  clear hm hcut hlo
  have HBA := hide (beyond_any hr)
  rw [show decide (131072 < cnt r) = false by simp; omega] at HBA
  have HA := hide (awake_any w)
  have HVA := hide (fun (w1 : World) (hk : Kept [] w w1) => values_any r w1 v (hr.kept hk) hc)
  have hok := hr.okR
  have hcc := code_cnt r
  have hdec := dec_code hok hf
  have hsound := decR_sound hdec (code_lt hok (fine_of_fault hf))
  have H256 := hide (code_lt hok (fine_of_fault hf))
  have HEN : Hid (∀ (W : World) (g : Value), RowV Any W g r → _) := fun W g h => encC h hf rfl (by omega) (unhide H256)
  have HEC : Hid (∀ (W : World) (g : Value), RowV Any W g (cleanR r) → _) := fun W g h => encC h hsound.2 hsound.1 (by omega) (unhide H256)
  have HDX : Hid (∀ (W : World) (g : Value), Sees W g (codeR r) → _) := fun W g h => decX h (by omega)
  rw [hdec] at HDX
  have HCLN := hide (fun (W : World) (hk : Kept [] w W) => clean_any r W v (hr.kept hk) (by omega))
  have htl := told_clean r hr.reR
  have HTD := hide (fun (W : World) (gv xv : Value) (h1 : RowV Any W gv (cleanR r)) (h2 : RowP W xv (cleanPR r)) => told_any (cleanR r) (cleanPR r) Any W gv xv h1 h2 htl)
  simp only [dErr, dRow] at HDX
  have hj1 : j < (codeR r).length := by rw [← hj0]; exact Nat.mod_lt _ hp0
  have hhl : ((codeR r).take j).length ≤ 1099511627776 := by simp; omega
  have HDH : Hid (∀ (W : World) (g : Value), Sees W g ((codeR r).take j) → _) := fun W g h => decX h hhl
  rw [hbs] at HDH
  simp only [dErr, dRow] at HDH
  have h256h : ∀ x ∈ (codeR r).take j, x < 256 := fun x hx => unhide H256 x (List.mem_of_mem_take hx)
  have hss := decR_sound hbs h256h
  have HES : Hid (∀ (W : World) (g : Value), RowV Any W g s → _) := fun W g h => encC h hss.2 hss.1 hhl h256h
  have HCP : Hid (∀ (W : World) (g u : Value), RowV Any W g s → RowV Any W u (cleanR r) → Calls Try.prog 16 #[g, u] W fun e w' => Kept [] W w' ∧ e = .returned (.tuple #[.int .i64 (-1), .int .i64 0])) := by
    intro W g u h1 h2
    have h := compare_any h1 h2
    rw [hss.2, hsound.2, sort_code (fine_of_fault hss.2) (fine_of_fault hsound.2) h1.ok h2.ok, hss.1, hsound.1, hcm0] at h
    simpa using h
  have HSMH : Hid (∀ (W : World) (g u : Value), Sees W g ((codeR r).take j) → Sees W u ((codeR r).take j) → _) := fun W g u h1 h2 => same_yes h1 h2
  have HJ1 := hide hj1
  have HHD : Hid (((codeR r).take j).length = j) := by unfold Hid; simp; omega
  clear hbs hhl h256h hss hcm0
  obtain ⟨a, acap, rfl, -⟩ := hr
  generalize hL : r.len = L at *
  have HL := hide hL
  clear hL
  generalize hPL : (codeR r).length = PL at *
  have HPL := hide hPL
  clear hPL hdec hsound htl hok hj1
  generalize hSL : s.len = SL at *
  clear hSL
  have e3 : (m : Int) % (PL : Int) = (j : Int) := by rw [← hj0]; push_cast; rfl
  have e4 : (m : Int).tmod (PL : Int) = (j : Int) := by rw [Int.tmod_eq_emod_of_nonneg (by omega)]; exact e3
  have u1 : ((PL : Int) == 0) = false := by simp; omega
  have u2 : ((PL : Int) = 0) = False := by simp; omega
  have u2' : (PL = 0) = False := by simp; omega
  have u3 : 0 < PL := hp0
  have u4 : (0 : Int) < (PL : Int) := by omega
  have u5 : IntKind.i64.wrap (j : Int) = (j : Int) := by have := unhide HJ1; rw [IntKind.wrap_i64]; omega
  clear hj0
  have u9 : ((SL : Int) ≤ (L : Int)) = True := by simp; omega
  have u9' : SL ≤ L := hsl
  go_enter Try.func3, Try.ntmps3
  go_wp2_with (first | (go_at_call 8; refine (unhide HBA).mono ?_; rintro e w' ⟨rfl, hq⟩; have hq' := hq.symm; subst hq'; clear HBA) | (go_at_call 9; refine (unhide HA).mono ?_; rintro e w1 ⟨rfl, hk⟩; have HK1 := hide hk; have HV1 := hide (unhide HVA w1 hk); clear hk HA) | (go_at_call 11; refine (unhide HV1).mono ?_; rintro e w2 ⟨⟨va, vc, rfl, hrv⟩, hk⟩; have HK2 := hide ((unhide HK1).trans hk (by simp)); have HE2 := hide (unhide HEN w2 _ hrv.any); clear hrv hk HV1) | (go_at_call 10; refine (unhide HE2).mono ?_; rintro e w3 ⟨hk, ea, en, ec, rfl, hen, hsn⟩; have HK3 := hide ((unhide HK2).trans hk (by simp)); have hen2 := hen.symm; subst hen2; clear hen; have HS3 := hide hsn; have HD3 := hide (unhide HDX w3 _ hsn); clear hk hsn HE2) | (go_at_call 12; refine (unhide HD3).mono ?_; rintro e w4 ⟨⟨ga, gn, gc, rfl, hgn, hgr⟩, hk⟩; have HK4 := hide ((unhide HK3).trans hk (by simp)); have HS4 := hide ((unhide HS3).kept hk (Or.inr (by simp))); have HG4 := hide hgr.any; have HC4 := hide (unhide HCLN w4 (unhide HK4)); clear hk hgr hgn HD3) | (go_at_call 14; refine (unhide HC4).mono ?_; rintro e w5 ⟨⟨ca, cn, cc, rfl, hps⟩, hk⟩; have HK5 := hide ((unhide HK4).trans hk (by simp)); have HS5 := hide ((unhide HS4).kept hk (Or.inr (by simp))); have HG5 := hide ((unhide HG4).kept hk (by simp)); have HT5 := hide (unhide HTD w5 _ _ (unhide HG5) hps.plain); clear hk hps HC4) | (go_at_call 13; refine (unhide HT5).mono ?_; rintro e w6 ⟨rfl, hk⟩; have HK6 := hide ((unhide HK5).trans hk (by simp)); have HS6 := hide ((unhide HS5).kept hk (Or.inr (by simp))); have HG6 := hide ((unhide HG5).kept hk (by simp)); have HE6 := hide (unhide HEC w6 _ (unhide HG6)); clear hk HT5) | (go_at_call 10; refine (unhide HE6).mono ?_; rintro e w7 ⟨hk, qa, qn, qc, rfl, hqn, hsq⟩; have HK7 := hide ((unhide HK6).trans hk (by simp)); have HS7 := hide ((unhide HS6).kept hk (Or.inr (by simp))); have HG7 := hide ((unhide HG6).kept hk (by simp)); have HSM := hide (same_yes (unhide HS7) hsq); clear hk hsq hqn HE6) | (go_at_call 15; refine (unhide HSM).mono ?_; rintro e w8 ⟨rfl, hk⟩; have HK8 := hide ((unhide HK7).trans hk (by simp)); have HS8 := hide ((unhide HS7).kept hk (Or.inr (by simp))); have HG8 := hide ((unhide HG7).kept hk (by simp)); have HDD := hide (unhide HDH w8 _ ((unhide HS8).take (Nat.le_of_lt (unhide HJ1)))); obtain ⟨q1, q2⟩ := sees_cap (unhide HS8); have v1 : j ≤ ec := Nat.le_trans (Nat.le_of_lt (unhide HJ1)) q1; have v2 : (j : Int) ≤ (ec : Int) := (by omega); clear q1; clear hk HSM) | (go_at_call 12; refine (unhide HDD).mono ?_; rintro e w9 ⟨⟨sa, sn, sc, rfl, hsn, hsr⟩, hk⟩; subst hsn; have HK9 := hide ((unhide HK8).trans hk (by simp)); have HS9 := hide (((unhide HS8).take (Nat.le_of_lt (unhide HJ1))).kept hk (Or.inr (by simp))); have HG9 := hide ((unhide HG8).kept hk (by simp)); have HR9 := hide hsr.any; have HE9 := hide (unhide HES w9 _ hsr.any); clear hk hsr HDD) | (go_at_call 10; refine (unhide HE9).mono ?_; rintro e w10 ⟨hk, ta, tn, tc, rfl, htn, hst⟩; have HK10 := hide ((unhide HK9).trans hk (by simp)); have HS10 := hide ((unhide HS9).kept hk (Or.inr (by simp))); have HT10 := hide hst; have HC10 := hide (unhide HCP w10 _ _ ((unhide HR9).kept hk (by simp)) ((unhide HG9).kept hk (by simp))); clear hk hst htn HE9) | (go_at_call 16; refine (unhide HC10).mono ?_; rintro e w11 ⟨hk, rfl⟩; have HK11 := hide ((unhide HK10).trans hk (by simp)); have HSM2 := hide (unhide HSMH w11 _ _ ((unhide HT10).kept hk (Or.inr (by simp))) ((unhide HS10).kept hk (Or.inr (by simp)))); clear hk HC10) | (go_at_call 15; refine (unhide HSM2).mono ?_; rintro e w12 ⟨rfl, hk⟩; have HK12 := hide ((unhide HK11).trans hk (by simp)); clear hk HSM2))
  go_ret
  exact ⟨rfl, unhide HK12⟩

theorem back_walk {w : World} {v : Value} {r : Row} (hr : RowP w v r) (cut : Int) (h1 : -9223372036854775808 ≤ cut) (h2 : cut ≤ 9223372036854775807) :
    Calls Try.prog 3 #[v, .int .i64 cut] w fun e w' => e = .returned (.bool true) ∧ Kept [] w w' := by
  by_cases hc : 131072 < cnt r
  · exact back_many hr hc cut
  by_cases hf : faultR r 0 = 0
  case neg => exact back_bad hr (by omega) hf cut
  by_cases hp : (codeR r).length = 0
  · exact back_none hr (by omega) hf cut hp
  by_cases hn : cut < 0
  · obtain ⟨m, hm⟩ : ∃ m : Nat, -(cut + 1) = (m : Int) := ⟨(-(cut + 1)).toNat, by omega⟩
    exact back_e1 hr (by omega) hf cut hn h1 m hm (by omega) (fun j hj s hs hl hcm => back_o1 hr (by omega) hf cut hn h1 m hm (by omega) j hj s hs hl hcm)
  · obtain ⟨m, hm⟩ : ∃ m : Nat, cut = (m : Int) := ⟨cut.toNat, by omega⟩
    exact back_e0 hr (by omega) hf cut m (by omega) hm (by omega) (fun j hj s hs hl hcm => back_o0 hr (by omega) hf cut m (by omega) hm (by omega) j hj s hs hl hcm)
end Go.Proofs.Ytigmofbammofbab
