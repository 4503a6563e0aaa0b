/- ParcelShut: the walk. -/
import Derived.Test.YtiabhgkndejigabPMs
namespace Go.Proofs.Ytiabhgkndejigab
open Go.RowKit

set_option linter.unusedSimpArgs false in
set_option maxRecDepth 100000 in
set_option maxHeartbeats 40000000 in
theorem shut_walk {w : World} {v0 v1 v2 : Value} {I B : List Nat} {os : List Tk} (h0 : Wide w v0 I) (hb0 : ∀ x ∈ I, x < 256) (hp0 : I.length ≤ 1000000000) (h1 : Wide w v1 B) (hb1 : ∀ x ∈ B, x < 256) (hp1 : B.length ≤ 1000000000) (h2 : RowK w v2 os) :
    Calls Try.prog 4 #[v0, v1, v2] w fun e w' => e = .returned (.bool true) ∧ Kept [] w w' := by
  have HP0 := hide h0
  have HP1 := hide h1
  have HB0 := hide hb0
  have HB1 := hide hb1
  have HO := hide h2
  have HFR := hide (framed I B hp0)
  obtain ⟨pa, pc, rfl⟩ := wide_len h0
  obtain ⟨qa, qc, rfl⟩ := wide_len h1
  obtain ⟨ra, rc, rfl, hrl, -⟩ := h2
  clear h0 h1 hb0 hb1
  obtain ⟨IL, hIL⟩ : ∃ IL, IL = I.length := ⟨_, rfl⟩
  obtain ⟨BL, hBL⟩ : ∃ BL, BL = B.length := ⟨_, rfl⟩
  rw [← hIL] at hp0
  rw [← hBL] at hp1
  rw [← hIL, ← hBL] at HFR ⊢
  rw [← hIL] at HP0
  rw [← hBL] at HP1
  have HIL := hide hIL
  have HBL := hide hBL
  clear hIL hBL
  go_enter Try.func4, Try.ntmps4
  go_wp2_with fail
  refine (awake_any _).mono ?_
  rintro e w1 ⟨rfl, hk1⟩
  have HK1 := hide hk1
  clear hk1
  obtain ⟨R, hR⟩ : ∃ R, R = IL + BL + 10 := ⟨_, rfl⟩
  rw [← hR] at HFR
  have hRi : (IL : Int) + (BL : Int) + 10 = (R : Int) := by omega
  have hRl : R ≤ 3000000000 := by omega
  have HRR := hide hR
  clear hR
  go_wp2_with fail
  refine (new_s R _ (by omega)).mono ?_
  rintro e w3 ⟨b, rfl, hw3, hb3, hk3⟩
  have HW3 : Hid (WOwnS w1 b (newWS R) w3) := hide ⟨_, hw3, hk3, by simpa using hb3⟩
  clear hw3 hb3 hk3
  obtain ⟨F, hF⟩ := unhide HW3
  have HF := hide hF
  clear hF HW3
  go_wp2_with fail
  refine (wopen_s (unhide HF).1).mono ?_
  rintro e w4 ⟨rfl, hp⟩
  have HW4 := hide (WOwnS.go (unhide HF) hp)
  clear hp HF
  obtain ⟨F, hF⟩ := unhide HW4
  have HF := hide hF
  clear hF HW4
  go_wp2_with fail
  refine (wraw_s (unhide HF).1 _ I ((((unhide HP0).kept (unhide HK1)).far (F := F) (fun x hx hf => by have := (unhide HF).2.2 x hf; omega)).keep (unhide HF).2.1) (by have := unhide HIL; simp [wOpen, newWS]; omega)).mono ?_
  rintro e w5 ⟨rfl, hp⟩
  have HW5 := hide (WOwnS.go (unhide HF) hp)
  clear hp HF
  obtain ⟨F, hF⟩ := unhide HW5
  have HF := hide hF
  clear hF HW5
  have e2 : wLay (wOpen (newWS R)) I = ⟨R, I, [0], 0⟩ := by
    have h1 : wOpen (newWS R) = ⟨R, [], [0], 0⟩ := by simp [wOpen, newWS]
    rw [h1]; simp only [wLay]; rw [if_neg (by simp), if_pos (by have := unhide HIL; have := unhide HRR; simp; omega)]; simp
  have HE2 := hide e2
  clear e2
  go_wp2_with fail
  refine (wclose_s (unhide HF).1 (by rw [unhide HE2]; simp) (by rw [unhide HE2]; have := unhide HIL; simp; omega)).mono ?_
  rintro e w6 ⟨rfl, hp⟩
  have HW6 := hide (WOwnS.go (unhide HF) hp)
  clear hp HF
  obtain ⟨F, hF⟩ := unhide HW6
  have HF := hide hF
  clear hF HW6
  have e3 : (wClose (wLay (wOpen (newWS R)) I)).bs.length ≤ 2000000000 := by
    have hf := form_le10 IL (by omega)
    rw [unhide HE2]
    simp only [wClose, List.getLast?_singleton]
    rw [if_neg (by simp)]
    split
    · have := unhide HIL; simp [← this]; omega
    · simp [failWS]
  go_wp2_with fail
  refine (wraw_s (unhide HF).1 _ B ((((unhide HP1).kept (unhide HK1)).far (F := F) (fun x hx hf => by have := (unhide HF).2.2 x hf; omega)).keep (unhide HF).2.1) (by have := unhide HBL; omega)).mono ?_
  rintro e w7 ⟨rfl, hp⟩
  have HW7 := hide (WOwnS.go (unhide HF) hp)
  clear hp HF e3 HE2
  rw [unhide HFR] at HW7
  clear HFR
  obtain ⟨F, hF⟩ := unhide HW7
  have HF := hide hF
  clear hF HW7
  go_wp2_with fail
  refine (wdone_okS (unhide HF).1 rfl rfl).mono ?_
  rintro e w8 ⟨da, dc, rfl, hd8, hk8⟩
  have HK8 := hide (((unhide HK1).trans (unhide HF).2.1 (by simp)).trans hk8 (by simp))
  have HS8 := hide (Sees.of_own hd8)
  clear hd8 hk8 HF
  obtain ⟨X, hX⟩ : ∃ X, X = form IL ++ I ++ B := ⟨_, rfl⟩
  have HX := hide hX
  have hXl : X.length ≤ 3000000000 := by
    have := form_le10 IL (by omega)
    have := unhide HIL; have := unhide HBL
    rw [hX]; simp; omega
  simp only [← hX] at HS8 ⊢
  clear hX
  go_wp2_with fail
  refine (read_s (unhide HS8) (by omega) (fun x hx => by
    rw [unhide HX] at hx
    simp only [List.mem_append] at hx
    rcases hx with (hx | hx) | hx
    · exact form_byte _ x hx
    · exact unhide HB0 x hx
    · exact unhide HB1 x hx)).mono ?_
  rintro e w9 ⟨rb, F9, rfl, hr9, hg9, hk9⟩
  have HR9 := hide (And.intro hr9 (And.intro hg9 hk9))
  clear hr9 hg9 hk9 HS8
  go_wp2_with fail
  refine (read_w ((unhide HP0).kept ((unhide HK8).trans (unhide HR9).2.2 (by simp))) (by have := unhide HIL; omega) (unhide HB0)).mono ?_
  rintro e w10 ⟨sb, G9, rfl, hs10, hg10, hk10⟩
  have HD10 : Hid (Duo w8 rb ⟨0, X, []⟩ sb ⟨0, I, []⟩ w10) := hide (by
    obtain ⟨r1, r2, r3⟩ := unhide HR9
    have hsz := r3.size
    exact ⟨F9, G9, r1.kept hk10 (by simp), hs10, r3.trans hk10 (by simp), r2, fun x hx => by have := hg10 x hx; omega, fun x hx hg => by
      have := r1.lt x hx; have := hg10 x hg; omega⟩)
  clear hs10 hg10 hk10 HR9
  obtain ⟨F, G, o1, o2, o3, o4, o5, o6⟩ := unhide HD10
  have HXX := hide (And.intro o1 (And.intro o2 (And.intro o3 (And.intro o4 (And.intro o5 o6)))))
  clear o1 o2 o3 o4 o5 o6 HD10
  have hen : rEnter ⟨0, X, []⟩ = (⟨0, I, [B]⟩, IL) := by
    have hr : readNum 0 0 X = .inr (IL, I ++ B) := by rw [unhide HX, List.append_assoc]; exact read_form0 _ _ (by omega)
    have hil := unhide HIL
    simp only [rEnter]
    rw [if_neg (by simp), if_neg (by simp), hr]
    simp only
    rw [if_neg (by simp; omega)]
    subst hil
    simp
  have HEN := hide (renter_s (unhide HXX).1)
  rw [hen] at HEN
  clear hen
  go_wp2_with (first | (go_at_call 21; refine (unhide HEN).mono ?_; rintro e w11 ⟨rfl, hp11⟩; have HD11 := hide (Duo.left (unhide HXX) hp11); clear hp11))
  go_wp2
  have HDU : Hid (Duo w8 rb (lift B ⟨0, I, []⟩) sb ⟨0, I, []⟩ w11) := hide (by rw [lift_ok]; obtain ⟨F', h⟩ := unhide HD11; exact ⟨F', G, h⟩)
  clear HD11 HXX HEN
  go_loopw [12, 13] (fun dv i wr => ∃ (k : Nat) (l : List Nat) (bh : List (List Nat)), k ≤ os.length ∧ bh.length ≤ 15 ∧ i = .int .i64 k ∧ dv = .int .i64 (bh.length : Nat) ∧ Hid (Duo w8 rb (lift B ⟨0, l, bh⟩) sb ⟨0, l, bh⟩ wr)) (fun _ i _ => os.length - (intOf i).toNat)
  case atStart => exact ⟨0, I, [], by omega, by simp, rfl, rfl, HDU⟩
  case round =>
    clear HDU
    obtain ⟨k, l, bh, hk, hd15, rfl, rfl, HI⟩ := hrel
    obtain ⟨F, G, o1, o2, o3, o4, o5, o6⟩ := unhide HI
    have HXX := hide (And.intro o1 (And.intro o2 (And.intro o3 (And.intro o4 (And.intro o5 o6)))))
    have HKr := hide ((unhide HK8).trans o3 (by simp))
    have hlb := (o2.bytes rfl).1
    have HLB := hide hlb
    have HRS := hide (rrest_s o2)
    rw [rRest, if_neg (by simp)] at HRS
    clear o1 o2 o3 o4 o5 o6 hlb
    obtain ⟨L, hL⟩ : ∃ L, L = l.length := ⟨_, rfl⟩
    simp only [← hL] at HRS
    have HL := hide hL
    clear hL
    obtain ⟨D, hD⟩ : ∃ D, D = bh.length := ⟨_, rfl⟩
    rw [← hD] at hd15
    have HD := hide hD
    rw [← hD]
    clear hD
    by_cases hlt : k < os.length
    · obtain ⟨ra', rc', hv', -, hrow⟩ := (unhide HO).kept (unhide HKr)
      obtain ⟨hok, vb, off, ha, hvb, q0, q1, q2⟩ := hrow k os[k] (List.getElem?_eq_getElem hlt)
      cases hv'
      subst ha
      clear hrow
      have hv8 : vb < w8.heap.size := by
        obtain ⟨_, _, hv2, -, hrow2⟩ := (unhide HO).kept (unhide HK8)
        obtain ⟨_, vb', off', ha', hvb', _⟩ := hrow2 k os[k] (List.getElem?_eq_getElem hlt)
        cases hv2; cases ha'; exact hvb'
      have HV8 := hide hv8
      clear hv8
      have HOK := hide hok
      clear hok
      generalize os[k] = t at *
      have HR := hide (fun w => round_any t.kind 9 w (by omega) (by omega))
      have hK9 := rnd_lt t.kind 9 (by omega)
      have HT1 := hide (fun W (kW : Kept [] wr W) => taken_any ((unhide HXX).1.kept kW (by simp)) t.kind t.which t.i (unhide HOK).i2)
      have HT2 := hide (fun W (h : Rs W sb G ⟨0, l, bh⟩) => taken_any h t.kind t.which t.i (unhide HOK).i2)
      generalize hKd : rnd t.kind 9 = K at *
      clear hKd
      go_upto_region 18 with (first | (go_at_call 11; refine (unhide HR _).mono ?_; rintro e w' ⟨rfl, rfl⟩))
      go_cut [89] (fun s wc => s = .bool (decide ((K = 8 ∧ (D = 0 ∨ 0 < L)) ∨ (K = 7 ∧ D = 15))) ∧ Hid (wr = wc))
      case first =>
        as_aux_lemma =>
        clear HT1 HT2 HI HXX
        rcases (by omega : (K = 8 ∧ D = 0) ∨ (K = 8 ∧ D ≠ 0 ∧ 0 < L) ∨ (K = 8 ∧ D ≠ 0 ∧ L = 0) ∨ (K = 7 ∧ D = 15) ∨ (K = 7 ∧ D ≠ 15) ∨ K < 7) with hK | hK | hK | hK | hK | hK
        · obtain ⟨rfl, hD0⟩ := hK
          have d1 : ((D : Int) == 0) = true := by rw [beq_iff_eq]; omega
          have hdec : decide ((8 = 8 ∧ (D = 0 ∨ 0 < L)) ∨ (8 = 7 ∧ D = 15)) = true := by simp [hD0]
          have HDEC := hide hdec
          clear hD0 hdec
          go_wp2
          go_meet
          exact ⟨by rw [unhide HDEC], hide rfl⟩
        · obtain ⟨rfl, hD0, hL0⟩ := hK
          have d1 : ((D : Int) == 0) = false := by rw [beq_eq_false_iff_ne]; omega
          have d2 : decide (0 < L) = true := by simpa using hL0
          have hdec : decide ((8 = 8 ∧ (D = 0 ∨ 0 < L)) ∨ (8 = 7 ∧ D = 15)) = true := by simp [hL0]
          have HDEC := hide hdec
          clear hD0 hdec
          go_wp2_with (first | (go_at_call 12; refine (unhide HRS).mono ?_; rintro e w' ⟨rfl, rfl⟩))
          go_meet
          exact ⟨by rw [unhide HDEC], hide rfl⟩
        · obtain ⟨rfl, hD0, rfl⟩ := hK
          have d1 : ((D : Int) == 0) = false := by rw [beq_eq_false_iff_ne]; omega
          have hdec : decide ((8 = 8 ∧ (D = 0 ∨ 0 < 0)) ∨ (8 = 7 ∧ D = 15)) = false := by simp [hD0]
          have HDEC := hide hdec
          clear hD0 hdec
          go_wp2_with (first | (go_at_call 12; refine (unhide HRS).mono ?_; rintro e w' ⟨rfl, rfl⟩))
          go_meet
          exact ⟨by rw [unhide HDEC], hide rfl⟩
        · obtain ⟨rfl, hD0⟩ := hK
          have d1 : ((D : Int) == 15) = true := by rw [beq_iff_eq]; omega
          have hdec : decide ((7 = 8 ∧ (D = 0 ∨ 0 < L)) ∨ (7 = 7 ∧ D = 15)) = true := by simp [hD0]
          have HDEC := hide hdec
          clear hD0 hdec
          go_wp2
          go_meet
          exact ⟨by rw [unhide HDEC], hide rfl⟩
        · obtain ⟨rfl, hD0⟩ := hK
          have d1 : ((D : Int) == 15) = false := by rw [beq_eq_false_iff_ne]; omega
          have hdec : decide ((7 = 8 ∧ (D = 0 ∨ 0 < L)) ∨ (7 = 7 ∧ D = 15)) = false := by simp [hD0]
          have HDEC := hide hdec
          clear hD0 hdec
          go_wp2
          go_meet
          exact ⟨by rw [unhide HDEC], hide rfl⟩
        · have d1 : ((1 + (K : Int)) == 9) = false := by rw [beq_eq_false_iff_ne]; omega
          have d2 : ((1 + (K : Int)) == 8) = false := by rw [beq_eq_false_iff_ne]; omega
          have hdec : decide ((K = 8 ∧ (D = 0 ∨ 0 < L)) ∨ (K = 7 ∧ D = 15)) = false := by simp; omega
          have HDEC := hide hdec
          clear hdec
          go_wp2
          go_meet
          exact ⟨by rw [unhide HDEC], hide rfl⟩
      case rest =>
      obtain ⟨rfl, HWC⟩ := hcut
      have hWC := unhide HWC
      clear HWC
      subst hWC
      by_cases hskip : (K = 8 ∧ (D = 0 ∨ 0 < L)) ∨ (K = 7 ∧ D = 15)
      · have hdec : decide ((K = 8 ∧ (D = 0 ∨ 0 < L)) ∨ (K = 7 ∧ D = 15)) = true := by simpa using hskip
        rw [hdec]
        clear hskip hdec
        go_wp2
        refine ⟨⟨k + 1, l, bh, by omega, by rw [← unhide HD]; exact hd15, by go_num, by rw [← unhide HD], HI⟩, by simp [intOf]; omega⟩
      · have hdec : decide ((K = 8 ∧ (D = 0 ∨ 0 < L)) ∨ (K = 7 ∧ D = 15)) = false := by simpa using hskip
        rw [hdec]
        clear hdec
        have HST := hide (shut_step B l bh (unhide HLB) K hK9 t.i (fun e => ⟨by rw [← unhide HD]; omega, List.eq_nil_of_length_eq_zero (by rw [← unhide HL]; omega)⟩) (fun e => by rw [← unhide HD]; omega))
        have HSK := hide hskip
        clear hskip
        rw [lift_ok] at HT1
        rw [(unhide HST).1] at HT1
        have HSTB := hide (unhide HST).2
        clear HST
        have hrem : TakenP = fun (w : World) (b : Nat) (F : List Nat) (k : Nat) (r : RS × Nat × Int × List Nat) (e : Ending) (w' : World) => ∃ a cap, e = .returned (.agg #[.int .i64 (k : Nat), .int .u64 (r.2.1 : Nat), .int .i64 r.2.2.1, .slice a r.2.2.2.length cap]) ∧ w'.ownsRow w.heap.size 5 1 (.slice a r.2.2.2.length cap) r.2.2.2.length (u8s r.2.2.2) ∧ RsP w b F r.1 w' := rfl
        rw [hrem] at HT1 HT2
        clear hrem
        have HPB := hide (takenS_len l bh (unhide HLB) K t.i)
        generalize takenS ⟨0, l, bh⟩ K t.i = T at *
        obtain ⟨r', n', I', P'⟩ := T
        simp only at HT1 HT2 HSTB HPB
        have HQ : Hid (∀ W W', Kept [] wr W → RsP W rb F (lift B r') W' → (W'.cell? ⟨vb, off + k * 3, none⟩ = some (.int .i64 t.kind) ∧ W'.cell? ⟨vb, off + k * 3 + 1, none⟩ = some (.int .i64 t.which) ∧ W'.cell? ⟨vb, off + k * 3 + 2, none⟩ = some (.int .i64 t.i)) ∧ Hid (Rs W' sb G ⟨0, l, bh⟩) ∧ (∀ c i, wr.heap.size ≤ c → c < W.heap.size → W'.cell? ⟨c, i, none⟩ = W.cell? ⟨c, i, none⟩) ∧ (∀ c i, wr.heap.size ≤ c → c < W.heap.size → W'.frozen? ⟨c, i, none⟩ = W.frozen? ⟨c, i, none⟩) ∧ W.heap.size ≤ W'.heap.size ∧ wr.heap.size ≤ W'.heap.size ∧ vb < W'.heap.size) := hide fun W W' kW hp => by
          obtain ⟨o1, o2, o3, o4, o5, o6⟩ := unhide HXX
          have hk' := hp.kepts
          have hv8 : vb ∉ F := fun hf => by have := o4 vb hf; have := unhide HV8; omega
          have hvW : vb < W.heap.size := Nat.lt_of_lt_of_le hvb kW.size
          have hF0 := o1.lt
          refine ⟨⟨?_, ?_, ?_⟩, hide ((o2.kept kW (by simp)).kept hk' (fun x hx hf => o6 x hf hx)), fun c i h1 h2 => ?_, fun c i h1 h2 => ?_, hk'.size, Nat.le_trans kW.size hk'.size, Nat.lt_of_lt_of_le hvW hk'.size⟩
          · rw [hk'.cell (p := ⟨vb, off + k * 3, none⟩) hvW hv8, kW.cell (p := ⟨vb, off + k * 3, none⟩) hvb (by simp)]; exact q0
          · rw [hk'.cell (p := ⟨vb, off + k * 3 + 1, none⟩) hvW hv8, kW.cell (p := ⟨vb, off + k * 3 + 1, none⟩) hvb (by simp)]; exact q1
          · rw [hk'.cell (p := ⟨vb, off + k * 3 + 2, none⟩) hvW hv8, kW.cell (p := ⟨vb, off + k * 3 + 2, none⟩) hvb (by simp)]; exact q2
          · exact hk'.cell (p := ⟨c, i, none⟩) h2 (fun hf => by have := hF0 c hf; omega)
          · exact hk'.frozen (p := ⟨c, i, none⟩) h2 (fun hf => by have := hF0 c hf; omega)
        have HQ2 : Hid (∀ W W', RsP W sb G r' W' → (vb < W.heap.size → ∀ i, W'.cell? ⟨vb, i, none⟩ = W.cell? ⟨vb, i, none⟩) ∧ (∀ c i, wr.heap.size ≤ c → c < W.heap.size → W'.cell? ⟨c, i, none⟩ = W.cell? ⟨c, i, none⟩) ∧ (∀ c i, wr.heap.size ≤ c → c < W.heap.size → W'.frozen? ⟨c, i, none⟩ = W.frozen? ⟨c, i, none⟩) ∧ W.heap.size ≤ W'.heap.size) := hide fun W W' hp => by
          obtain ⟨o1, o2, o3, o4, o5, o6⟩ := unhide HXX
          have hk' := hp.kepts
          have hG0 := o2.lt
          refine ⟨fun h1 i => ?_, fun c i h1 h2 => ?_, fun c i h1 h2 => ?_, hk'.size⟩
          · exact hk'.cell (p := ⟨vb, i, none⟩) h1 (fun hf => by have := o5 vb hf; have := unhide HV8; omega)
          · exact hk'.cell (p := ⟨c, i, none⟩) h2 (fun hf => by have := hG0 c hf; omega)
          · exact hk'.frozen (p := ⟨c, i, none⟩) h2 (fun hf => by have := hG0 c hf; omega)
        obtain ⟨PL, hPL⟩ : ∃ PL, PL = P'.length := ⟨_, rfl⟩
        rw [← hPL] at HT1 HT2
        have HPL := hide hPL
        clear hPL
        have hlt2 : ∀ n : Nat, n < n + 1 + 1 := fun n => by omega
        go_upto_region 19 with fail
        go_cut [15, 16] (fun t1 t2 wc => ∃ q1 q2 ta tc ua uc, t1 = .pointer (some ⟨q1, 0, none⟩) ∧ t2 = .pointer (some ⟨q2, 0, none⟩) ∧ wc.cell? ⟨q1, 1, none⟩ = some (.int .u64 (n' : Nat)) ∧ wc.cell? ⟨q1, 2, none⟩ = some (.int .i64 I') ∧ wc.cell? ⟨q1, 3, none⟩ = some (.slice ta PL tc) ∧ wc.cell? ⟨q2, 1, none⟩ = some (.int .u64 (n' : Nat)) ∧ wc.cell? ⟨q2, 2, none⟩ = some (.int .i64 I') ∧ wc.cell? ⟨q2, 3, none⟩ = some (.slice ua PL uc) ∧ Hid (Duo w8 rb (lift B r') sb r' wc ∧ Sees wc (.slice ta P'.length tc) P' ∧ Sees wc (.slice ua P'.length uc) P'))
        case first =>
          clear HSTB HI HIL HBL HRR HK8 HP0 HP1 HB0 HB1 HK1 HO HX HLB HL HD HSK HR HRS HOK
          have hn1 : vb ≠ wr.heap.size := by omega
          have hn2 : vb ≠ wr.heap.size + 1 := by omega
          have hn7 := Ne.symm hn1
          have hn8 := Ne.symm hn2
          have HFL := hide (unhide HXX).1.lt
          have HGL := hide (unhide HXX).2.1.lt
          go_region_held3 (fun W => W.cell? ⟨vb, off + k * 3, none⟩ = some (.int .i64 t.kind) ∧ W.cell? ⟨vb, off + k * 3 + 1, none⟩ = some (.int .i64 t.which) ∧ W.cell? ⟨vb, off + k * 3 + 2, none⟩ = some (.int .i64 t.i)) (go_keep) (first
            | (go_at_call_of 13 (Value.pointer (some ⟨rb, 0, none⟩)); refine (unhide HT1 _ ?_).mono ?_; (repeat (first | exact Kept.refl _ _ | refine Kept.drew ?_ | refine Kept.alloc ?_ _)); rintro e w4 ⟨ta, tc, rfl, ho4, hp4⟩; obtain ⟨⟨q0', q1', q2'⟩, HS4, r1, r1f, z1, z1', z1v⟩ := unhide HQ _ _ (by repeat (first | exact Kept.refl _ _ | refine Kept.drew ?_ | refine Kept.alloc ?_ _)) hp4; have HO4 := hide ho4; have hn3 : vb ≠ w4.heap.size := (by omega); have hn4 : vb ≠ w4.heap.size + 1 := (by omega); have hn5 := Ne.symm hn3; have hn6 := Ne.symm hn4; have HP4 := hide hp4; have y1 := fun i => r1 wr.heap.size i (Nat.le_refl _); have y1' := fun i => r1 (wr.heap.size + 1) i (Nat.le_succ _); have y1f := fun i => r1f wr.heap.size i (Nat.le_refl _); have y1f' := fun i => r1f (wr.heap.size + 1) i (Nat.le_succ _); have zD := fun h => Nat.lt_of_lt_of_le (n := wr.heap.size) h z1; have zE := fun h => Nat.lt_of_lt_of_le (n := wr.heap.size + 1) h z1; clear ho4 hp4 r1 r1f; (try simp [hlt2] at zD); (try simp [hlt2] at zE); (try simp [hlt2] at y1); (try simp [hlt2] at y1'); (try simp [hlt2] at y1f); (try simp [hlt2] at y1f'); (try simp at z1))
            | (go_at_call_of 13 (Value.pointer (some ⟨sb, 0, none⟩)); refine (unhide HT2 _ ?_).mono ?_; (exact (unhide HS4).kept (G := []) (by repeat (first | exact Kept.refl _ _ | refine Kept.drew ?_ | refine Kept.alloc ?_ _)) (by simp)); rintro e w5 ⟨ua, uc, rfl, ho5, hp5⟩; obtain ⟨rv, r2, r2f, z2⟩ := unhide HQ2 _ _ hp5; have rv0 := rv (by first | exact z1v | (simp; omega)) (off + k * 3); have rv1 := rv (by first | exact z1v | (simp; omega)) (off + k * 3 + 1); have rv2 := rv (by first | exact z1v | (simp; omega)) (off + k * 3 + 2); clear rv; have hn9 : vb ≠ w5.heap.size := (by (try simp at z2); omega); have hn10 : vb ≠ w5.heap.size + 1 := (by (try simp at z2); omega); have hn11 := Ne.symm hn9; have hn12 := Ne.symm hn10; have HO5 := hide ho5; have HP5 := hide hp5; have y2 := fun i => r2 wr.heap.size i (Nat.le_refl _); have y2f := fun i => r2f wr.heap.size i (Nat.le_refl _); have y2' := fun i => r2 (wr.heap.size + 1) i (Nat.le_succ _); have y2f' := fun i => r2f (wr.heap.size + 1) i (Nat.le_succ _); have y3 := fun i => r2 w4.heap.size i z1'; have y3f := fun i => r2f w4.heap.size i z1'; have y3' := fun i => r2 (w4.heap.size + 1) i (Nat.le_succ_of_le z1'); have y3f' := fun i => r2f (w4.heap.size + 1) i (Nat.le_succ_of_le z1'); have zA := fun h => Nat.lt_of_lt_of_le (n := w4.heap.size) h z2; have zB := fun h => Nat.lt_of_lt_of_le (n := w4.heap.size + 1) h z2; have zC := fun h => Nat.lt_of_lt_of_le (n := wr.heap.size) h z2; have zF := fun h => Nat.lt_of_lt_of_le (n := wr.heap.size + 1) h z2; (try simp [z1'] at zC); (try simp [z1'] at zF); clear ho5 hp5 r2 r2f; (try simp at zA); (try simp at zB); (try simp [z1'] at y2); (try simp [z1'] at y2f); (try simp [z1'] at y2'); (try simp [z1'] at y2f'); (try simp at y3); (try simp at y3f); (try simp at y3'); (try simp at y3f'); (try simp [zD] at y2); (try simp [zD] at y2f); (try simp [zE] at y2'); (try simp [zE] at y2f'); (try simp [zD] at zC); (try simp [zE] at zF); (try simp [hlt2] at zA); (try simp [hlt2] at y3); (try simp [hlt2] at y3f); (try simp at z2)))
          all_goals
            go_wp2_with fail
            go_meet
            first
              | with_reducible exact box0 HPL HXX HP4 HO4 HP5 HO5 rfl
              | with_reducible exact box1 HPL HXX HP4 HO4 HP5 HO5 rfl
              | with_reducible exact box2 HPL HXX HP4 HO4 HP5 HO5 rfl
              | with_reducible exact box3 HPL HXX HP4 HO4 HP5 HO5 rfl
              | with_reducible exact box4 HPL HXX HP4 HO4 HP5 HO5 rfl
              | with_reducible exact box5 HPL HXX HP4 HO4 HP5 HO5 rfl
              | with_reducible exact box6 HPL HXX HP4 HO4 HP5 HO5 rfl
              | with_reducible exact box7 HPL HXX HP4 HO4 HP5 HO5 rfl
              | with_reducible exact box8 HPL HXX HP4 HO4 HP5 HO5 rfl
              | with_reducible exact box9 HPL HXX HP4 HO4 HP5 HO5 rfl
              | with_reducible exact box10 HPL HXX HP4 HO4 HP5 HO5 rfl
              | with_reducible exact box11 HPL HXX HP4 HO4 HP5 HO5 rfl
        case rest =>
        obtain ⟨q1, q2, ta, tc, ua, uc, rfl, rfl, c1, c2, c3, c4, c5, c6, HC⟩ := hcut
        have hPB : PL ≤ 140737488355328 := by
          have h1 := unhide HPB
          have h2 := (unhide HXX).2.1.short rfl
          rw [unhide HPL]
          exact Nat.le_trans h1 h2
        clear HT1 HT2 HQ HQ2 HXX HKr HLB HRS HR HPB HI
        obtain ⟨F', G', o1, o2, o3, o4, o5, o6⟩ := (unhide HC).1
        have HRD := hide (fun W (kW : Kept [] wc W) => rdone_s (o1.kept kW (by simp)))
        have HSD := hide (fun W (kW : Kept [] wc W) => rdone_s (o2.kept kW (by simp)))
        have HRR := hide (fun W (kW : Kept [] wc W) => rrest_s (o1.kept kW (by simp)))
        have HSR := hide (fun W (kW : Kept [] wc W) => rrest_s (o2.kept kW (by simp)))
        have HSM : Hid (∀ W, Kept [] wc W → Calls Try.prog 17 #[.slice ta PL tc, .slice ua PL uc] W fun e w' => e = .returned (.bool true) ∧ ∃ m, w' = W.drewN m) := hide fun W kW => by
          obtain ⟨-, s1, s2⟩ := unhide HC
          rw [← unhide HPL] at s1 s2
          exact same_yes (s1.kept kW (by simp)) (s2.kept kW (by simp)) (by rw [← unhide HPL]; exact hPB)
        clear o1 o2 o3 o4 o5 o6
        have HSAY := hide (shut_says B r' K bh.length (unhide HSTB))
        clear HSTB HPL
        rcases unhide HSAY with ⟨c, hc, e1, e2, e3, e4⟩ | ⟨l', bh', c, hc, e0, e1, e2, e3, e4, e5, e6, e7⟩
        · rw [e1] at HRD
          rw [e2] at HSD
          rw [e3] at HRR
          rw [e4] at HSR
          clear e1 e2 e3 e4 HSAY
          rcases hc with rfl | rfl
          · rcases (by omega : K = 7 ∨ K = 8 ∨ K < 7) with hK | hK | hK
            · as_aux_lemma =>
              subst hK
              go_upto_region 25 with (first | (go_at_call_of 14 (Value.pointer (some ⟨rb, 0, none⟩)); refine (unhide HRD _ (by repeat (first | exact Kept.refl _ _ | refine Kept.drewN ?_ _ | refine Kept.drew ?_))).mono ?_; rintro e w' ⟨rfl, rfl⟩) | (go_at_call_of 14 (Value.pointer (some ⟨sb, 0, none⟩)); refine (unhide HSD _ (by repeat (first | exact Kept.refl _ _ | refine Kept.drewN ?_ _ | refine Kept.drew ?_))).mono ?_; rintro e w' ⟨rfl, rfl⟩) | (go_at_call_of 12 (Value.pointer (some ⟨rb, 0, none⟩)); refine (unhide HRR _ (by repeat (first | exact Kept.refl _ _ | refine Kept.drewN ?_ _ | refine Kept.drew ?_))).mono ?_; rintro e w' ⟨rfl, rfl⟩) | (go_at_call_of 12 (Value.pointer (some ⟨sb, 0, none⟩)); refine (unhide HSR _ (by repeat (first | exact Kept.refl _ _ | refine Kept.drewN ?_ _ | refine Kept.drew ?_))).mono ?_; rintro e w' ⟨rfl, rfl⟩) | (go_at_call 17; refine (unhide HSM _ (by repeat (first | exact Kept.refl _ _ | refine Kept.drewN ?_ _ | refine Kept.drew ?_))).mono ?_; rintro e w' ⟨rfl, m7, rfl⟩))
              go_cut [153] (fun t wq => ∃ W', W' = wq ∧ t = .bool false ∧ Hid (Kept [] wc W'))
              case first =>
                go_wp2_with (first | (go_at_call_of 14 (Value.pointer (some ⟨rb, 0, none⟩)); refine (unhide HRD _ (by repeat (first | exact Kept.refl _ _ | refine Kept.drewN ?_ _ | refine Kept.drew ?_))).mono ?_; rintro e w' ⟨rfl, rfl⟩) | (go_at_call_of 14 (Value.pointer (some ⟨sb, 0, none⟩)); refine (unhide HSD _ (by repeat (first | exact Kept.refl _ _ | refine Kept.drewN ?_ _ | refine Kept.drew ?_))).mono ?_; rintro e w' ⟨rfl, rfl⟩) | (go_at_call_of 12 (Value.pointer (some ⟨rb, 0, none⟩)); refine (unhide HRR _ (by repeat (first | exact Kept.refl _ _ | refine Kept.drewN ?_ _ | refine Kept.drew ?_))).mono ?_; rintro e w' ⟨rfl, rfl⟩) | (go_at_call_of 12 (Value.pointer (some ⟨sb, 0, none⟩)); refine (unhide HSR _ (by repeat (first | exact Kept.refl _ _ | refine Kept.drewN ?_ _ | refine Kept.drew ?_))).mono ?_; rintro e w' ⟨rfl, rfl⟩) | (go_at_call 17; refine (unhide HSM _ (by repeat (first | exact Kept.refl _ _ | refine Kept.drewN ?_ _ | refine Kept.drew ?_))).mono ?_; rintro e w' ⟨rfl, m7, rfl⟩))
                go_meet
                exact ⟨_, rfl, rfl, hide (by repeat (first | exact Kept.refl _ _ | refine Kept.drewN ?_ _ | refine Kept.drew ?_))⟩
              case rest =>
              obtain ⟨W', rfl, rfl, HKW'⟩ := hcut
              go_wp2_with fail
              go_ret
              refine ⟨rfl, (unhide HK8).trans ((unhide HC).1.choose_spec.choose_spec.2.2.1.trans (unhide HKW') (by simp)) (by simp)⟩
            · as_aux_lemma =>
              subst hK
              have hw8 : IntKind.i64.wrap ((D : Int) - 1) = ((D - 1 : Nat) : Int) := by have h := unhide HSK; rw [IntKind.wrap_i64]; omega
              go_upto_region 25 with (first | (go_at_call_of 14 (Value.pointer (some ⟨rb, 0, none⟩)); refine (unhide HRD _ (by repeat (first | exact Kept.refl _ _ | refine Kept.drewN ?_ _ | refine Kept.drew ?_))).mono ?_; rintro e w' ⟨rfl, rfl⟩) | (go_at_call_of 14 (Value.pointer (some ⟨sb, 0, none⟩)); refine (unhide HSD _ (by repeat (first | exact Kept.refl _ _ | refine Kept.drewN ?_ _ | refine Kept.drew ?_))).mono ?_; rintro e w' ⟨rfl, rfl⟩) | (go_at_call_of 12 (Value.pointer (some ⟨rb, 0, none⟩)); refine (unhide HRR _ (by repeat (first | exact Kept.refl _ _ | refine Kept.drewN ?_ _ | refine Kept.drew ?_))).mono ?_; rintro e w' ⟨rfl, rfl⟩) | (go_at_call_of 12 (Value.pointer (some ⟨sb, 0, none⟩)); refine (unhide HSR _ (by repeat (first | exact Kept.refl _ _ | refine Kept.drewN ?_ _ | refine Kept.drew ?_))).mono ?_; rintro e w' ⟨rfl, rfl⟩) | (go_at_call 17; refine (unhide HSM _ (by repeat (first | exact Kept.refl _ _ | refine Kept.drewN ?_ _ | refine Kept.drew ?_))).mono ?_; rintro e w' ⟨rfl, m7, rfl⟩))
              go_cut [153] (fun t wq => ∃ W', W' = wq ∧ t = .bool false ∧ Hid (Kept [] wc W'))
              case first =>
                go_wp2_with (first | (go_at_call_of 14 (Value.pointer (some ⟨rb, 0, none⟩)); refine (unhide HRD _ (by repeat (first | exact Kept.refl _ _ | refine Kept.drewN ?_ _ | refine Kept.drew ?_))).mono ?_; rintro e w' ⟨rfl, rfl⟩) | (go_at_call_of 14 (Value.pointer (some ⟨sb, 0, none⟩)); refine (unhide HSD _ (by repeat (first | exact Kept.refl _ _ | refine Kept.drewN ?_ _ | refine Kept.drew ?_))).mono ?_; rintro e w' ⟨rfl, rfl⟩) | (go_at_call_of 12 (Value.pointer (some ⟨rb, 0, none⟩)); refine (unhide HRR _ (by repeat (first | exact Kept.refl _ _ | refine Kept.drewN ?_ _ | refine Kept.drew ?_))).mono ?_; rintro e w' ⟨rfl, rfl⟩) | (go_at_call_of 12 (Value.pointer (some ⟨sb, 0, none⟩)); refine (unhide HSR _ (by repeat (first | exact Kept.refl _ _ | refine Kept.drewN ?_ _ | refine Kept.drew ?_))).mono ?_; rintro e w' ⟨rfl, rfl⟩) | (go_at_call 17; refine (unhide HSM _ (by repeat (first | exact Kept.refl _ _ | refine Kept.drewN ?_ _ | refine Kept.drew ?_))).mono ?_; rintro e w' ⟨rfl, m7, rfl⟩))
                go_meet
                exact ⟨_, rfl, rfl, hide (by repeat (first | exact Kept.refl _ _ | refine Kept.drewN ?_ _ | refine Kept.drew ?_))⟩
              case rest =>
              obtain ⟨W', rfl, rfl, HKW'⟩ := hcut
              go_wp2_with fail
              go_ret
              refine ⟨rfl, (unhide HK8).trans ((unhide HC).1.choose_spec.choose_spec.2.2.1.trans (unhide HKW') (by simp)) (by simp)⟩
            · as_aux_lemma =>
              have d1 : ((1 + (K : Int)) == 8) = false := by rw [beq_eq_false_iff_ne]; omega
              have d2 : ((1 + (K : Int)) == 9) = false := by rw [beq_eq_false_iff_ne]; omega
              go_upto_region 25 with (first | (go_at_call_of 14 (Value.pointer (some ⟨rb, 0, none⟩)); refine (unhide HRD _ (by repeat (first | exact Kept.refl _ _ | refine Kept.drewN ?_ _ | refine Kept.drew ?_))).mono ?_; rintro e w' ⟨rfl, rfl⟩) | (go_at_call_of 14 (Value.pointer (some ⟨sb, 0, none⟩)); refine (unhide HSD _ (by repeat (first | exact Kept.refl _ _ | refine Kept.drewN ?_ _ | refine Kept.drew ?_))).mono ?_; rintro e w' ⟨rfl, rfl⟩) | (go_at_call_of 12 (Value.pointer (some ⟨rb, 0, none⟩)); refine (unhide HRR _ (by repeat (first | exact Kept.refl _ _ | refine Kept.drewN ?_ _ | refine Kept.drew ?_))).mono ?_; rintro e w' ⟨rfl, rfl⟩) | (go_at_call_of 12 (Value.pointer (some ⟨sb, 0, none⟩)); refine (unhide HSR _ (by repeat (first | exact Kept.refl _ _ | refine Kept.drewN ?_ _ | refine Kept.drew ?_))).mono ?_; rintro e w' ⟨rfl, rfl⟩) | (go_at_call 17; refine (unhide HSM _ (by repeat (first | exact Kept.refl _ _ | refine Kept.drewN ?_ _ | refine Kept.drew ?_))).mono ?_; rintro e w' ⟨rfl, m7, rfl⟩))
              go_cut [153] (fun t wq => ∃ W', W' = wq ∧ t = .bool false ∧ Hid (Kept [] wc W'))
              case first =>
                go_wp2_with (first | (go_at_call_of 14 (Value.pointer (some ⟨rb, 0, none⟩)); refine (unhide HRD _ (by repeat (first | exact Kept.refl _ _ | refine Kept.drewN ?_ _ | refine Kept.drew ?_))).mono ?_; rintro e w' ⟨rfl, rfl⟩) | (go_at_call_of 14 (Value.pointer (some ⟨sb, 0, none⟩)); refine (unhide HSD _ (by repeat (first | exact Kept.refl _ _ | refine Kept.drewN ?_ _ | refine Kept.drew ?_))).mono ?_; rintro e w' ⟨rfl, rfl⟩) | (go_at_call_of 12 (Value.pointer (some ⟨rb, 0, none⟩)); refine (unhide HRR _ (by repeat (first | exact Kept.refl _ _ | refine Kept.drewN ?_ _ | refine Kept.drew ?_))).mono ?_; rintro e w' ⟨rfl, rfl⟩) | (go_at_call_of 12 (Value.pointer (some ⟨sb, 0, none⟩)); refine (unhide HSR _ (by repeat (first | exact Kept.refl _ _ | refine Kept.drewN ?_ _ | refine Kept.drew ?_))).mono ?_; rintro e w' ⟨rfl, rfl⟩) | (go_at_call 17; refine (unhide HSM _ (by repeat (first | exact Kept.refl _ _ | refine Kept.drewN ?_ _ | refine Kept.drew ?_))).mono ?_; rintro e w' ⟨rfl, m7, rfl⟩))
                go_meet
                exact ⟨_, rfl, rfl, hide (by repeat (first | exact Kept.refl _ _ | refine Kept.drewN ?_ _ | refine Kept.drew ?_))⟩
              case rest =>
              obtain ⟨W', rfl, rfl, HKW'⟩ := hcut
              go_wp2_with fail
              go_ret
              refine ⟨rfl, (unhide HK8).trans ((unhide HC).1.choose_spec.choose_spec.2.2.1.trans (unhide HKW') (by simp)) (by simp)⟩
          · rcases (by omega : K = 7 ∨ K = 8 ∨ K < 7) with hK | hK | hK
            · as_aux_lemma =>
              subst hK
              go_upto_region 25 with (first | (go_at_call_of 14 (Value.pointer (some ⟨rb, 0, none⟩)); refine (unhide HRD _ (by repeat (first | exact Kept.refl _ _ | refine Kept.drewN ?_ _ | refine Kept.drew ?_))).mono ?_; rintro e w' ⟨rfl, rfl⟩) | (go_at_call_of 14 (Value.pointer (some ⟨sb, 0, none⟩)); refine (unhide HSD _ (by repeat (first | exact Kept.refl _ _ | refine Kept.drewN ?_ _ | refine Kept.drew ?_))).mono ?_; rintro e w' ⟨rfl, rfl⟩) | (go_at_call_of 12 (Value.pointer (some ⟨rb, 0, none⟩)); refine (unhide HRR _ (by repeat (first | exact Kept.refl _ _ | refine Kept.drewN ?_ _ | refine Kept.drew ?_))).mono ?_; rintro e w' ⟨rfl, rfl⟩) | (go_at_call_of 12 (Value.pointer (some ⟨sb, 0, none⟩)); refine (unhide HSR _ (by repeat (first | exact Kept.refl _ _ | refine Kept.drewN ?_ _ | refine Kept.drew ?_))).mono ?_; rintro e w' ⟨rfl, rfl⟩) | (go_at_call 17; refine (unhide HSM _ (by repeat (first | exact Kept.refl _ _ | refine Kept.drewN ?_ _ | refine Kept.drew ?_))).mono ?_; rintro e w' ⟨rfl, m7, rfl⟩))
              go_cut [153] (fun t wq => ∃ W', W' = wq ∧ t = .bool false ∧ Hid (Kept [] wc W'))
              case first =>
                go_wp2_with (first | (go_at_call_of 14 (Value.pointer (some ⟨rb, 0, none⟩)); refine (unhide HRD _ (by repeat (first | exact Kept.refl _ _ | refine Kept.drewN ?_ _ | refine Kept.drew ?_))).mono ?_; rintro e w' ⟨rfl, rfl⟩) | (go_at_call_of 14 (Value.pointer (some ⟨sb, 0, none⟩)); refine (unhide HSD _ (by repeat (first | exact Kept.refl _ _ | refine Kept.drewN ?_ _ | refine Kept.drew ?_))).mono ?_; rintro e w' ⟨rfl, rfl⟩) | (go_at_call_of 12 (Value.pointer (some ⟨rb, 0, none⟩)); refine (unhide HRR _ (by repeat (first | exact Kept.refl _ _ | refine Kept.drewN ?_ _ | refine Kept.drew ?_))).mono ?_; rintro e w' ⟨rfl, rfl⟩) | (go_at_call_of 12 (Value.pointer (some ⟨sb, 0, none⟩)); refine (unhide HSR _ (by repeat (first | exact Kept.refl _ _ | refine Kept.drewN ?_ _ | refine Kept.drew ?_))).mono ?_; rintro e w' ⟨rfl, rfl⟩) | (go_at_call 17; refine (unhide HSM _ (by repeat (first | exact Kept.refl _ _ | refine Kept.drewN ?_ _ | refine Kept.drew ?_))).mono ?_; rintro e w' ⟨rfl, m7, rfl⟩))
                go_meet
                exact ⟨_, rfl, rfl, hide (by repeat (first | exact Kept.refl _ _ | refine Kept.drewN ?_ _ | refine Kept.drew ?_))⟩
              case rest =>
              obtain ⟨W', rfl, rfl, HKW'⟩ := hcut
              go_wp2_with fail
              go_ret
              refine ⟨rfl, (unhide HK8).trans ((unhide HC).1.choose_spec.choose_spec.2.2.1.trans (unhide HKW') (by simp)) (by simp)⟩
            · as_aux_lemma =>
              subst hK
              have hw8 : IntKind.i64.wrap ((D : Int) - 1) = ((D - 1 : Nat) : Int) := by have h := unhide HSK; rw [IntKind.wrap_i64]; omega
              go_upto_region 25 with (first | (go_at_call_of 14 (Value.pointer (some ⟨rb, 0, none⟩)); refine (unhide HRD _ (by repeat (first | exact Kept.refl _ _ | refine Kept.drewN ?_ _ | refine Kept.drew ?_))).mono ?_; rintro e w' ⟨rfl, rfl⟩) | (go_at_call_of 14 (Value.pointer (some ⟨sb, 0, none⟩)); refine (unhide HSD _ (by repeat (first | exact Kept.refl _ _ | refine Kept.drewN ?_ _ | refine Kept.drew ?_))).mono ?_; rintro e w' ⟨rfl, rfl⟩) | (go_at_call_of 12 (Value.pointer (some ⟨rb, 0, none⟩)); refine (unhide HRR _ (by repeat (first | exact Kept.refl _ _ | refine Kept.drewN ?_ _ | refine Kept.drew ?_))).mono ?_; rintro e w' ⟨rfl, rfl⟩) | (go_at_call_of 12 (Value.pointer (some ⟨sb, 0, none⟩)); refine (unhide HSR _ (by repeat (first | exact Kept.refl _ _ | refine Kept.drewN ?_ _ | refine Kept.drew ?_))).mono ?_; rintro e w' ⟨rfl, rfl⟩) | (go_at_call 17; refine (unhide HSM _ (by repeat (first | exact Kept.refl _ _ | refine Kept.drewN ?_ _ | refine Kept.drew ?_))).mono ?_; rintro e w' ⟨rfl, m7, rfl⟩))
              go_cut [153] (fun t wq => ∃ W', W' = wq ∧ t = .bool false ∧ Hid (Kept [] wc W'))
              case first =>
                go_wp2_with (first | (go_at_call_of 14 (Value.pointer (some ⟨rb, 0, none⟩)); refine (unhide HRD _ (by repeat (first | exact Kept.refl _ _ | refine Kept.drewN ?_ _ | refine Kept.drew ?_))).mono ?_; rintro e w' ⟨rfl, rfl⟩) | (go_at_call_of 14 (Value.pointer (some ⟨sb, 0, none⟩)); refine (unhide HSD _ (by repeat (first | exact Kept.refl _ _ | refine Kept.drewN ?_ _ | refine Kept.drew ?_))).mono ?_; rintro e w' ⟨rfl, rfl⟩) | (go_at_call_of 12 (Value.pointer (some ⟨rb, 0, none⟩)); refine (unhide HRR _ (by repeat (first | exact Kept.refl _ _ | refine Kept.drewN ?_ _ | refine Kept.drew ?_))).mono ?_; rintro e w' ⟨rfl, rfl⟩) | (go_at_call_of 12 (Value.pointer (some ⟨sb, 0, none⟩)); refine (unhide HSR _ (by repeat (first | exact Kept.refl _ _ | refine Kept.drewN ?_ _ | refine Kept.drew ?_))).mono ?_; rintro e w' ⟨rfl, rfl⟩) | (go_at_call 17; refine (unhide HSM _ (by repeat (first | exact Kept.refl _ _ | refine Kept.drewN ?_ _ | refine Kept.drew ?_))).mono ?_; rintro e w' ⟨rfl, m7, rfl⟩))
                go_meet
                exact ⟨_, rfl, rfl, hide (by repeat (first | exact Kept.refl _ _ | refine Kept.drewN ?_ _ | refine Kept.drew ?_))⟩
              case rest =>
              obtain ⟨W', rfl, rfl, HKW'⟩ := hcut
              go_wp2_with fail
              go_ret
              refine ⟨rfl, (unhide HK8).trans ((unhide HC).1.choose_spec.choose_spec.2.2.1.trans (unhide HKW') (by simp)) (by simp)⟩
            · as_aux_lemma =>
              have d1 : ((1 + (K : Int)) == 8) = false := by rw [beq_eq_false_iff_ne]; omega
              have d2 : ((1 + (K : Int)) == 9) = false := by rw [beq_eq_false_iff_ne]; omega
              go_upto_region 25 with (first | (go_at_call_of 14 (Value.pointer (some ⟨rb, 0, none⟩)); refine (unhide HRD _ (by repeat (first | exact Kept.refl _ _ | refine Kept.drewN ?_ _ | refine Kept.drew ?_))).mono ?_; rintro e w' ⟨rfl, rfl⟩) | (go_at_call_of 14 (Value.pointer (some ⟨sb, 0, none⟩)); refine (unhide HSD _ (by repeat (first | exact Kept.refl _ _ | refine Kept.drewN ?_ _ | refine Kept.drew ?_))).mono ?_; rintro e w' ⟨rfl, rfl⟩) | (go_at_call_of 12 (Value.pointer (some ⟨rb, 0, none⟩)); refine (unhide HRR _ (by repeat (first | exact Kept.refl _ _ | refine Kept.drewN ?_ _ | refine Kept.drew ?_))).mono ?_; rintro e w' ⟨rfl, rfl⟩) | (go_at_call_of 12 (Value.pointer (some ⟨sb, 0, none⟩)); refine (unhide HSR _ (by repeat (first | exact Kept.refl _ _ | refine Kept.drewN ?_ _ | refine Kept.drew ?_))).mono ?_; rintro e w' ⟨rfl, rfl⟩) | (go_at_call 17; refine (unhide HSM _ (by repeat (first | exact Kept.refl _ _ | refine Kept.drewN ?_ _ | refine Kept.drew ?_))).mono ?_; rintro e w' ⟨rfl, m7, rfl⟩))
              go_cut [153] (fun t wq => ∃ W', W' = wq ∧ t = .bool false ∧ Hid (Kept [] wc W'))
              case first =>
                go_wp2_with (first | (go_at_call_of 14 (Value.pointer (some ⟨rb, 0, none⟩)); refine (unhide HRD _ (by repeat (first | exact Kept.refl _ _ | refine Kept.drewN ?_ _ | refine Kept.drew ?_))).mono ?_; rintro e w' ⟨rfl, rfl⟩) | (go_at_call_of 14 (Value.pointer (some ⟨sb, 0, none⟩)); refine (unhide HSD _ (by repeat (first | exact Kept.refl _ _ | refine Kept.drewN ?_ _ | refine Kept.drew ?_))).mono ?_; rintro e w' ⟨rfl, rfl⟩) | (go_at_call_of 12 (Value.pointer (some ⟨rb, 0, none⟩)); refine (unhide HRR _ (by repeat (first | exact Kept.refl _ _ | refine Kept.drewN ?_ _ | refine Kept.drew ?_))).mono ?_; rintro e w' ⟨rfl, rfl⟩) | (go_at_call_of 12 (Value.pointer (some ⟨sb, 0, none⟩)); refine (unhide HSR _ (by repeat (first | exact Kept.refl _ _ | refine Kept.drewN ?_ _ | refine Kept.drew ?_))).mono ?_; rintro e w' ⟨rfl, rfl⟩) | (go_at_call 17; refine (unhide HSM _ (by repeat (first | exact Kept.refl _ _ | refine Kept.drewN ?_ _ | refine Kept.drew ?_))).mono ?_; rintro e w' ⟨rfl, m7, rfl⟩))
                go_meet
                exact ⟨_, rfl, rfl, hide (by repeat (first | exact Kept.refl _ _ | refine Kept.drewN ?_ _ | refine Kept.drew ?_))⟩
              case rest =>
              obtain ⟨W', rfl, rfl, HKW'⟩ := hcut
              go_wp2_with fail
              go_ret
              refine ⟨rfl, (unhide HK8).trans ((unhide HC).1.choose_spec.choose_spec.2.2.1.trans (unhide HKW') (by simp)) (by simp)⟩
        · rw [e1] at HRD
          rw [e2] at HSD
          rw [e3] at HRR
          rw [e4] at HSR
          subst e0
          rw [← unhide HD] at e5 e6 e7
          have HSKN : Hid (¬((K = 8 ∧ (D = 0 ∨ 0 < L)) ∨ (K = 7 ∧ D = 15))) := hide (unhide HSK)
          obtain ⟨L', hL'⟩ : ∃ L', L' = l'.length := ⟨_, rfl⟩
          rw [← hL'] at HRR HSR
          have HE5 := hide e5
          have HE6 := hide e6
          have HE7 := hide e7
          clear e1 e2 e3 e4 HSAY e5 e6 e7 hL'
          have HDc := hide (unhide HC).1
          clear HC
          rcases hc with rfl | rfl
          · rcases (by omega : K = 7 ∨ K = 8 ∨ K < 7) with hK | hK | hK
            · as_aux_lemma =>
              subst hK
              have HBE : Hid (bh'.length = D + 1 ∧ D + 1 ≤ 15) := hide ⟨unhide HE5 rfl, by have h := unhide HSKN; omega⟩
              clear HE5 HE6 HE7 HSKN
              go_upto_region 25 with (first | (go_at_call_of 14 (Value.pointer (some ⟨rb, 0, none⟩)); refine (unhide HRD _ (by repeat (first | exact Kept.refl _ _ | refine Kept.drewN ?_ _ | refine Kept.drew ?_))).mono ?_; rintro e w' ⟨rfl, rfl⟩) | (go_at_call_of 14 (Value.pointer (some ⟨sb, 0, none⟩)); refine (unhide HSD _ (by repeat (first | exact Kept.refl _ _ | refine Kept.drewN ?_ _ | refine Kept.drew ?_))).mono ?_; rintro e w' ⟨rfl, rfl⟩) | (go_at_call_of 12 (Value.pointer (some ⟨rb, 0, none⟩)); refine (unhide HRR _ (by repeat (first | exact Kept.refl _ _ | refine Kept.drewN ?_ _ | refine Kept.drew ?_))).mono ?_; rintro e w' ⟨rfl, rfl⟩) | (go_at_call_of 12 (Value.pointer (some ⟨sb, 0, none⟩)); refine (unhide HSR _ (by repeat (first | exact Kept.refl _ _ | refine Kept.drewN ?_ _ | refine Kept.drew ?_))).mono ?_; rintro e w' ⟨rfl, rfl⟩) | (go_at_call 17; refine (unhide HSM _ (by repeat (first | exact Kept.refl _ _ | refine Kept.drewN ?_ _ | refine Kept.drew ?_))).mono ?_; rintro e w' ⟨rfl, m7, rfl⟩))
              go_cut [153] (fun t wq => ∃ W', W' = wq ∧ t = .bool false ∧ Hid (Kept [] wc W'))
              case first =>
                go_wp2_with (first | (go_at_call_of 14 (Value.pointer (some ⟨rb, 0, none⟩)); refine (unhide HRD _ (by repeat (first | exact Kept.refl _ _ | refine Kept.drewN ?_ _ | refine Kept.drew ?_))).mono ?_; rintro e w' ⟨rfl, rfl⟩) | (go_at_call_of 14 (Value.pointer (some ⟨sb, 0, none⟩)); refine (unhide HSD _ (by repeat (first | exact Kept.refl _ _ | refine Kept.drewN ?_ _ | refine Kept.drew ?_))).mono ?_; rintro e w' ⟨rfl, rfl⟩) | (go_at_call_of 12 (Value.pointer (some ⟨rb, 0, none⟩)); refine (unhide HRR _ (by repeat (first | exact Kept.refl _ _ | refine Kept.drewN ?_ _ | refine Kept.drew ?_))).mono ?_; rintro e w' ⟨rfl, rfl⟩) | (go_at_call_of 12 (Value.pointer (some ⟨sb, 0, none⟩)); refine (unhide HSR _ (by repeat (first | exact Kept.refl _ _ | refine Kept.drewN ?_ _ | refine Kept.drew ?_))).mono ?_; rintro e w' ⟨rfl, rfl⟩) | (go_at_call 17; refine (unhide HSM _ (by repeat (first | exact Kept.refl _ _ | refine Kept.drewN ?_ _ | refine Kept.drew ?_))).mono ?_; rintro e w' ⟨rfl, m7, rfl⟩))
                go_meet
                exact ⟨_, rfl, rfl, hide (by repeat (first | exact Kept.refl _ _ | refine Kept.drewN ?_ _ | refine Kept.drew ?_))⟩
              case rest =>
              obtain ⟨W', rfl, rfl, HKW'⟩ := hcut
              go_wp2_with fail
              have hbl := unhide HBE
              refine ⟨⟨k + 1, l', bh', by omega, by omega, by go_num, (by congr 1; omega), hide ((unhide HDc).kept (unhide HKW'))⟩, by simp [intOf]; omega⟩
            · as_aux_lemma =>
              subst hK
              have hw8 : IntKind.i64.wrap ((D : Int) - 1) = ((D - 1 : Nat) : Int) := by have h := unhide HSK; rw [IntKind.wrap_i64]; omega
              have HBE : Hid (bh'.length + 1 = D ∧ D ≤ 15) := hide ⟨unhide HE6 rfl, hd15⟩
              clear HE5 HE6 HE7 HSKN
              go_upto_region 25 with (first | (go_at_call_of 14 (Value.pointer (some ⟨rb, 0, none⟩)); refine (unhide HRD _ (by repeat (first | exact Kept.refl _ _ | refine Kept.drewN ?_ _ | refine Kept.drew ?_))).mono ?_; rintro e w' ⟨rfl, rfl⟩) | (go_at_call_of 14 (Value.pointer (some ⟨sb, 0, none⟩)); refine (unhide HSD _ (by repeat (first | exact Kept.refl _ _ | refine Kept.drewN ?_ _ | refine Kept.drew ?_))).mono ?_; rintro e w' ⟨rfl, rfl⟩) | (go_at_call_of 12 (Value.pointer (some ⟨rb, 0, none⟩)); refine (unhide HRR _ (by repeat (first | exact Kept.refl _ _ | refine Kept.drewN ?_ _ | refine Kept.drew ?_))).mono ?_; rintro e w' ⟨rfl, rfl⟩) | (go_at_call_of 12 (Value.pointer (some ⟨sb, 0, none⟩)); refine (unhide HSR _ (by repeat (first | exact Kept.refl _ _ | refine Kept.drewN ?_ _ | refine Kept.drew ?_))).mono ?_; rintro e w' ⟨rfl, rfl⟩) | (go_at_call 17; refine (unhide HSM _ (by repeat (first | exact Kept.refl _ _ | refine Kept.drewN ?_ _ | refine Kept.drew ?_))).mono ?_; rintro e w' ⟨rfl, m7, rfl⟩))
              go_cut [153] (fun t wq => ∃ W', W' = wq ∧ t = .bool false ∧ Hid (Kept [] wc W'))
              case first =>
                go_wp2_with (first | (go_at_call_of 14 (Value.pointer (some ⟨rb, 0, none⟩)); refine (unhide HRD _ (by repeat (first | exact Kept.refl _ _ | refine Kept.drewN ?_ _ | refine Kept.drew ?_))).mono ?_; rintro e w' ⟨rfl, rfl⟩) | (go_at_call_of 14 (Value.pointer (some ⟨sb, 0, none⟩)); refine (unhide HSD _ (by repeat (first | exact Kept.refl _ _ | refine Kept.drewN ?_ _ | refine Kept.drew ?_))).mono ?_; rintro e w' ⟨rfl, rfl⟩) | (go_at_call_of 12 (Value.pointer (some ⟨rb, 0, none⟩)); refine (unhide HRR _ (by repeat (first | exact Kept.refl _ _ | refine Kept.drewN ?_ _ | refine Kept.drew ?_))).mono ?_; rintro e w' ⟨rfl, rfl⟩) | (go_at_call_of 12 (Value.pointer (some ⟨sb, 0, none⟩)); refine (unhide HSR _ (by repeat (first | exact Kept.refl _ _ | refine Kept.drewN ?_ _ | refine Kept.drew ?_))).mono ?_; rintro e w' ⟨rfl, rfl⟩) | (go_at_call 17; refine (unhide HSM _ (by repeat (first | exact Kept.refl _ _ | refine Kept.drewN ?_ _ | refine Kept.drew ?_))).mono ?_; rintro e w' ⟨rfl, m7, rfl⟩))
                go_meet
                exact ⟨_, rfl, rfl, hide (by repeat (first | exact Kept.refl _ _ | refine Kept.drewN ?_ _ | refine Kept.drew ?_))⟩
              case rest =>
              obtain ⟨W', rfl, rfl, HKW'⟩ := hcut
              go_wp2_with fail
              have hbl := unhide HBE
              refine ⟨⟨k + 1, l', bh', by omega, by omega, by go_num, (by congr 1; omega), hide ((unhide HDc).kept (unhide HKW'))⟩, by simp [intOf]; omega⟩
            · as_aux_lemma =>
              have d1 : ((1 + (K : Int)) == 8) = false := by rw [beq_eq_false_iff_ne]; omega
              have d2 : ((1 + (K : Int)) == 9) = false := by rw [beq_eq_false_iff_ne]; omega
              have HBE : Hid (bh'.length = D ∧ D ≤ 15) := hide ⟨unhide HE7 hK, hd15⟩
              clear HE5 HE6 HE7 HSKN
              go_upto_region 25 with (first | (go_at_call_of 14 (Value.pointer (some ⟨rb, 0, none⟩)); refine (unhide HRD _ (by repeat (first | exact Kept.refl _ _ | refine Kept.drewN ?_ _ | refine Kept.drew ?_))).mono ?_; rintro e w' ⟨rfl, rfl⟩) | (go_at_call_of 14 (Value.pointer (some ⟨sb, 0, none⟩)); refine (unhide HSD _ (by repeat (first | exact Kept.refl _ _ | refine Kept.drewN ?_ _ | refine Kept.drew ?_))).mono ?_; rintro e w' ⟨rfl, rfl⟩) | (go_at_call_of 12 (Value.pointer (some ⟨rb, 0, none⟩)); refine (unhide HRR _ (by repeat (first | exact Kept.refl _ _ | refine Kept.drewN ?_ _ | refine Kept.drew ?_))).mono ?_; rintro e w' ⟨rfl, rfl⟩) | (go_at_call_of 12 (Value.pointer (some ⟨sb, 0, none⟩)); refine (unhide HSR _ (by repeat (first | exact Kept.refl _ _ | refine Kept.drewN ?_ _ | refine Kept.drew ?_))).mono ?_; rintro e w' ⟨rfl, rfl⟩) | (go_at_call 17; refine (unhide HSM _ (by repeat (first | exact Kept.refl _ _ | refine Kept.drewN ?_ _ | refine Kept.drew ?_))).mono ?_; rintro e w' ⟨rfl, m7, rfl⟩))
              go_cut [153] (fun t wq => ∃ W', W' = wq ∧ t = .bool false ∧ Hid (Kept [] wc W'))
              case first =>
                go_wp2_with (first | (go_at_call_of 14 (Value.pointer (some ⟨rb, 0, none⟩)); refine (unhide HRD _ (by repeat (first | exact Kept.refl _ _ | refine Kept.drewN ?_ _ | refine Kept.drew ?_))).mono ?_; rintro e w' ⟨rfl, rfl⟩) | (go_at_call_of 14 (Value.pointer (some ⟨sb, 0, none⟩)); refine (unhide HSD _ (by repeat (first | exact Kept.refl _ _ | refine Kept.drewN ?_ _ | refine Kept.drew ?_))).mono ?_; rintro e w' ⟨rfl, rfl⟩) | (go_at_call_of 12 (Value.pointer (some ⟨rb, 0, none⟩)); refine (unhide HRR _ (by repeat (first | exact Kept.refl _ _ | refine Kept.drewN ?_ _ | refine Kept.drew ?_))).mono ?_; rintro e w' ⟨rfl, rfl⟩) | (go_at_call_of 12 (Value.pointer (some ⟨sb, 0, none⟩)); refine (unhide HSR _ (by repeat (first | exact Kept.refl _ _ | refine Kept.drewN ?_ _ | refine Kept.drew ?_))).mono ?_; rintro e w' ⟨rfl, rfl⟩) | (go_at_call 17; refine (unhide HSM _ (by repeat (first | exact Kept.refl _ _ | refine Kept.drewN ?_ _ | refine Kept.drew ?_))).mono ?_; rintro e w' ⟨rfl, m7, rfl⟩))
                go_meet
                exact ⟨_, rfl, rfl, hide (by repeat (first | exact Kept.refl _ _ | refine Kept.drewN ?_ _ | refine Kept.drew ?_))⟩
              case rest =>
              obtain ⟨W', rfl, rfl, HKW'⟩ := hcut
              go_wp2_with fail
              have hbl := unhide HBE
              refine ⟨⟨k + 1, l', bh', by omega, by omega, by go_num, (by congr 1; omega), hide ((unhide HDc).kept (unhide HKW'))⟩, by simp [intOf]; omega⟩
          · rcases (by omega : K = 7 ∨ K = 8 ∨ K < 7) with hK | hK | hK
            · as_aux_lemma =>
              subst hK
              have HBE : Hid (bh'.length = D + 1 ∧ D + 1 ≤ 15) := hide ⟨unhide HE5 rfl, by have h := unhide HSKN; omega⟩
              clear HE5 HE6 HE7 HSKN
              go_upto_region 25 with (first | (go_at_call_of 14 (Value.pointer (some ⟨rb, 0, none⟩)); refine (unhide HRD _ (by repeat (first | exact Kept.refl _ _ | refine Kept.drewN ?_ _ | refine Kept.drew ?_))).mono ?_; rintro e w' ⟨rfl, rfl⟩) | (go_at_call_of 14 (Value.pointer (some ⟨sb, 0, none⟩)); refine (unhide HSD _ (by repeat (first | exact Kept.refl _ _ | refine Kept.drewN ?_ _ | refine Kept.drew ?_))).mono ?_; rintro e w' ⟨rfl, rfl⟩) | (go_at_call_of 12 (Value.pointer (some ⟨rb, 0, none⟩)); refine (unhide HRR _ (by repeat (first | exact Kept.refl _ _ | refine Kept.drewN ?_ _ | refine Kept.drew ?_))).mono ?_; rintro e w' ⟨rfl, rfl⟩) | (go_at_call_of 12 (Value.pointer (some ⟨sb, 0, none⟩)); refine (unhide HSR _ (by repeat (first | exact Kept.refl _ _ | refine Kept.drewN ?_ _ | refine Kept.drew ?_))).mono ?_; rintro e w' ⟨rfl, rfl⟩) | (go_at_call 17; refine (unhide HSM _ (by repeat (first | exact Kept.refl _ _ | refine Kept.drewN ?_ _ | refine Kept.drew ?_))).mono ?_; rintro e w' ⟨rfl, m7, rfl⟩))
              go_cut [153] (fun t wq => ∃ W', W' = wq ∧ t = .bool false ∧ Hid (Kept [] wc W'))
              case first =>
                go_wp2_with (first | (go_at_call_of 14 (Value.pointer (some ⟨rb, 0, none⟩)); refine (unhide HRD _ (by repeat (first | exact Kept.refl _ _ | refine Kept.drewN ?_ _ | refine Kept.drew ?_))).mono ?_; rintro e w' ⟨rfl, rfl⟩) | (go_at_call_of 14 (Value.pointer (some ⟨sb, 0, none⟩)); refine (unhide HSD _ (by repeat (first | exact Kept.refl _ _ | refine Kept.drewN ?_ _ | refine Kept.drew ?_))).mono ?_; rintro e w' ⟨rfl, rfl⟩) | (go_at_call_of 12 (Value.pointer (some ⟨rb, 0, none⟩)); refine (unhide HRR _ (by repeat (first | exact Kept.refl _ _ | refine Kept.drewN ?_ _ | refine Kept.drew ?_))).mono ?_; rintro e w' ⟨rfl, rfl⟩) | (go_at_call_of 12 (Value.pointer (some ⟨sb, 0, none⟩)); refine (unhide HSR _ (by repeat (first | exact Kept.refl _ _ | refine Kept.drewN ?_ _ | refine Kept.drew ?_))).mono ?_; rintro e w' ⟨rfl, rfl⟩) | (go_at_call 17; refine (unhide HSM _ (by repeat (first | exact Kept.refl _ _ | refine Kept.drewN ?_ _ | refine Kept.drew ?_))).mono ?_; rintro e w' ⟨rfl, m7, rfl⟩))
                go_meet
                exact ⟨_, rfl, rfl, hide (by repeat (first | exact Kept.refl _ _ | refine Kept.drewN ?_ _ | refine Kept.drew ?_))⟩
              case rest =>
              obtain ⟨W', rfl, rfl, HKW'⟩ := hcut
              go_wp2_with fail
              have hbl := unhide HBE
              refine ⟨⟨k + 1, l', bh', by omega, by omega, by go_num, (by congr 1; omega), hide ((unhide HDc).kept (unhide HKW'))⟩, by simp [intOf]; omega⟩
            · as_aux_lemma =>
              subst hK
              have hw8 : IntKind.i64.wrap ((D : Int) - 1) = ((D - 1 : Nat) : Int) := by have h := unhide HSK; rw [IntKind.wrap_i64]; omega
              have HBE : Hid (bh'.length + 1 = D ∧ D ≤ 15) := hide ⟨unhide HE6 rfl, hd15⟩
              clear HE5 HE6 HE7 HSKN
              go_upto_region 25 with (first | (go_at_call_of 14 (Value.pointer (some ⟨rb, 0, none⟩)); refine (unhide HRD _ (by repeat (first | exact Kept.refl _ _ | refine Kept.drewN ?_ _ | refine Kept.drew ?_))).mono ?_; rintro e w' ⟨rfl, rfl⟩) | (go_at_call_of 14 (Value.pointer (some ⟨sb, 0, none⟩)); refine (unhide HSD _ (by repeat (first | exact Kept.refl _ _ | refine Kept.drewN ?_ _ | refine Kept.drew ?_))).mono ?_; rintro e w' ⟨rfl, rfl⟩) | (go_at_call_of 12 (Value.pointer (some ⟨rb, 0, none⟩)); refine (unhide HRR _ (by repeat (first | exact Kept.refl _ _ | refine Kept.drewN ?_ _ | refine Kept.drew ?_))).mono ?_; rintro e w' ⟨rfl, rfl⟩) | (go_at_call_of 12 (Value.pointer (some ⟨sb, 0, none⟩)); refine (unhide HSR _ (by repeat (first | exact Kept.refl _ _ | refine Kept.drewN ?_ _ | refine Kept.drew ?_))).mono ?_; rintro e w' ⟨rfl, rfl⟩) | (go_at_call 17; refine (unhide HSM _ (by repeat (first | exact Kept.refl _ _ | refine Kept.drewN ?_ _ | refine Kept.drew ?_))).mono ?_; rintro e w' ⟨rfl, m7, rfl⟩))
              go_cut [153] (fun t wq => ∃ W', W' = wq ∧ t = .bool false ∧ Hid (Kept [] wc W'))
              case first =>
                go_wp2_with (first | (go_at_call_of 14 (Value.pointer (some ⟨rb, 0, none⟩)); refine (unhide HRD _ (by repeat (first | exact Kept.refl _ _ | refine Kept.drewN ?_ _ | refine Kept.drew ?_))).mono ?_; rintro e w' ⟨rfl, rfl⟩) | (go_at_call_of 14 (Value.pointer (some ⟨sb, 0, none⟩)); refine (unhide HSD _ (by repeat (first | exact Kept.refl _ _ | refine Kept.drewN ?_ _ | refine Kept.drew ?_))).mono ?_; rintro e w' ⟨rfl, rfl⟩) | (go_at_call_of 12 (Value.pointer (some ⟨rb, 0, none⟩)); refine (unhide HRR _ (by repeat (first | exact Kept.refl _ _ | refine Kept.drewN ?_ _ | refine Kept.drew ?_))).mono ?_; rintro e w' ⟨rfl, rfl⟩) | (go_at_call_of 12 (Value.pointer (some ⟨sb, 0, none⟩)); refine (unhide HSR _ (by repeat (first | exact Kept.refl _ _ | refine Kept.drewN ?_ _ | refine Kept.drew ?_))).mono ?_; rintro e w' ⟨rfl, rfl⟩) | (go_at_call 17; refine (unhide HSM _ (by repeat (first | exact Kept.refl _ _ | refine Kept.drewN ?_ _ | refine Kept.drew ?_))).mono ?_; rintro e w' ⟨rfl, m7, rfl⟩))
                go_meet
                exact ⟨_, rfl, rfl, hide (by repeat (first | exact Kept.refl _ _ | refine Kept.drewN ?_ _ | refine Kept.drew ?_))⟩
              case rest =>
              obtain ⟨W', rfl, rfl, HKW'⟩ := hcut
              go_wp2_with fail
              have hbl := unhide HBE
              refine ⟨⟨k + 1, l', bh', by omega, by omega, by go_num, (by congr 1; omega), hide ((unhide HDc).kept (unhide HKW'))⟩, by simp [intOf]; omega⟩
            · as_aux_lemma =>
              have d1 : ((1 + (K : Int)) == 8) = false := by rw [beq_eq_false_iff_ne]; omega
              have d2 : ((1 + (K : Int)) == 9) = false := by rw [beq_eq_false_iff_ne]; omega
              have HBE : Hid (bh'.length = D ∧ D ≤ 15) := hide ⟨unhide HE7 hK, hd15⟩
              clear HE5 HE6 HE7 HSKN
              go_upto_region 25 with (first | (go_at_call_of 14 (Value.pointer (some ⟨rb, 0, none⟩)); refine (unhide HRD _ (by repeat (first | exact Kept.refl _ _ | refine Kept.drewN ?_ _ | refine Kept.drew ?_))).mono ?_; rintro e w' ⟨rfl, rfl⟩) | (go_at_call_of 14 (Value.pointer (some ⟨sb, 0, none⟩)); refine (unhide HSD _ (by repeat (first | exact Kept.refl _ _ | refine Kept.drewN ?_ _ | refine Kept.drew ?_))).mono ?_; rintro e w' ⟨rfl, rfl⟩) | (go_at_call_of 12 (Value.pointer (some ⟨rb, 0, none⟩)); refine (unhide HRR _ (by repeat (first | exact Kept.refl _ _ | refine Kept.drewN ?_ _ | refine Kept.drew ?_))).mono ?_; rintro e w' ⟨rfl, rfl⟩) | (go_at_call_of 12 (Value.pointer (some ⟨sb, 0, none⟩)); refine (unhide HSR _ (by repeat (first | exact Kept.refl _ _ | refine Kept.drewN ?_ _ | refine Kept.drew ?_))).mono ?_; rintro e w' ⟨rfl, rfl⟩) | (go_at_call 17; refine (unhide HSM _ (by repeat (first | exact Kept.refl _ _ | refine Kept.drewN ?_ _ | refine Kept.drew ?_))).mono ?_; rintro e w' ⟨rfl, m7, rfl⟩))
              go_cut [153] (fun t wq => ∃ W', W' = wq ∧ t = .bool false ∧ Hid (Kept [] wc W'))
              case first =>
                go_wp2_with (first | (go_at_call_of 14 (Value.pointer (some ⟨rb, 0, none⟩)); refine (unhide HRD _ (by repeat (first | exact Kept.refl _ _ | refine Kept.drewN ?_ _ | refine Kept.drew ?_))).mono ?_; rintro e w' ⟨rfl, rfl⟩) | (go_at_call_of 14 (Value.pointer (some ⟨sb, 0, none⟩)); refine (unhide HSD _ (by repeat (first | exact Kept.refl _ _ | refine Kept.drewN ?_ _ | refine Kept.drew ?_))).mono ?_; rintro e w' ⟨rfl, rfl⟩) | (go_at_call_of 12 (Value.pointer (some ⟨rb, 0, none⟩)); refine (unhide HRR _ (by repeat (first | exact Kept.refl _ _ | refine Kept.drewN ?_ _ | refine Kept.drew ?_))).mono ?_; rintro e w' ⟨rfl, rfl⟩) | (go_at_call_of 12 (Value.pointer (some ⟨sb, 0, none⟩)); refine (unhide HSR _ (by repeat (first | exact Kept.refl _ _ | refine Kept.drewN ?_ _ | refine Kept.drew ?_))).mono ?_; rintro e w' ⟨rfl, rfl⟩) | (go_at_call 17; refine (unhide HSM _ (by repeat (first | exact Kept.refl _ _ | refine Kept.drewN ?_ _ | refine Kept.drew ?_))).mono ?_; rintro e w' ⟨rfl, m7, rfl⟩))
                go_meet
                exact ⟨_, rfl, rfl, hide (by repeat (first | exact Kept.refl _ _ | refine Kept.drewN ?_ _ | refine Kept.drew ?_))⟩
              case rest =>
              obtain ⟨W', rfl, rfl, HKW'⟩ := hcut
              go_wp2_with fail
              have hbl := unhide HBE
              refine ⟨⟨k + 1, l', bh', by omega, by omega, by go_num, (by congr 1; omega), hide ((unhide HDc).kept (unhide HKW'))⟩, by simp [intOf]; omega⟩
    · have hlen : ((k : Int) < (os.length : Int)) = False := by simp; omega
      clear HO
      by_cases hD0 : D = 0
      · by_cases hL0 : L = 0
        · as_aux_lemma =>
          have hbh : bh = [] := List.eq_nil_of_length_eq_zero (by rw [← unhide HD]; exact hD0)
          have hl0 : l = [] := List.eq_nil_of_length_eq_zero (by rw [← unhide HL]; exact hL0)
          subst hD0 hL0
          have HDU : Hid (Duo w8 rb ⟨0, [], [B]⟩ sb ⟨0, [], []⟩ wr) := hide (by have h := unhide HI; rw [hbh, hl0, lift_ok] at h; exact h)
          clear HI HXX hbh hl0 HD HL HLB
          obtain ⟨F, G, o1, o2, o3, o4, o5, o6⟩ := unhide HDU
          have HXX := hide (And.intro o1 (And.intro o2 (And.intro o3 (And.intro o4 (And.intro o5 o6)))))
          have HLV := hide (rleave_s o1)
          have elv : rLeave ⟨0, [], [B]⟩ = ⟨0, B, []⟩ := by simp [rLeave]
          rw [elv] at HLV
          clear o1 o2 o3 o4 o5 o6 elv HDU
          go_upto_region 29 with fail
          clear hlen hlt
          go_upto_region 31 with (first | (go_at_call 12; refine (unhide HRS).mono ?_; rintro e w' ⟨rfl, rfl⟩))
          go_upto_region 32 with (first | (go_at_call 22; refine (unhide HLV).mono ?_; rintro e w21 ⟨rfl, hp21⟩))
          have HD21 := hide (Duo.left (unhide HXX) hp21)
          clear hp21 HXX HLV HRS
          obtain ⟨F', o1, o2, o3, o4, o5, o6⟩ := unhide HD21
          have HXX := hide (And.intro o1 (And.intro o2 (And.intro o3 (And.intro o4 (And.intro o5 o6)))))
          have HR1 := hide (rrest_s o1)
          have er : rRest ⟨0, B, []⟩ = BL := by rw [unhide HBL, rRest, if_neg (by simp)]
          rw [er] at HR1
          have HRW := hide (rraw_s o1 (BL : Nat) (by omega))
          have ew : rRaw ⟨0, B, []⟩ (BL : Nat) = (⟨0, [], []⟩, B) := by
            have := unhide HBL
            subst this
            have h0 : ¬ ((B.length : Int) < 0) := by omega
            simp [rRaw, h0]
          rw [ew] at HRW
          clear o1 o2 o3 o4 o5 o6 er ew HD21
          go_upto_region 33 with (first | (go_at_call 12; refine (unhide HR1).mono ?_; rintro e w' ⟨rfl, rfl⟩))
          go_upto_region 34 with (first | (go_at_call 23; refine (unhide HRW).mono ?_; rintro e w22 ⟨⟨pa', pc', rfl, ho22⟩, hp22⟩))
          have HD22 := hide (Duo.left (unhide HXX) hp22)
          have hs22 := Sees.of_own ho22
          have HS22 := hide hs22
          clear ho22 hp22 HXX hs22 HRW HR1
          obtain ⟨F'', o1, o2, o3, o4, o5, o6⟩ := unhide HD22
          have HDN : Hid (∀ W, Kept [] w22 W → Calls Try.prog 14 #[.pointer (some ⟨rb, 0, none⟩)] W fun e w' => e = .returned (.int .i64 0) ∧ W = w') := hide fun W kW => by
            have h := rdone_s (o1.kept kW (by simp))
            rw [show rDone ⟨0, [], []⟩ = 0 from by simp [rDone]] at h
            exact h
          have HK22 := hide ((unhide HK8).trans o3 (by simp))
          have HSM := hide (same_yesE (unhide HS22) ((unhide HP1).kept (unhide HK22)) (by have := unhide HBL; omega))
          rw [← unhide HBL] at HSM ⊢
          clear o1 o2 o3 o4 o5 o6
          go_wp2_with (first | (go_at_call 17; refine (unhide HSM).mono ?_; rintro e w' ⟨rfl, m7, rfl⟩) | (go_at_call 14; refine (unhide HDN _ (by repeat (first | exact Kept.refl _ _ | refine Kept.drewN ?_ _ | refine Kept.drew ?_))).mono ?_; rintro e w' ⟨rfl, rfl⟩))
          go_ret
          exact ⟨rfl, (unhide HK22).trans (show Kept [] w22 _ from by repeat (first | exact Kept.refl _ _ | refine Kept.drewN ?_ _ | refine Kept.drew ?_)) (by simp)⟩
        · have d2 : decide (0 < L) = true := by simp; omega
          subst hD0
          go_upto_region 29 with fail
          clear hlen hlt
          go_wp2_with (first | (go_at_call 12; refine (unhide HRS).mono ?_; rintro e w' ⟨rfl, rfl⟩))
          go_ret
          exact ⟨rfl, unhide HKr⟩
      · have d1 : decide (0 < D) = true := by simp; omega
        go_upto_region 29 with fail
        clear hlen hlt
        go_wp2_with fail
        go_ret
        exact ⟨rfl, unhide HKr⟩
end Go.Proofs.Ytiabhgkndejigab
