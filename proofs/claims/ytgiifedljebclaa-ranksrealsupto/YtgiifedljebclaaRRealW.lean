/- RanksReals. -/
import Derived.Test.YtgiifedljebclaaDPut
import Derived.Test.YtgiifedljebclaaDHanA
import Derived.Test.YtgiifedljebclaaDStep
import Derived.Test.YtgiifedljebclaaRFloL
import Derived.Test.YtgiifedljebclaaRSee
import Derived.Test.YtgiifedljebclaaRLaw
import Derived.BigRegion
import Derived.Deep.DeepCutAuto
import Derived.Deep.RegionHeld3
namespace Go.Proofs.Ytgiifedljebclaa.flo
open Go.RowKit ref

theorem box3 {W : World} {b : Nat} {x y z : Value} {t : TypeId} (h : Blk W b #[x, y, z] t) : W.cell? ⟨b, 0, none⟩ = some x ∧ W.cell? ⟨b, 1, none⟩ = some y ∧ W.cell? ⟨b, 2, none⟩ = some z := ⟨h.cell 0, h.cell 1, h.cell 2⟩
set_option maxRecDepth 100000 in
set_option maxHeartbeats 16000000 in
theorem ranksReals_any {w : World} {vv sv : Value} {vs : List Nat} (hvs : SeesX (fun x : Nat => .int .u64 (x : Int)) 0 w vv vs) (hvl : vs.length ≤ 1048576) (inverse other : Int) {os : List Opr} (hos : Ops w sv os) : Calls Try.prog 4 #[.int .i64 inverse, .int .i64 other, vv, sv] w fun e w' => e = .returned (.bool true) ∧ Kept [] w w' := by
  have HF := kfb
  obtain ⟨L, hL⟩ : ∃ L, vs.length = L := ⟨_, rfl⟩
  obtain ⟨val, hval⟩ : ∃ val : Nat → Nat, val = fun i => vs.getD i 0 := ⟨_, rfl⟩
  obtain ⟨code, hcode⟩ : ∃ code : Nat → Int, code = fun i => codeOf L val i L := ⟨_, rfl⟩
  have HN1 := fun W => hide (new_h val (w := W) inverse)
  have HN2 := fun W => hide (new_h val (w := W) other)
  have HM1 := fun W => hide (rnew_h code (w := W) inverse)
  have HM2 := fun W => hide (rnew_h code (w := W) other)
  obtain ⟨va, vc, rfl, -⟩ := id hvs
  obtain ⟨sa, sc, rfl, hsl, -⟩ := id hos
  obtain ⟨M, hM⟩ : ∃ M, os.length = M := ⟨_, rfl⟩
  have HOS := hide hos
  rw [hM] at hsl HOS ⊢
  have HM := hide hM
  clear hos hM
  rw [hL] at hvl ⊢
  have HVS := hide hvs
  have HL := hide hL
  have HVAL := hide hval
  have HCODE := hide hcode
  clear hvs hL hval hcode
  go_enter Try.func4, Try.ntmps4
  go_wp2_with (first
    | (go_at_call 23; refine (unhide (HN1 _)).mono ?_; rintro e w1 ⟨p1, F1, rfl, h1, k1, f1, n1⟩; have H1 := hide (And.intro h1 (And.intro k1 (And.intro f1 n1))); clear h1 k1 f1 n1 HN1)
    | (go_at_call 23; refine (unhide (HN2 _)).mono ?_; rintro e w2 ⟨p2, F2, rfl, h2, k2, f2, n2⟩; have H2 := hide (And.intro h2 (And.intro k2 (And.intro f2 n2))); clear h2 k2 f2 n2)
    | (go_at_call 10; refine (unhide (HM1 _)).mono ?_; rintro e w3 ⟨p3, F3, rfl, h3, k3, f3, n3⟩; have H3 := hide (And.intro h3 (And.intro k3 (And.intro f3 n3))); clear h3 k3 f3 n3 HM1)
    | (go_at_call 10; refine (unhide (HM2 _)).mono ?_; rintro e w4 ⟨p4, F4, rfl, h4, k4, f4, n4⟩; have H4 := hide (And.intro h4 (And.intro k4 (And.intro f4 n4))); clear h4 k4 f4 n4))
  have HW5 := hide (show Kept [] (w4.alloc (.cells #[.pointer p3, .pointer p4, .pointer none] 25)) (w4.alloc (.cells #[.pointer p3, .pointer p4, .pointer none] 25)) from Kept.refl _ _)
  have hlB : Blk (w4.alloc (.cells #[.pointer p3, .pointer p4, .pointer none] 25)) w2.heap.size #[.pointer p1, .pointer p2, .pointer none] 45 := (((Blk.new w2 _ _).kept (unhide H3).2.1 (by simp)).kept (unhide H4).2.1 (by simp)).alloc _
  have hmB : Blk (w4.alloc (.cells #[.pointer p3, .pointer p4, .pointer none] 25)) w4.heap.size #[.pointer p3, .pointer p4, .pointer none] 25 := Blk.new w4 _ _
  have e13 : p1 = none ↔ p3 = none := (unhide H1).2.2.2.trans (unhide H3).2.2.2.symm
  have e24 : p2 = none ↔ p4 = none := (unhide H2).2.2.2.trans (unhide H4).2.2.2.symm
  obtain ⟨lB, hlBe⟩ : ∃ lB, lB = w2.heap.size := ⟨_, rfl⟩
  obtain ⟨mB, hmBe⟩ : ∃ mB, mB = w4.heap.size := ⟨_, rfl⟩
  obtain ⟨W5, hW5⟩ : ∃ W5, W5 = (w4.alloc (.cells #[.pointer p3, .pointer p4, .pointer none] 25)) := ⟨_, rfl⟩
  rw [← hlBe] at hlB ⊢
  rw [← hmBe] at hmB ⊢
  rw [← hW5] at hlB hmB ⊢
  have HLB := hide hlB
  have HMB := hide hmB
  have HE13 := hide e13
  have HE24 := hide e24
  have HLE := hide hlBe
  have HME := hide hmBe
  have HWE := hide hW5
  clear hlB hmB e13 e24 hlBe hmBe hW5 HW5 HN2 HM2
  go_cut [71] (fun t wc => t = .bool false ∧ Hid (Kept [] W5 wc))
  case first =>
    obtain ⟨c0, c1, c2⟩ := box3 (unhide HLB)
    obtain ⟨d0, d1, d2⟩ := box3 (unhide HMB)
    have e13 := unhide HE13
    have e24 := unhide HE24
    clear HLB HMB HE13 HE24 HLE HME HWE H1 H2 H3 H4
    by_cases z1 : p1 = none
    · have z3 := e13.1 z1
      subst z1 z3
      by_cases z2 : p2 = none
      · as_aux_lemma =>
          have z4 := e24.1 z2
          subst z2 z4
          clear e13 e24
          go_region
          all_goals
            go_wp2
            go_meet
            exact ⟨rfl, hide (Kept.refl [] W5).drew⟩
      · as_aux_lemma =>
          obtain ⟨q2, rfl⟩ := Option.ne_none_iff_exists'.1 z2
          obtain ⟨q4, rfl⟩ := Option.ne_none_iff_exists'.1 (fun z => z2 (e24.2 z))
          clear e13 e24 z2
          go_region
          all_goals
            go_wp2
            go_meet
            exact ⟨rfl, hide (Kept.refl [] W5).drew⟩
    · obtain ⟨q1, rfl⟩ := Option.ne_none_iff_exists'.1 z1
      obtain ⟨q3, rfl⟩ := Option.ne_none_iff_exists'.1 (fun z => z1 (e13.2 z))
      by_cases z2 : p2 = none
      · as_aux_lemma =>
          have z4 := e24.1 z2
          subst z2 z4
          clear e13 e24 z1
          go_region
          all_goals
            go_wp2
            go_meet
            exact ⟨rfl, hide (Kept.refl [] W5).drew⟩
      · as_aux_lemma =>
          obtain ⟨q2, rfl⟩ := Option.ne_none_iff_exists'.1 z2
          obtain ⟨q4, rfl⟩ := Option.ne_none_iff_exists'.1 (fun z => z2 (e24.2 z))
          clear e13 e24 z1 z2
          go_region
          all_goals
            go_wp2
            go_meet
            exact ⟨rfl, hide (Kept.refl [] W5).drew⟩
  case rest =>
    obtain ⟨rfl, HK5⟩ := hcut
    go_wp2_with (first | (at_make; refine wpList_make_ints _ rfl _ _ rfl L hvl rfl rfl ?_))
    have HK6 : Hid (Kept [] W5 (wc.alloc (.cells (ints (List.replicate L 0)).toArray 3))) := (unhide HK5).alloc _
    have HC6 : Hid (Blk (wc.alloc (.cells (ints (List.replicate L 0)).toArray 3)) wc.heap.size (ints (cl L code 0 0)).toArray 3) := by rw [← cl_zero]; exact Blk.new _ _ _
    have hcs : W5.heap.size ≤ wc.heap.size := (unhide HK5).size
    have HKW : Hid (Kept [] w W5) := by
      rw [unhide HWE]
      exact ((((unhide H1).2.1.step (unhide H2).2.1).alloc _).step ((unhide H3).2.1.step (unhide H4).2.1)).alloc _
    have hs5 : w4.heap.size + 1 ≤ W5.heap.size := by rw [unhide HWE]; simp
    obtain ⟨cB, hcB⟩ : ∃ cB, wc.heap.size = cB := ⟨_, rfl⟩
    rw [hcB] at HC6 hcs ⊢
    refine world_at (R := fun X => Kept [] W5 X ∧ Blk X cB (ints (cl L code 0 0)).toArray 3) ⟨unhide HK6, unhide HC6⟩ ?_
    clear HK6 HC6 HK5 hcB
    clear wc
    rintro W6 ⟨hk6, hb6⟩
    have HK6 := hide hk6
    have HB6 := hide hb6
    clear hk6 hb6
    have HVS2 : Hid (SeesX (fun x : Nat => .int .u64 (x : Int)) 0 w (.slice va L vc) vs) := by have := unhide HVS; rw [unhide HL] at this; exact this
    clear HVS
    go_loopw [14] (fun a wr => ∃ i : Nat, i ≤ L ∧ a = .int .i64 (i : Int) ∧ Kept [] W5 wr ∧ Blk wr cB (ints (cl L code i 0)).toArray 3) (fun a _ => L - (intOf a).toNat)
    case atStart => exact ⟨0, by omega, rfl, unhide HK6, unhide HB6⟩
    case round =>
      obtain ⟨i, hi, rfl, hki, hbi⟩ := hrel
      by_cases hiL : i < L
      · have HKI := hide hki
        have HBI := hide hbi
        clear hki hbi
        go_wp2_with fail
        go_loopw [15] (fun a wr => ∃ k : Nat, k ≤ L ∧ a = .int .i64 (k : Int) ∧ Kept [] W5 wr ∧ Blk wr cB (ints (cl L code i (codeOf L val i k))).toArray 3) (fun a _ => L - (intOf a).toNat)
        case atStart => exact ⟨0, by omega, rfl, unhide HKI, unhide HBI⟩
        case round =>
          obtain ⟨k, hk, rfl, hkk, hbk⟩ := hrel
          by_cases hkL : k < L
          · obtain ⟨va', vc', hv', hall⟩ := (unhide HVS2).kept ((unhide HKW).step hkk)
            rw [unhide HL] at hv'
            cases hv'
            obtain ⟨b1, o1, ha1, c1⟩ := at_x (f := fun x : Nat => .int .u64 (x : Int)) (z := 0) (unhide HL) hall hkL
            obtain ⟨b2, o2, ha2, c2⟩ := at_x (f := fun x : Nat => .int .u64 (x : Int)) (z := 0) (unhide HL) hall hiL
            rw [ha1] at ha2
            cases ha2
            subst ha1
            have hcd := codeOf_nn L val i k
            have HCN : Hid (codeOf L val i (k + 1) = if gtV (val i) (val k) = true then codeOf L val i k + 1 else codeOf L val i k) := rfl
            rw [show vs.getD k 0 = val k by rw [unhide HVAL]] at c1
            rw [show vs.getD i 0 = val i by rw [unhide HVAL]] at c2
            have HSET := hide (hbk.set i (.int .i64 (codeOf L val i k + 1)))
            have d0 : wr.cell? ⟨cB, i, none⟩ = some (.int .i64 (codeOf L val i k)) := (hbk.cell i).trans (cl_at L code hiL _)
            have f0 := hbk.frozen i
            have hbl := hbk.lt
            have HKK := hide hkk
            have HBK := hide hbk
            clear hkk hbk hall
            have hkI : (k : Int) < (L : Int) := by omega
            have hiI : (i : Int) < (L : Int) := by omega
            have hcd2 := hcd.2
            have hcd1 := hcd.1
            clear hcd
            generalize codeOf L val i k = c at *
            generalize val k = vk at *
            generalize val i = vi at *
            by_cases hlt : gtV vi vk = true
            · as_aux_lemma =>
                have HSO : ∀ W, Hid (Calls Try.prog 24 #[.int .u64 (vk : Int), .int .u64 (vi : Int)] W fun e w' => e = .returned (.bool true) ∧ w' = W) := fun W => by have := sooner_any (w := W) vk vi; rw [hlt] at this; exact hide this
                rw [if_pos hlt] at HCN
                go_wp2_with fail
                go_region_held3 (fun w' => w'.cell? ⟨b1, o1 + k, none⟩ = some (.int .u64 (vk : Int)) ∧ w'.cell? ⟨b1, o1 + i, none⟩ = some (.int .u64 (vi : Int))) (go_keep) (first | (go_at_call 24; refine (unhide (HSO _)).mono ?_; rintro e wz ⟨rfl, hq⟩; have hq2 := hq.symm; subst hq2; clear hq))
                all_goals
                  go_wp2
                  refine ⟨⟨k + 1, by omega, by simp, ?_, ?_⟩, by simp [intOf]; omega⟩
                  · exact ((unhide HKK).setCell (Or.inr hcs) _).drew
                  · rw [unhide HCN]
                    have := unhide HSET
                    rw [List.setIfInBounds_toArray] at this
                    unfold ints at this ⊢
                    rw [← cl_set L code hiL c (c + 1), List.map_set]
                    exact this
            · as_aux_lemma =>
                have HSO : ∀ W, Hid (Calls Try.prog 24 #[.int .u64 (vk : Int), .int .u64 (vi : Int)] W fun e w' => e = .returned (.bool false) ∧ w' = W) := fun W => by have := sooner_any (w := W) vk vi; rw [show gtV vi vk = false from by cases h : gtV vi vk with | false => rfl | true => exact absurd h hlt] at this; exact hide this
                rw [if_neg hlt] at HCN
                go_wp2_with fail
                go_region_held3 (fun w' => w'.cell? ⟨b1, o1 + k, none⟩ = some (.int .u64 (vk : Int)) ∧ w'.cell? ⟨b1, o1 + i, none⟩ = some (.int .u64 (vi : Int))) (go_keep) (first | (go_at_call 24; refine (unhide (HSO _)).mono ?_; rintro e wz ⟨rfl, hq⟩; have hq2 := hq.symm; subst hq2; clear hq))
                all_goals
                  go_wp2
                  refine ⟨⟨k + 1, by omega, by simp, (unhide HKK).drew, by rw [unhide HCN]; exact unhide HBK⟩, by simp [intOf]; omega⟩
          · obtain rfl : k = L := by omega
            have HKK := hide hkk
            have HBK := hide hbk
            clear hkk hbk
            go_wp2_with fail
            refine ⟨⟨i + 1, by omega, by simp, unhide HKK, ?_⟩, by simp [intOf]; omega⟩
            rw [← cl_next]
            have := unhide HBK
            rw [show codeOf k val i k = code i by rw [unhide HCODE]] at this
            exact this
      · obtain rfl : i = L := by omega
        have HKI := hide hki
        rw [cl_all] at hbi
        have HBI := hide hbi
        clear hki hbi
        go_wp2_with fail
        have hO : Ord i val code := by rw [unhide HCODE]; exact code_ord i val
        have HO := hide hO
        have HST := hide (RSt.start (L := i) (val := val) (code := code) (W := wr.alloc (.cells #[.slice none 0 0, .slice none 0 0, .slice none 0 0] 30)) rfl rfl (unhide H1).1 (unhide H1).2.1 (unhide H1).2.2.1 (unhide H2).1 (unhide H2).2.1 (unhide H2).2.2.1 (unhide H3).1 (unhide H3).2.1 (by have := (unhide H3).2.2.1; simpa using this) (unhide H4).1 (unhide H4).2.1 (unhide H4).2.2.1 (mkO_good i val code inverse) (mkO_good i val code other) (by have := unhide HKI; rw [unhide HWE] at this; exact this.alloc _) (cB := cB) (aB := wr.heap.size) (by omega) ((unhide HBI).alloc _) (by have := (unhide HKI).size; omega) (Blk.new wr _ _) (by have := (unhide HBI).lt; omega) hvl (mkO_empty inverse) (mkO_empty other))
        rw [← unhide HLE, ← unhide HME] at HST
        obtain ⟨aB, haB⟩ : ∃ aB, wr.heap.size = aB := ⟨_, rfl⟩
        rw [haB] at HST ⊢
        obtain ⟨pp, hpp⟩ : ∃ pp, pp = three (.pointer p1) (.pointer p2) (.pointer none) := ⟨_, rfl⟩
        obtain ⟨qq, hqq⟩ : ∃ qq, qq = three (.pointer p3) (.pointer p4) (.pointer none) := ⟨_, rfl⟩
        rw [← hpp, ← hqq] at HST
        clear hpp hqq hO haB H1 H2 H3 H4 HLB HMB HE13 HE24 HLE HME HWE HKI HBI HK6 HB6 HKW HCODE hs5 hcs
        go_loopw [17] (fun a wz => ∃ (k : Nat) (rr : Nat → Value) (oo : Nat → Option Sd) (lst : Nat → List Nat) (D : Nat → List Nat), k ≤ M ∧ a = .int .i64 (k : Int) ∧ RSt i val code w wz lB mB aB pp qq rr (.slice (some ⟨cB, 0, none⟩) i i) oo oo lst D k) (fun a _ => M - (intOf a).toNat)
        case atStart => exact ⟨0, _, _, _, _, by omega, rfl, unhide HST⟩
        case round =>
          obtain ⟨k, rr, oo, lst, D, hk, rfl, hst⟩ := hrel
          by_cases hkM : k < M
          · have hkn : k < os.length := by rw [unhide HM]; exact hkM
            obtain ⟨o, ho⟩ : ∃ o, os[k]? = some o := ⟨os[k], List.getElem?_eq_getElem hkn⟩
            obtain ⟨sa', sc', hv', -, hall⟩ := (unhide HOS).kept hst.kp
            rw [unhide HM] at hv'
            cases hv'
            obtain ⟨sb, off, hsa, hsb, hrg⟩ := hall k o ho
            subst hsa
            obtain ⟨kd, ow, on⟩ := o
            have s0 : wr.cell? ⟨sb, off + k * 3, none⟩ = some (.int .i64 kd) := hrg 0 _ rfl
            have s1 : wr.cell? ⟨sb, off + k * 3 + 1, none⟩ = some (.int .i64 ow) := hrg 1 _ rfl
            have s2 : wr.cell? ⟨sb, off + k * 3 + 2, none⟩ = some (.int .i64 on) := hrg 2 _ rfl
            have hj3 := plN_lt ow (show 0 < 3 by omega)
            have HP3 := fun W => hide (lplace_any W ow 3 (by omega) (by omega))
            generalize plN ow 3 = j at *
            have HST1 := hide (hst.quiet ((Kept.refl [] wr).alloc (.cells #[.int .i64 kd, .int .i64 ow, .int .i64 on] 32)))
            have HBX := hide (Blk.new wr #[.int .i64 kd, .int .i64 ow, .int .i64 on] 32)
            have HBN : Hid (∀ q, wr.heap.size ∉ D q) := fun q hq => by have := hst.fam.lt q _ hq; omega
            obtain ⟨bx, hbx⟩ : ∃ bx, wr.heap.size = bx := ⟨_, rfl⟩
            clear hst hall hrg hkn ho HST
            rw [hbx] at HBX HBN
            have HPL : ∀ W, Hid (Calls Try.prog 11 #[.int .i64 ow, .int .i64 3] W fun e w' => e = .returned (.int .i64 (j : Int)) ∧ w' = W) := HP3
            clear HP3
            go_wp2_with (first
              | (go_at_call 11; refine (unhide (HPL _)).mono ?_; rintro e wz ⟨rfl, hq⟩; have hq2 := hq.symm; subst hq2; clear hq HPL))
            refine world_at (R := fun X => RSt i val code w X lB mB aB pp qq rr (.slice (some ⟨cB, 0, none⟩) i i) oo oo lst D k ∧ Blk X bx #[.int .i64 kd, .int .i64 ow, .int .i64 on] 32) ⟨unhide HST1, unhide HBX⟩ ?_
            clear HST1 HBX s0 s1 s2 hbx hsb
            rintro X ⟨hX, hbX⟩
            have l0 : X.cell? ⟨lB, j, none⟩ = some (pp j) := (hX.lb.cell j).trans (three_at pp hj3)
            have m0 : X.cell? ⟨mB, j, none⟩ = some (qq j) := (hX.mb.cell j).trans (three_at qq hj3)
            have hj3i : (j : Int) < 3 := by omega
            have hXd := hX.quiet (Kept.refl [] X).drew
            have hbXd : Blk X.drew bx #[.int .i64 kd, .int .i64 ow, .int .i64 on] 32 := hbX
            have HX := hide hXd
            have HBX := hide hbXd
            have C1 : ∀ W, Kept [] X.drew W → Hid (Calls Try.prog 25 #[pp j] W fun e w' => e = .returned (.int .i64 (cntO (oo j) : Int)) ∧ w' = W) := fun W q => hide (count_h ((hXd.quiet q).hp j hj3))
            have C2 : ∀ W, Kept [] X.drew W → Hid (Calls Try.prog 13 #[qq j] W fun e w' => e = .returned (.int .i64 (cntO (oo j) : Int)) ∧ w' = W) := fun W q => hide (rcount_h ((hXd.quiet q).hq j hj3))
            have C3 : ∀ W, Kept [] X.drew W → Hid (Calls Try.prog 26 #[pp j] W fun e w' => e = .returned (.int .i64 (sizO (oo j) : Int)) ∧ w' = W) := fun W q => hide (size_h ((hXd.quiet q).hp j hj3))
            have C4 : ∀ W, Kept [] X.drew W → Hid (Calls Try.prog 15 #[qq j] W fun e w' => e = .returned (.int .i64 (sizO (oo j) : Int)) ∧ w' = W) := fun W q => hide (rsize_h ((hXd.quiet q).hq j hj3))
            clear hX hbX hXd hbXd
            obtain ⟨P, hP⟩ : ∃ P, pp j = P := ⟨_, rfl⟩
            obtain ⟨Q, hQ⟩ : ∃ Q, qq j = Q := ⟨_, rfl⟩
            rw [hP] at l0 C1 C3
            rw [hQ] at m0 C2 C4
            have HPP := hide hP
            have HQQ := hide hQ
            clear hP hQ
            generalize hcn : cntO (oo j) = cn at C1 C2
            generalize hsn : sizO (oo j) = sn at C3 C4
            clear hcn hsn
            go_region
            clear l0 m0
            refine world_at (R := fun Y => Kept [] X.drew Y) (Kept.refl _ _) ?_
            rintro Y hY
            have HY := hide hY
            have HS := hide ((unhide HX).quiet hY)
            have HB := hide ((unhide HBX).kept hY (by simp))
            clear hY
            obtain ⟨x0, x1, x2⟩ := box3 (unhide HB)
            clear HX HBX
            by_cases k2 : kd = 2
            -- Query
            · have t1 : (kd == 1) = false := by simp; omega
              have t2 : (kd == 2) = true := by simp; omega
              have t3 : (kd == 3) = false := by simp; omega
              clear k2
              by_cases k0 : 0 < i
              · have hi0 : (0 : Int) < (i : Int) := by omega
                have hS := unhide HS
                have C5 : ∀ W, Kept [] Y W → Hid (Calls Try.prog 29 #[P, .int .i64 on] W fun e w' => e = .returned (.tuple #[(.float .f64 (valQ val (oo j) on)), .int .i64 (errQ (oo j) on)]) ∧ Kept [] W w') := fun W q => by
                  have := query_h (h := (hS.quiet q).hp j hj3) (hS.gp j hj3) (by omega) on
                  rw [unhide HPP] at this
                  exact hide this
                have C6 : ∀ W, Kept [] Y W → Hid (Calls Try.prog 20 #[Q, .int .i64 on] W fun e w' => e = .returned (.tuple #[.int .i64 (whiQ code (oo j) on : Int), .int .i64 (errQ (oo j) on)]) ∧ Kept [] W w') := fun W q => by
                  have := rquery_h (h := (hS.quiet q).hq j hj3) (hS.gq j hj3) (by omega) on
                  rw [unhide HQQ] at this
                  exact hide this
                by_cases hf : errQ (oo j) on = 0
                · as_aux_lemma =>
                    obtain ⟨v, hvi, hlw, hxv⟩ := hS.query hj3 on hf
                    obtain ⟨g, cap, hrr, hgl, hgc⟩ := added_at (hS.ar j hj3) hlw
                    have a0 : Y.cell? ⟨aB, j, none⟩ = some (rr j) := (hS.ab.cell j).trans (three_at rr hj3)
                    rw [hrr] at a0
                    have hwl := (List.getElem?_eq_some_iff.1 hlw).1
                    obtain ⟨va', vc', hv', hall⟩ := (unhide HVS2).kept hS.kp
                    rw [unhide HL] at hv'
                    cases hv'
                    obtain ⟨b1, o1, ha1, c1⟩ := at_x (f := fun x : Nat => .int .u64 (x : Int)) (z := 0) (unhide HL) hall hvi
                    subst ha1
                    rw [show vs.getD v 0 = val v by rw [unhide HVAL]] at c1
                    rw [hxv, hf] at C5
                    rw [hf] at C6
                    have hviI : (v : Int) < (i : Int) := by omega
                    have hwlI : (whiQ code (oo j) on : Int) < ((lst j).length : Int) := by omega
                    generalize whiQ code (oo j) on = wq at *
                    generalize val v = xv at *
                    generalize (lst j).length = ln at *
                    clear hall hS hlw hxv hf hrr hgl
                    go_wp2_with (first
                      | (go_at_call 25; refine (unhide (C1 _ (unhide HY))).mono ?_; rintro e wz ⟨rfl, hq⟩; have hq2 := hq.symm; subst hq2; clear hq C1)
                      | (go_at_call 13; refine (unhide (C2 _ (unhide HY))).mono ?_; rintro e wz ⟨rfl, hq⟩; have hq2 := hq.symm; subst hq2; clear hq C2)
                      | (go_at_call 26; refine (unhide (C3 _ (unhide HY))).mono ?_; rintro e wz ⟨rfl, hq⟩; have hq2 := hq.symm; subst hq2; clear hq C3)
                      | (go_at_call 15; refine (unhide (C4 _ (unhide HY))).mono ?_; rintro e wz ⟨rfl, hq⟩; have hq2 := hq.symm; subst hq2; clear hq C4)
                      | (go_at_call 29; refine (unhide (C5 _ (Kept.refl [] Y))).mono ?_; rintro e w8 ⟨rfl, hq⟩; have HK8 := hide hq; obtain ⟨-, -, x2'⟩ := box3 ((unhide HB).kept hq (by simp)); clear hq)
                      | (go_at_call 20; refine (unhide (C6 _ (unhide HK8))).mono ?_; rintro e w9 ⟨rfl, hq⟩; have HK9 := hide ((unhide HK8).step hq); have y0 := ((unhide HK9).cell (p := ⟨aB, j, none⟩) (World.block_lt_of_cell? Y _ a0) (by simp)).trans a0; have y1 := ((unhide HK9).cell (p := ⟨g, wq, none⟩) (World.block_lt_of_cell? Y _ hgc) (by simp)).trans hgc; have y2 := ((unhide HK9).cell (p := ⟨b1, o1 + v, none⟩) (World.block_lt_of_cell? Y _ c1) (by simp)).trans c1; obtain ⟨y3, -, -⟩ := box3 ((unhide HB).kept (unhide HK9) (by simp)); clear hq)
                      | (go_at_call 16; refine (num_any _).mono ?_; rintro e wz ⟨rfl, hq⟩; have hq2 := hq.symm; subst hq2; clear hq)
                                          | (go_at_call 30; refine (differ_same _).mono ?_; rintro e wz ⟨rfl, hq⟩; have hq2 := hq.symm; subst hq2; clear hq))
                    exact ⟨⟨k + 1, rr, oo, lst, D, by omega, by simp, ((unhide HS).quiet (unhide HK9)).more (by omega)⟩, by simp [intOf]; omega⟩
                · as_aux_lemma =>
                    have hz := RSt.query_no (val := val) hf
                    rw [hz] at C5
                    have te : (errQ (oo j) on == 0) = false := by simp; exact hf
                    generalize errQ (oo j) on = er at *
                    generalize whiQ code (oo j) on = wq at *
                    clear hS hf hz
                    go_wp2_with (first
                      | (go_at_call 25; refine (unhide (C1 _ (unhide HY))).mono ?_; rintro e wz ⟨rfl, hq⟩; have hq2 := hq.symm; subst hq2; clear hq C1)
                      | (go_at_call 13; refine (unhide (C2 _ (unhide HY))).mono ?_; rintro e wz ⟨rfl, hq⟩; have hq2 := hq.symm; subst hq2; clear hq C2)
                      | (go_at_call 26; refine (unhide (C3 _ (unhide HY))).mono ?_; rintro e wz ⟨rfl, hq⟩; have hq2 := hq.symm; subst hq2; clear hq C3)
                      | (go_at_call 15; refine (unhide (C4 _ (unhide HY))).mono ?_; rintro e wz ⟨rfl, hq⟩; have hq2 := hq.symm; subst hq2; clear hq C4)
                      | (go_at_call 29; refine (unhide (C5 _ (Kept.refl [] Y))).mono ?_; rintro e w8 ⟨rfl, hq⟩; have HK8 := hide hq; obtain ⟨-, -, x2'⟩ := box3 ((unhide HB).kept hq (by simp)); clear hq)
                      | (go_at_call 20; refine (unhide (C6 _ (unhide HK8))).mono ?_; rintro e w9 ⟨rfl, hq⟩; have HK9 := hide ((unhide HK8).step hq); obtain ⟨y3, -, -⟩ := box3 ((unhide HB).kept (unhide HK9) (by simp)); clear hq)
                      | (go_at_call 16; refine (num_any _).mono ?_; rintro e wz ⟨rfl, hq⟩; have hq2 := hq.symm; subst hq2; clear hq)
                                          | (go_at_call 30; refine (differ_same _).mono ?_; rintro e wz ⟨rfl, hq⟩; have hq2 := hq.symm; subst hq2; clear hq))
                    exact ⟨⟨k + 1, rr, oo, lst, D, by omega, by simp, ((unhide HS).quiet (unhide HK9)).more (by omega)⟩, by simp [intOf]; omega⟩
              · have hi0 : ((0 : Int) < (i : Int)) = False := by simp; omega
                have hi1 : (0 < i) = False := by simp; omega
                have hS := unhide HS
                have C5 : ∀ W, Kept [] Y W → Hid (Calls Try.prog 29 #[P, .int .i64 on] W fun e w' => e = .returned (.tuple #[(.float .f64 (valQ val (oo j) on)), .int .i64 (errQ (oo j) on)]) ∧ Kept [] W w') := fun W q => by
                  have := query_h (h := (hS.quiet q).hp j hj3) (hS.gp j hj3) (by omega) on
                  rw [unhide HPP] at this
                  exact hide this
                have C6 : ∀ W, Kept [] Y W → Hid (Calls Try.prog 20 #[Q, .int .i64 on] W fun e w' => e = .returned (.tuple #[.int .i64 (whiQ code (oo j) on : Int), .int .i64 (errQ (oo j) on)]) ∧ Kept [] W w') := fun W q => by
                  have := rquery_h (h := (hS.quiet q).hq j hj3) (hS.gq j hj3) (by omega) on
                  rw [unhide HQQ] at this
                  exact hide this
                by_cases hf : errQ (oo j) on = 0
                · exfalso
                  obtain ⟨v, hvi, -, -⟩ := hS.query hj3 on hf
                  exact k0 (by omega)
                · as_aux_lemma =>
                    have hz := RSt.query_no (val := val) hf
                    rw [hz] at C5
                    have te : (errQ (oo j) on == 0) = false := by simp; exact hf
                    generalize errQ (oo j) on = er at *
                    generalize whiQ code (oo j) on = wq at *
                    clear hS hf hz
                    go_wp2_with (first
                      | (go_at_call 25; refine (unhide (C1 _ (unhide HY))).mono ?_; rintro e wz ⟨rfl, hq⟩; have hq2 := hq.symm; subst hq2; clear hq C1)
                      | (go_at_call 13; refine (unhide (C2 _ (unhide HY))).mono ?_; rintro e wz ⟨rfl, hq⟩; have hq2 := hq.symm; subst hq2; clear hq C2)
                      | (go_at_call 26; refine (unhide (C3 _ (unhide HY))).mono ?_; rintro e wz ⟨rfl, hq⟩; have hq2 := hq.symm; subst hq2; clear hq C3)
                      | (go_at_call 15; refine (unhide (C4 _ (unhide HY))).mono ?_; rintro e wz ⟨rfl, hq⟩; have hq2 := hq.symm; subst hq2; clear hq C4)
                      | (go_at_call 29; refine (unhide (C5 _ (Kept.refl [] Y))).mono ?_; rintro e w8 ⟨rfl, hq⟩; have HK8 := hide hq; obtain ⟨-, -, x2'⟩ := box3 ((unhide HB).kept hq (by simp)); clear hq)
                      | (go_at_call 20; refine (unhide (C6 _ (unhide HK8))).mono ?_; rintro e w9 ⟨rfl, hq⟩; have HK9 := hide ((unhide HK8).step hq); obtain ⟨y3, -, -⟩ := box3 ((unhide HB).kept (unhide HK9) (by simp)); clear hq)
                      | (go_at_call 16; refine (num_any _).mono ?_; rintro e wz ⟨rfl, hq⟩; have hq2 := hq.symm; subst hq2; clear hq)
                                          | (go_at_call 30; refine (differ_same _).mono ?_; rintro e wz ⟨rfl, hq⟩; have hq2 := hq.symm; subst hq2; clear hq))
                    exact ⟨⟨k + 1, rr, oo, lst, D, by omega, by simp, ((unhide HS).quiet (unhide HK9)).more (by omega)⟩, by simp [intOf]; omega⟩
            by_cases k0 : 0 < i
            · have hi0 : (0 : Int) < (i : Int) := by omega
              have hvi := plN_lt on k0
              have HPV := fun W => hide (lplace_any W on i k0 (by omega))
              generalize plN on i = v at *
              obtain ⟨va', vc', hv', hall⟩ := (unhide HVS2).kept (unhide HS).kp
              rw [unhide HL] at hv'
              cases hv'
              obtain ⟨b1, o1, ha1, c1⟩ := at_x (f := fun x : Nat => .int .u64 (x : Int)) (z := 0) (unhide HL) hall hvi
              subst ha1
              rw [show vs.getD v 0 = val v by rw [unhide HVAL]] at c1
              have c2 := codes_at (unhide HS).cs hvi
              have hviI : (v : Int) < (i : Int) := by omega
              clear hall
              by_cases k1 : kd = 1
              -- Add
              · as_aux_lemma =>
                  have t1 : (kd == 1) = true := by simp; omega
                  have t2 : (kd == 2) = false := by simp; omega
                  have t3 : (kd == 3) = false := by simp; omega
                  clear k1 k2
                  have hSd := (unhide HS).quiet (Kept.refl [] Y).drew
                  have HSD := hide hSd
                  have HA := add_h (hSd.hp j hj3) (hSd.gp j hj3) (by omega) hvi
                  rw [unhide HPP] at HA
                  have HADD := hide HA
                  have hb1w : b1 < w.heap.size := by
                    obtain ⟨va', vc', hv', hall⟩ := unhide HVS2
                    rw [unhide HL] at hv'
                    cases hv'
                    obtain ⟨b2, o2, ha2, c3⟩ := at_x (f := fun x : Nat => .int .u64 (x : Int)) (z := 0) (unhide HL) hall hvi
                    cases ha2
                    exact World.block_lt_of_cell? w _ c3
                  have hb1D : ∀ q, b1 ∉ D q := fun q hq => by have := hSd.fam.lo q b1 hq; omega
                  have hcBD : cB ∉ D j := fun hq => hSd.fam.off (i := 8) (j := j) (by omega) cB (by rw [hSd.d8]; simp [Value.ownBlock]) hq
                  have HQC : Hid (∀ (W : World) (F : List Nat), RSt i val code w W lB mB aB pp qq rr (.slice (some ⟨cB, 0, none⟩) i i) (updO oo j (nxtO val (oo j) v)) oo lst (upd D j F) (k + 1) → Calls Try.prog 18 #[Q, .int .i64 (code v)] W fun e w' => e = .returned (.int .i64 (errA (oo j))) ∧ ∃ F', Hq code w' (qq j) F' (nxtO val (oo j) v) ∧ Kept (upd D j F (3 + j)) W w' ∧ ∀ x ∈ F', x ∈ upd D j F (3 + j) ∨ W.heap.size ≤ x) := fun W F q => by
                    have := radd_h (unhide HO) (q.hq j hj3) (q.gq j hj3) (by omega) hvi
                    rw [unhide HQQ] at this ⊢
                    exact this
                  have c1d : Y.drew.cell? ⟨b1, o1 + v, none⟩ = some (.int .u64 ((val v : Nat) : Int)) := c1
                  have c2d : Y.drew.cell? ⟨cB, v, none⟩ = some (.int .i64 (code v)) := c2
                  clear hSd HA
                  obtain ⟨er, her⟩ : ∃ er, errA (oo j) = er := ⟨_, rfl⟩
                  rw [her] at HADD HQC
                  obtain ⟨xv, hxv⟩ : ∃ xv, val v = xv := ⟨_, rfl⟩
                  obtain ⟨xc, hxc⟩ : ∃ xc, code v = xc := ⟨_, rfl⟩
                  rw [hxv] at c1 c1d HADD
                  rw [hxc] at c2 c2d HQC
                  clear her hxv hxc
                  go_wp2_with (first
                    | (go_at_call 25; refine (unhide (C1 _ (unhide HY))).mono ?_; rintro e wz ⟨rfl, hq⟩; have hq2 := hq.symm; subst hq2; clear hq C1)
                    | (go_at_call 13; refine (unhide (C2 _ (unhide HY))).mono ?_; rintro e wz ⟨rfl, hq⟩; have hq2 := hq.symm; subst hq2; clear hq C2)
                    | (go_at_call 26; refine (unhide (C3 _ (unhide HY))).mono ?_; rintro e wz ⟨rfl, hq⟩; have hq2 := hq.symm; subst hq2; clear hq C3)
                    | (go_at_call 15; refine (unhide (C4 _ (unhide HY))).mono ?_; rintro e wz ⟨rfl, hq⟩; have hq2 := hq.symm; subst hq2; clear hq C4)
                    | (go_at_call 11; refine (unhide (HPV _)).mono ?_; rintro e wz ⟨rfl, hq⟩; have hq2 := hq.symm; subst hq2; clear hq HPV))
                  go_region_held3 (fun w' => w'.cell? ⟨b1, o1 + v, none⟩ = some (.int .u64 (xv : Int)) ∧ w'.cell? ⟨cB, v, none⟩ = some (.int .i64 xc)) (first | assumption | exact ⟨c1d, c2d⟩) (first
                    | (go_at_call 27; refine (unhide HADD).mono ?_; rintro e w8 ⟨rfl, F8, h8, k8, f8⟩
                       have HR8 := hide ((unhide HSD).addP (unhide HO) hj3 hvi (by rw [unhide HPP]; exact h8) k8 f8 h8.lt)
                       have HK8 := hide k8
                       have HF8 := hide f8
                       have HS8 : w8.cell? ⟨b1, o1 + v, none⟩ = some (.int .u64 (xv : Int)) ∧ w8.cell? ⟨cB, v, none⟩ = some (.int .i64 xc) := ⟨(k8.cell (p := ⟨b1, o1 + v, none⟩) (World.block_lt_of_cell? _ _ c1d) (hb1D j)).trans c1d, (k8.cell (p := ⟨cB, v, none⟩) (World.block_lt_of_cell? _ _ c2d) hcBD).trans c2d⟩
                       clear h8 k8 f8)
                    | (go_at_call 16; refine (num_any _).mono ?_; rintro e wz ⟨rfl, hq⟩; have hq2 := hq.symm; subst hq2; clear hq)
                                          | (go_at_call 30; refine (differ_same _).mono ?_; rintro e wz ⟨rfl, hq⟩; have hq2 := hq.symm; subst hq2; clear hq)
                    | (go_at_call 18; refine (unhide HQC _ _ (unhide HR8)).mono ?_; rintro e w9 ⟨rfl, F9, h9, k9, f9⟩
                       have HK9 := hide k9
                       have HF9 := hide f9
                       have HH9 := hide h9
                       clear h9 k9 f9
                       have HS9 : w9.cell? ⟨b1, o1 + v, none⟩ = some (.int .u64 (xv : Int)) ∧ w9.cell? ⟨cB, v, none⟩ = some (.int .i64 xc) := ⟨((unhide HK9).cell (p := ⟨b1, o1 + v, none⟩) (World.block_lt_of_cell? _ _ HS8.1) (fun hq => by have := (unhide HR8).fam.lo _ b1 hq; omega)).trans HS8.1, ((unhide HK9).cell (p := ⟨cB, v, none⟩) (World.block_lt_of_cell? _ _ HS8.2) (fun hq => (unhide HR8).fam.off (i := 8) (j := 3 + j) (by omega) cB (by rw [(unhide HR8).d8]; simp [Value.ownBlock]) hq)).trans HS8.2⟩))
                  obtain ⟨-, -, -, -, -, -, -, -, g9, g10⟩ := (unhide HR8).addQ (unhide HO) hj3 hvi (unhide HH9) (unhide HK9) (unhide HF9) (unhide HH9).lt
                  have hgj := g10 j hj3
                  obtain ⟨ra, rc, hra⟩ := own_len hgj
                  have a0 : w9.cell? ⟨aB, j, none⟩ = some (rr j) := (g9.cell j).trans (three_at rr hj3)
                  have hln := (unhide HS).ln j hj3
                  have hj1 : (unhide HR8).d10 j hj3 = (unhide HR8).d10 j hj3 := rfl
                  have hab9 : aB ∉ (rr j).ownBlock.toList := fun hq => (unhide HR8).fam.off (i := 9) (j := 10 + j) (by omega) aB (by rw [(unhide HR8).d9]; simp) (by rw [(unhide HR8).d10 j hj3]; exact hq)
                  have hbx9 : Blk w9 bx #[.int .i64 kd, .int .i64 ow, .int .i64 on] 32 := ((show Blk Y.drew bx #[.int .i64 kd, .int .i64 ow, .int .i64 on] 32 from unhide HB).kept (unhide HK8) (unhide HBN j)).kept (unhide HK9) (by rw [upd_other _ _ (by omega)]; exact unhide HBN (3 + j))
                  have hbxr : bx ∉ (rr j).ownBlock.toList := fun hq => unhide HBN (10 + j) (by rw [(unhide HS).d10 j hj3]; exact hq)
                  have hbxa : bx ≠ aB := fun hq => unhide HBN 9 (by rw [(unhide HS).d9, hq]; simp)
                  have HRR := hide hra
                  rw [hra] at hgj a0 hab9 hbxr
                  obtain ⟨a', c', wA, hrun, hown, hkA, hbA⟩ := app_one hgj v (by omega) 22
                  have hab' := g9.kept hkA hab9
                  have a1 : wA.cell? ⟨aB, j, none⟩ = some (rr j) := (hab'.cell j).trans (three_at rr hj3)
                  have f1 := hab'.frozen j
                  have hbl := hab'.lt
                  obtain ⟨y0, y1, y2⟩ := box3 (hbx9.kept hkA hbxr)
                  have HPUT : Hid (RSt i val code w (wA.setCell ⟨aB, j, none⟩ (.slice a' ((lst j).length + 1) c')) lB mB aB pp qq (updV rr j (.slice a' ((lst j).length + 1) c')) (.slice (some ⟨cB, 0, none⟩) i i) (updO oo j (nxtO val (oo j) v)) (updO oo j (nxtO val (oo j) v)) (updL lst j (lst j ++ [v])) (upd (upd (upd D j F8) (3 + j) F9) (10 + j) (Value.slice a' ((lst j).length + 1) c').ownBlock.toList) (k + 1)) :=
                    RSt.put (unhide HO) hj3 hvi (unhide HR8) hln (unhide HH9) (unhide HK9) (unhide HF9) hown (by rw [unhide HRR]; exact hkA) (by rw [unhide HRR]; exact hbA)
                  clear hj1 g9 g10 hgj hab9 hbx9 hbxr hown hkA hbA hab' HRR hra HS8 HS9 HR8 HK8 HF8 HK9 HF9 HH9 HSD HADD HQC c1 c2 c1d c2d x0 x1 x2
                  generalize hlj : (lst j).length = ln at *
                  have HRUN := hide hrun
                  clear hrun
                  go_wp2_with (at_builtin; refine wpList_app_run rfl _ _ _ rfl rfl rfl (unhide HRUN) ?_)
                  exact ⟨⟨k + 1, _, _, _, _, by omega, by simp, unhide HPUT⟩, by simp [intOf]; omega⟩
              by_cases k3 : kd = 3
              -- Below
              · as_aux_lemma =>
                  have t1 : (kd == 1) = false := by simp; omega
                  have t2 : (kd == 2) = false := by simp; omega
                  have t3 : (kd == 3) = true := by simp; omega
                  clear k1 k2 k3
                  have hS := unhide HS
                  have C5 : ∀ W, Kept [] Y W → Hid (Calls Try.prog 31 #[P, (.float .f64 (val v))] W fun e w' => e = .returned (.tuple #[.int .i64 ((belC code (oo j) v).1 : Nat), .int .i64 ((belC code (oo j) v).2 : Nat)]) ∧ Kept [] W w') := fun W q => by
                    have := below_h (h := (hS.quiet q).hp j hj3) (hS.gp j hj3) (by omega) v
                    rw [unhide HPP, (hS.gp j hj3).bel (unhide HO) hvi] at this
                    exact hide this
                  have C6 : ∀ W, Kept [] Y W → Hid (Calls Try.prog 22 #[Q, .int .i64 (code v)] W fun e w' => e = .returned (.tuple #[.int .i64 ((belC code (oo j) v).1 : Nat), .int .i64 ((belC code (oo j) v).2 : Nat)]) ∧ Kept [] W w') := fun W q => by
                    have := rbelow_h (h := (hS.quiet q).hq j hj3) (hS.gq j hj3) (by omega) v
                    rw [unhide HQQ] at this
                    exact hide this
                  clear hS
                  generalize belC code (oo j) v = bl at C5 C6
                  obtain ⟨bl1, bl2⟩ := bl
                  generalize val v = xv at *
                  generalize hcv : code v = xc at *
                  have HCV := hide hcv
                  clear hcv
                  go_wp2_with (first
                    | (go_at_call 25; refine (unhide (C1 _ (unhide HY))).mono ?_; rintro e wz ⟨rfl, hq⟩; have hq2 := hq.symm; subst hq2; clear hq C1)
                    | (go_at_call 13; refine (unhide (C2 _ (unhide HY))).mono ?_; rintro e wz ⟨rfl, hq⟩; have hq2 := hq.symm; subst hq2; clear hq C2)
                    | (go_at_call 26; refine (unhide (C3 _ (unhide HY))).mono ?_; rintro e wz ⟨rfl, hq⟩; have hq2 := hq.symm; subst hq2; clear hq C3)
                    | (go_at_call 15; refine (unhide (C4 _ (unhide HY))).mono ?_; rintro e wz ⟨rfl, hq⟩; have hq2 := hq.symm; subst hq2; clear hq C4)
                    | (go_at_call 11; refine (unhide (HPV _)).mono ?_; rintro e wz ⟨rfl, hq⟩; have hq2 := hq.symm; subst hq2; clear hq HPV)
                    | (go_at_call 31; refine (unhide (C5 _ (Kept.refl [] Y))).mono ?_; rintro e w8 ⟨rfl, hq⟩; have HK8 := hide hq; have c2' := (hq.cell (p := ⟨cB, v, none⟩) (World.block_lt_of_cell? Y _ c2) (by simp)).trans c2; clear hq)
                    | (go_at_call 22; refine (unhide (C6 _ (unhide HK8))).mono ?_; rintro e w9 ⟨rfl, hq⟩; have HK9 := hide ((unhide HK8).step hq); clear hq))
                  exact ⟨⟨k + 1, rr, oo, lst, D, by omega, by simp, ((unhide HS).quiet (unhide HK9)).more (by omega)⟩, by simp [intOf]; omega⟩
              -- nothing
              · as_aux_lemma =>
                  have t1 : (kd == 1) = false := by simp; omega
                  have t2 : (kd == 2) = false := by simp; omega
                  have t3 : (kd == 3) = false := by simp; omega
                  clear k1 k2 k3 HPV c1 c2
                  go_wp2_with (first
                    | (go_at_call 25; refine (unhide (C1 _ (unhide HY))).mono ?_; rintro e wz ⟨rfl, hq⟩; have hq2 := hq.symm; subst hq2; clear hq C1)
                    | (go_at_call 13; refine (unhide (C2 _ (unhide HY))).mono ?_; rintro e wz ⟨rfl, hq⟩; have hq2 := hq.symm; subst hq2; clear hq C2)
                    | (go_at_call 26; refine (unhide (C3 _ (unhide HY))).mono ?_; rintro e wz ⟨rfl, hq⟩; have hq2 := hq.symm; subst hq2; clear hq C3)
                    | (go_at_call 15; refine (unhide (C4 _ (unhide HY))).mono ?_; rintro e wz ⟨rfl, hq⟩; have hq2 := hq.symm; subst hq2; clear hq C4))
                  exact ⟨⟨k + 1, rr, oo, lst, D, by omega, by simp, (unhide HS).more (by omega)⟩, by simp [intOf]; omega⟩
            · as_aux_lemma =>
                have hi0 : ((0 : Int) < (i : Int)) = False := by simp; omega
                have hi1 : (0 < i) = False := by simp; omega
                have t2 : (kd == 2) = false := by simp; omega
                clear k2
                go_wp2_with (first
                  | (go_at_call 25; refine (unhide (C1 _ (unhide HY))).mono ?_; rintro e wz ⟨rfl, hq⟩; have hq2 := hq.symm; subst hq2; clear hq C1)
                  | (go_at_call 13; refine (unhide (C2 _ (unhide HY))).mono ?_; rintro e wz ⟨rfl, hq⟩; have hq2 := hq.symm; subst hq2; clear hq C2)
                  | (go_at_call 26; refine (unhide (C3 _ (unhide HY))).mono ?_; rintro e wz ⟨rfl, hq⟩; have hq2 := hq.symm; subst hq2; clear hq C3)
                  | (go_at_call 15; refine (unhide (C4 _ (unhide HY))).mono ?_; rintro e wz ⟨rfl, hq⟩; have hq2 := hq.symm; subst hq2; clear hq C4))
                exact ⟨⟨k + 1, rr, oo, lst, D, by omega, by simp, (unhide HS).more (by omega)⟩, by simp [intOf]; omega⟩
          · obtain rfl : k = M := by omega
            have HS := hide hst
            obtain ⟨wE, hwE⟩ : ∃ wE, wE = wr := ⟨_, rfl⟩
            rw [← hwE] at HS ⊢
            clear hst HST hwE
            go_wp2_with fail
            go_loopw [33] (fun a wz => ∃ q : Nat, q ≤ 3 ∧ a = .int .i64 (q : Int) ∧ Kept [] wE wz) (fun a _ => 3 - (intOf a).toNat)
            case atStart => exact ⟨0, by omega, rfl, Kept.refl _ _⟩
            case round =>
              obtain ⟨q, hq3, rfl, hkq⟩ := hrel
              by_cases hq : q < 3
              · have HKQ := hide hkq
                have hq3i : (q : Int) < 3 := by omega
                clear hkq
                go_wp2_with fail
                go_loopw [34] (fun a wz => ∃ rn : Nat, rn ≤ 200 ∧ a = .int .i64 (rn : Int) ∧ Kept [] wE wz) (fun a _ => 200 - (intOf a).toNat)
                case atStart => exact ⟨0, by omega, rfl, unhide HKQ⟩
                case round =>
                  obtain ⟨rn, hrn, rfl, hkr⟩ := hrel
                  have hS := (unhide HS).quiet hkr
                  have HKR := hide hkr
                  have l0 : wr.cell? ⟨lB, q, none⟩ = some (pp q) := (hS.lb.cell q).trans (three_at pp hq)
                  have m0 : wr.cell? ⟨mB, q, none⟩ = some (qq q) := (hS.mb.cell q).trans (three_at qq hq)
                  have C2 : ∀ W, Kept [] wr W → Hid (Calls Try.prog 13 #[qq q] W fun e w' => e = .returned (.int .i64 (cntO (oo q) : Int)) ∧ w' = W) := fun W z => hide (rcount_h ((hS.quiet z).hq q hq))
                  have C5 : ∀ W, Kept [] wr W → Hid (Calls Try.prog 29 #[pp q, .int .i64 (rn : Int)] W fun e w' => e = .returned (.tuple #[(.float .f64 (valQ val (oo q) (rn : Int))), .int .i64 (errQ (oo q) (rn : Int))]) ∧ Kept [] W w') := fun W z => hide (query_h (h := (hS.quiet z).hp q hq) (hS.gp q hq) (by omega) (rn : Int))
                  have C6 : ∀ W, Kept [] wr W → Hid (Calls Try.prog 20 #[qq q, .int .i64 (rn : Int)] W fun e w' => e = .returned (.tuple #[.int .i64 (whiQ code (oo q) (rn : Int) : Int), .int .i64 (errQ (oo q) (rn : Int))]) ∧ Kept [] W w') := fun W z => hide (rquery_h (h := (hS.quiet z).hq q hq) (hS.gq q hq) (by omega) (rn : Int))
                  have hcn : cntO (oo q) ≤ 1048576 := by
                    cases ho : oo q with
                    | none => simp [cntO]
                    | some s => have := (hS.gq q hq s ho).2; simp only [cntO]; omega
                  generalize cntO (oo q) = cn at *
                  generalize pp q = P at *
                  generalize qq q = Q at *
                  clear hkr
                  by_cases hc : rn ≤ cn + 1 ∧ rn < 200
                  · have t1 : ((rn : Int) ≤ (cn : Int) + 1) = True := by simp; omega
                    have t1' : (rn ≤ cn + 1) = True := by simp; omega
                    have t2 : ((rn : Int) < 200) = True := by simp; omega
                    have t2' : (rn < 200) = True := by simp; omega
                    have hcl := hc.2
                    clear hc
                    by_cases hf : errQ (oo q) (rn : Int) = 0
                    · as_aux_lemma =>
                        obtain ⟨v, hvi, hlw, hxv⟩ := hS.query hq (rn : Int) hf
                        obtain ⟨g, cap, hrr, hgl, hgc⟩ := added_at (hS.ar q hq) hlw
                        have a0 : wr.cell? ⟨aB, q, none⟩ = some (rr q) := (hS.ab.cell q).trans (three_at rr hq)
                        rw [hrr] at a0
                        have hwl := (List.getElem?_eq_some_iff.1 hlw).1
                        obtain ⟨va', vc', hv', hall⟩ := (unhide HVS2).kept hS.kp
                        rw [unhide HL] at hv'
                        cases hv'
                        obtain ⟨b1, o1, ha1, c1⟩ := at_x (f := fun x : Nat => .int .u64 (x : Int)) (z := 0) (unhide HL) hall hvi
                        subst ha1
                        rw [show vs.getD v 0 = val v by rw [unhide HVAL]] at c1
                        rw [hxv, hf] at C5
                        rw [hf] at C6
                        have hviI : (v : Int) < (i : Int) := by omega
                        have hwlI : (whiQ code (oo q) (rn : Int) : Int) < ((lst q).length : Int) := by omega
                        generalize whiQ code (oo q) (rn : Int) = wq at *
                        generalize val v = xv at *
                        generalize (lst q).length = ln at *
                        clear hall hS hlw hxv hf hrr hgl
                        go_wp2_with (first
                          | (go_at_call 13; refine (unhide (C2 _ (Kept.refl [] wr))).mono ?_; rintro e wz ⟨rfl, hqq⟩; have hq2 := hqq.symm; subst hq2; clear hqq)
                          | (go_at_call 29; refine (unhide (C5 _ (Kept.refl [] wr))).mono ?_; rintro e w8 ⟨rfl, hqq⟩; have HK8 := hide hqq; have m0' := (hqq.cell (p := ⟨mB, q, none⟩) (World.block_lt_of_cell? wr _ m0) (by simp)).trans m0; clear hqq C5)
                          | (go_at_call 20; refine (unhide (C6 _ (unhide HK8))).mono ?_; rintro e w9 ⟨rfl, hqq⟩; have HK9 := hide ((unhide HK8).step hqq); have y0 := ((unhide HK9).cell (p := ⟨aB, q, none⟩) (World.block_lt_of_cell? wr _ a0) (by simp)).trans a0; have y1 := ((unhide HK9).cell (p := ⟨g, wq, none⟩) (World.block_lt_of_cell? wr _ hgc) (by simp)).trans hgc; have y2 := ((unhide HK9).cell (p := ⟨b1, o1 + v, none⟩) (World.block_lt_of_cell? wr _ c1) (by simp)).trans c1; clear hqq C6)
                          | (go_at_call 16; refine (num_any _).mono ?_; rintro e wz ⟨rfl, hqq⟩; have hq2 := hqq.symm; subst hq2; clear hqq)
                                          | (go_at_call 30; refine (differ_same _).mono ?_; rintro e wz ⟨rfl, hqq⟩; have hq2 := hqq.symm; subst hq2; clear hqq))
                        exact ⟨⟨rn + 1, by omega, by simp, (unhide HKR).step (unhide HK9)⟩, by simp [intOf]; omega⟩
                    · as_aux_lemma =>
                        have hz := RSt.query_no (val := val) hf
                        rw [hz] at C5
                        have te : (errQ (oo q) (rn : Int) == 0) = false := by simp; exact hf
                        generalize errQ (oo q) (rn : Int) = er at *
                        generalize whiQ code (oo q) (rn : Int) = wq at *
                        clear hS hf hz
                        go_wp2_with (first
                          | (go_at_call 13; refine (unhide (C2 _ (Kept.refl [] wr))).mono ?_; rintro e wz ⟨rfl, hqq⟩; have hq2 := hqq.symm; subst hq2; clear hqq)
                          | (go_at_call 29; refine (unhide (C5 _ (Kept.refl [] wr))).mono ?_; rintro e w8 ⟨rfl, hqq⟩; have HK8 := hide hqq; have m0' := (hqq.cell (p := ⟨mB, q, none⟩) (World.block_lt_of_cell? wr _ m0) (by simp)).trans m0; clear hqq C5)
                          | (go_at_call 20; refine (unhide (C6 _ (unhide HK8))).mono ?_; rintro e w9 ⟨rfl, hqq⟩; have HK9 := hide ((unhide HK8).step hqq); clear hqq C6)
                          | (go_at_call 16; refine (num_any _).mono ?_; rintro e wz ⟨rfl, hqq⟩; have hq2 := hqq.symm; subst hq2; clear hqq)
                                          | (go_at_call 30; refine (differ_same _).mono ?_; rintro e wz ⟨rfl, hqq⟩; have hq2 := hqq.symm; subst hq2; clear hqq))
                        exact ⟨⟨rn + 1, by omega, by simp, (unhide HKR).step (unhide HK9)⟩, by simp [intOf]; omega⟩
                  · clear hS C5 C6
                    by_cases h1 : rn ≤ cn + 1
                    · as_aux_lemma =>
                        have t1 : ((rn : Int) ≤ (cn : Int) + 1) = True := by simp; omega
                        have t1' : (rn ≤ cn + 1) = True := by simp; omega
                        have t2 : ((rn : Int) < 200) = False := by simp; omega
                        have t2' : (rn < 200) = False := by simp; omega
                        clear hc h1
                        go_wp2_with (first
                          | (go_at_call 13; refine (unhide (C2 _ (Kept.refl [] wr))).mono ?_; rintro e wz ⟨rfl, hqq⟩; have hq2 := hqq.symm; subst hq2; clear hqq))
                        exact ⟨⟨q + 1, by omega, by simp, unhide HKR⟩, by simp [intOf]; omega⟩
                    · as_aux_lemma =>
                        have t1 : ((rn : Int) ≤ (cn : Int) + 1) = False := by simp; omega
                        have t1' : (rn ≤ cn + 1) = False := by simp; omega
                        clear hc h1
                        go_wp2_with (first
                          | (go_at_call 13; refine (unhide (C2 _ (Kept.refl [] wr))).mono ?_; rintro e wz ⟨rfl, hqq⟩; have hq2 := hqq.symm; subst hq2; clear hqq))
                        exact ⟨⟨q + 1, by omega, by simp, unhide HKR⟩, by simp [intOf]; omega⟩
              · obtain rfl : q = 3 := by omega
                have HKQ := hide hkq
                clear hkq
                go_wp2_with fail
                go_ret
                exact ⟨rfl, (unhide HS).kp.step (unhide HKQ)⟩
end Go.Proofs.Ytgiifedljebclaa.flo
