/- TableMap. -/
import Derived.Test.YtkejpbfbpomjfaaCMapFZ
namespace Go.Proofs.Ytkejpbfbpomjfaa.tre
open Go.RowKit
set_option linter.unusedVariables false

set_option maxRecDepth 100000 in
set_option maxHeartbeats 4000000 in
theorem map_any {w : World} {av : Value} {ops : List Opm} (ha : OpsIn w av ops) (hlen : ops.length ≤ 1048576) :
    Calls Try.prog 4 #[av] w fun e w' => e = .returned (.bool true) ∧ Kept [] w w' := by
  have HAW := hide (awake_any w)
  have HN := fun W => hide (new_any W)
  obtain ⟨aa, ac, rfl, -, hall⟩ := ha
  have HALL := hide hall
  clear hall
  obtain ⟨L, hL⟩ : ∃ L, ops.length = L := ⟨_, rfl⟩
  have HL := hide hL
  rw [hL] at hlen ⊢
  clear hL
  go_enter Try.func4, Try.ntmps4
  go_wp2_with (first
    | (go_at_call 7; refine (unhide HAW).mono ?_; rintro e w1 ⟨rfl, hk1⟩; have HK1 := hide hk1; clear hk1)
    | (go_at_call 8; refine (unhide (HN _)).mono ?_; rintro e w2 ⟨b, rfl, ht2, hb2, hk2⟩
       have hb0 : w.heap.size ≤ b := Nat.le_trans (unhide HK1).size hb2
       have HP2 : Hid (Mm w w2 b ⟨.nil, 0⟩ (.slice none 0 0) []) := hide ⟨ht2, ⟨rfl, Or.inl ⟨rfl, rfl⟩⟩, (fun r hr => by cases hr), (unhide HK1).step hk2, hb0⟩
       clear ht2 hk2 hb2))
  go_loopw [4, 5, 6] (fun r v i wr => ∃ (k : Nat) (T : Tb) (ra : Option Addr) (rc : Nat) (R : List Me), k ≤ L ∧ r = .slice ra R.length rc ∧ v = .int .i64 (T.rev : Int) ∧ i = .int .i64 (k : Int) ∧ Mm w wr b T (.slice ra R.length rc) R ∧ MI T R ∧ R.length ≤ k ∧ T.rev ≤ k) (fun _ _ i _ => L - (intOf i).toNat)
  case atStart => exact ⟨0, ⟨.nil, 0⟩, none, 0, [], by omega, rfl, rfl, rfl, unhide HP2, MI.zero, Nat.le_refl _, Nat.le_refl _⟩
  case round =>
    obtain ⟨k, T, ra, rc, R, hkL, rfl, rfl, rfl, hm, hi, hRk, hTk⟩ := hrel
    obtain ⟨nR, hnR⟩ : ∃ n, R.length = n := ⟨_, rfl⟩
    obtain ⟨tr, htr⟩ : ∃ n, T.rev = n := ⟨_, rfl⟩
    rw [hnR] at hm hRk ⊢
    rw [htr] at hTk ⊢
    have HNR := hide hnR
    have HTR := hide htr
    have hTok := hi.tok
    have HM := hide hm
    have HI := hide hi
    clear hnR htr
    by_cases hlt : k < L
    · have hki : ((k : Int) < (L : Int)) = True := by simp [hlt]
      have hko : k < ops.length := by rw [unhide HL]; exact hlt
      obtain ⟨o, ho⟩ : ∃ o, ops[k]? = some o := ⟨ops[k], List.getElem?_eq_getElem hko⟩
      obtain ⟨sb, off, ks, vs, hsa, hsb, hrg, hoa, hlk, hlv⟩ := unhide HALL k o ho
      subst hsa
      have cc : ∀ (j : Nat) (u : Value), [Value.int .i64 o.kind, ks, vs, .int .i64 o.rev][j]? = some u → wr.cell? ⟨sb, off + k * 4 + j, none⟩ = some u := fun j u hj => (hm.kp.cell (p := ⟨sb, off + k * 4 + j, none⟩) hsb (by simp)).trans (hrg j u hj)
      have s0 : wr.cell? ⟨sb, off + k * 4, none⟩ = some (.int .i64 o.kind) := cc 0 _ rfl
      have s1 : wr.cell? ⟨sb, off + k * 4 + 1, none⟩ = some ks := cc 1 _ rfl
      have s2 : wr.cell? ⟨sb, off + k * 4 + 2, none⟩ = some vs := cc 2 _ rfl
      have s3 : wr.cell? ⟨sb, off + k * 4 + 3, none⟩ = some (.int .i64 o.rev) := cc 3 _ rfl
      obtain ⟨oka, okc, rfl⟩ := wide_len hoa.k
      obtain ⟨ova, ovc, rfl⟩ := wide_len hoa.v
      have HWR := fun W => hide (writes_any W o (.slice oka o.key.length okc) (.slice ova o.val.length ovc))
      unfold opv at HWR
      have hkq := (Kept.refl [] wr).alloc (.cells #[.int .i64 o.kind, .slice oka o.key.length okc, .slice ova o.val.length ovc, .int .i64 o.rev] 34)
      have HO0 := hide (Blk.new wr #[.int .i64 o.kind, .slice oka o.key.length okc, .slice ova o.val.length ovc, .int .i64 o.rev] 34)
      have HM0 := hide (hm.kept hkq)
      obtain ⟨o0, o1, o2, o3⟩ := box4 (unhide HO0)
      have HOA := hide hoa
      by_cases hr : rfs T o = 0
      · have HD := hide (Do_yes (unhide HM0).tab hTok (hoa.kept (unhide HM0).kp) (hlk.free hb0) (hlv.free hb0) hr)
        unfold opv at HD
        have hrg1 := rfs_yes hr
        have hwd := rgt_wrs hrg1
        rw [hwd] at HWR
        obtain ⟨dd, hdd⟩ : ∃ d, dn T o = d := ⟨_, rfl⟩
        obtain ⟨ar, har⟩ : ∃ d, arev T o = d := ⟨_, rfl⟩
        have har' : (if (fnd T o).isSome = true then (fv (fnd T o)).2 else 0) = ar := har
        obtain ⟨rv, hrv⟩ : ∃ d, (rvn T o : Int) = d := ⟨_, rfl⟩
        rw [hdd, har', hrv] at HD
        have HDD := hide hdd
        have HAR := hide har
        have HRV := hide hrv
        have HLKV := hide (And.intro hlk hlv)
        clear hdd har har' hrv hm hi hrg hoa hlk hlv cc
        by_cases hw : wrs o = true
        · have hnx : rv = (tr : Int) + 1 := by rw [← unhide HRV, write_rvn hw, unhide HTR]; omega
          subst hnx
          rw [hw] at HWR
          go_wp2_with (first
            | (go_at_call 9; refine (unhide HD).mono ?_; rintro e w4 ⟨ka, kn, kc, va, vn, vc, rfl, hA⟩
               have hkq := (Kept.refl [] w4).alloc (.cells #[.bool dd, .slice ka kn kc, .slice va vn vc, .int .i64 ar, .int .i64 ((tr : Int) + 1)] 29)
               have HM4 := hide (((unhide HM0).did hA.kp hA.t).kept hkq)
               have ho4 := ((unhide HO0).kept hA.kp (by simp; have := (unhide HM).tab; obtain ⟨q0, hbb, -⟩ := this; have := hbb.lt; omega)).alloc (.cells #[.bool dd, .slice ka kn kc, .slice va vn vc, .int .i64 ar, .int .i64 ((tr : Int) + 1)] 29)
               have HO4 := hide ho4
               have HB4 := hide (Blk.new w4 #[.bool dd, .slice ka kn kc, .slice va vn vc, .int .i64 ar, .int .i64 ((tr : Int) + 1)] 29)
               have hak : Sees _ (.slice ka kn kc) (akey T o) := hA.k.1.kept hkq (by simp)
               have hav : Sees _ (.slice va vn vc) (aval T o) := hA.v.1.kept hkq (by simp)
               have HAK := hide hak
               have HAV := hide hav
               have hng : ∀ j, (Value.slice va vn vc).ownBlock = some j → wr.heap.size + 1 ≤ j := fun j hj => by have := hA.v.2 j hj; rw [World.size_alloc] at this; exact this
               have HNG := hide hng
               have hnk := hA.kp.size
               rw [World.size_alloc] at hnk
               obtain ⟨p0, p1, p2, p3⟩ := box4 ho4
               clear hA hkq HD ho4 hak hav hng)
            | (go_at_call 12; refine (unhide (HWR _)).mono ?_; rintro e w5 ⟨rfl, hk5⟩
               have HM5 := hide ((unhide HM4).kept hk5)
               have HO5 := hide ((unhide HO4).kept hk5 (by simp))
               have HB5 := hide ((unhide HB4).kept hk5 (by simp))
               have HAV5 := hide ((unhide HAV).kept hk5 (by simp))
               have HAK5 := hide ((unhide HAK).kept hk5 (by simp))
               clear hk5 HM4 HO4 HB4 HAV HAK)
            | fail)
          obtain ⟨n7, hn7⟩ : ∃ n, wr.heap.size = n := ⟨_, rfl⟩
          obtain ⟨n8, hn8⟩ : ∃ n, w4.heap.size = n := ⟨_, rfl⟩
          rw [hn7] at HO5 ⊢
          rw [hn8] at HB5 ⊢
          have HLT : Hid (∀ g, (Value.slice ra nR rc).ownBlock = some g → g < n7) := fun g hg => by have := ((unhide HM).r.lt g hg).2; omega
          have H78 : Hid (n7 < n8) := hide (show n7 < n8 by omega)
          have HNG7 : Hid (∀ g, (Value.slice va vn vc).ownBlock = some g → n7 ≤ g) := fun g hg => by have := unhide HNG g hg; omega
          have HKL : Hid (o.key.length ≤ 65) := (right_len hr).2.2.1
          have HVN : Hid (vn = (aval T o).length) := by
            obtain ⟨va', vc', hva⟩ := sees_len (unhide HAV5)
            simp only [Value.slice.injEq] at hva
            exact hva.2.1
          have HKN0 : Hid (kn = (akey T o).length) := by
            obtain ⟨ka', kc', hka⟩ := sees_len (unhide HAK5)
            simp only [Value.slice.injEq] at hka
            exact hka.2.1
          go_loopw [10, 11] (fun a i X => ∃ (j : Nat) (at_ : Int), j ≤ nR ∧ i = .int .i64 (j : Int) ∧ a = .int .i64 at_ ∧ Kept [] w5 X ∧ Hid ((at_ = -1 ∧ ∀ x ∈ R.take j, x.key ≠ o.key) ∨ ∃ (q : Nat) (x : Me), at_ = (q : Int) ∧ R[q]? = some x ∧ x.key = o.key)) (fun _ i _ => nR - (intOf i).toNat)
          case atStart => exact ⟨0, -1, by omega, rfl, rfl, Kept.refl _ _, Or.inl ⟨rfl, by simp⟩⟩
          case round =>
            obtain ⟨j, at_, hjn, rfl, rfl, hkX, HAT⟩ := hrel
            have HKX := hide hkX
            have HMX := hide ((unhide HM5).kept hkX)
            have HOX := hide ((unhide HO5).kept hkX (by simp))
            by_cases hj : j < nR
            · have t1 : ((j : Int) < (nR : Int)) = True := by simp [hj]
              obtain ⟨x, hx⟩ : ∃ x, R[j]? = some x := ⟨R[j]'(by rw [unhide HNR]; exact hj), List.getElem?_eq_getElem _⟩
              have hwx := ((unhide HMX).tx x (List.mem_of_getElem? hx)).1
              have hlx65 := ((unhide HMX).tx x (List.mem_of_getElem? hx)).2.2.1
              obtain ⟨xka, xkc, hxk⟩ := wide_len hwx
              obtain ⟨g, hg, c0, -, -⟩ := mrow_at (unhide HMX).r hx
              cases hg
              obtain ⟨-, d1, -, -⟩ := box4 (unhide HOX)
              have HSM : ∀ W, Kept [] wr W → Hid (Calls Try.prog 17 #[.slice xka x.key.length xkc, .slice oka o.key.length okc] W fun e w' => e = .returned (.bool (decide (x.key = o.key))) ∧ Kept [] wr w') := fun W hW => by
                have h1 := hwx.kept ((unhide HMX).kp.step hW)
                rw [hxk] at h1
                refine hide ((same_full h1 ((unhide HOA).k.kept ((unhide HMX).kp.step hW)) (by omega)).mono ?_)
                rintro e' w' ⟨q1, q2⟩
                exact ⟨q1, hW.step q2⟩
              rw [hxk] at c0
              obtain ⟨lx, hlx⟩ : ∃ n, x.key.length = n := ⟨_, rfl⟩
              rw [hlx] at c0 HSM
              have HX := hide hx
              clear hx hwx hxk hkX
              by_cases hke : x.key = o.key
              · simp only [hke, decide_true] at HSM
                go_wp2_with fail
                go_region_held3 (fun w' => w'.cell? ⟨g, j * 3, none⟩ = some (.slice xka lx xkc) ∧ w'.cell? ⟨n7, 1, none⟩ = some (.slice oka o.key.length okc)) (first | go_keep | (exact ⟨(unhide HK9).cell' c0, (unhide HK9).cell' d1⟩)) (first
                  | (go_at_call 17; refine (unhide (HSM _ (by first | exact Kept.refl _ _ | exact (Kept.refl _ _).drew | exact (Kept.refl _ _).drew.drew))).mono ?_; rintro e' w9 ⟨rfl, hk9⟩; have HK9 := hide hk9; clear hk9))
                go_wp2_with fail
                refine ⟨⟨j + 1, (j : Int), by omega, by simp, rfl, (unhide HKX).step (unhide HK9), Or.inr ⟨j, x, rfl, unhide HX, hke⟩⟩, by simp [intOf]; omega⟩
              · simp only [hke, decide_false] at HSM
                go_wp2_with fail
                go_region_held3 (fun w' => w'.cell? ⟨g, j * 3, none⟩ = some (.slice xka lx xkc) ∧ w'.cell? ⟨n7, 1, none⟩ = some (.slice oka o.key.length okc)) (first | go_keep | (exact ⟨(unhide HK9).cell' c0, (unhide HK9).cell' d1⟩)) (first
                  | (go_at_call 17; refine (unhide (HSM _ (by first | exact Kept.refl _ _ | exact (Kept.refl _ _).drew | exact (Kept.refl _ _).drew.drew))).mono ?_; rintro e' w9 ⟨rfl, hk9⟩; have HK9 := hide hk9; clear hk9))
                go_wp2_with fail
                refine ⟨⟨j + 1, at_, by omega, by simp, rfl, (unhide HKX).step (unhide HK9), ?_⟩, by simp [intOf]; omega⟩
                rcases unhide HAT with ⟨h1, h2⟩ | h1
                · refine Or.inl ⟨h1, fun y hy => ?_⟩
                  rw [List.take_add_one, unhide HX] at hy
                  rcases List.mem_append.1 hy with hy | hy
                  · exact h2 y hy
                  · simp at hy; subst hy; exact hke
                · exact Or.inr h1
            · obtain rfl : j = nR := by omega
              have t1 : ((j : Int) < (j : Int)) = False := by simp
              have HBX := hide ((unhide HB5).kept hkX (by simp))
              have HAVX := hide ((unhide HAV5).kept hkX (by simp))
              clear hkX
              go_upto_if 63 with fail
              go_cut [4, 10] (fun t4 t10 wc => ∃ (Z : World) (ra2 : Option Addr) (j2 rc2 q : Nat) (R1 : List Me) (x : Me), Z = wc ∧ t4 = .slice ra2 j2 rc2 ∧ t10 = .int .i64 (q : Int) ∧ Hid (MC w Z b T (nxt T o) ra2 j2 rc2 k q R1 x o n7 #[.int .i64 o.kind, .slice oka o.key.length okc, .slice ova o.val.length ovc, .int .i64 o.rev] n8 #[.bool dd, .slice ka kn kc, .slice va vn vc, .int .i64 ar, .int .i64 ((tr : Int) + 1)] (.slice va vn vc) (aval T o)))
              case first =>
                rcases unhide HAT with ⟨rfl, hno⟩ | ⟨q, x, rfl, hq, hqk⟩
                · obtain ⟨-, d1, -, -⟩ := box4 (unhide HOX)
                  have HNO := hide hno
                  clear hno
                  have hka := (Kept.refl [] wr).alloc (.cells #[.slice oka o.key.length okc, .slice none 0 0, .int .i64 0] 44)
                  have HNB := hide (Blk.new wr #[.slice oka o.key.length okc, .slice none 0 0, .int .i64 0] 44)
                  have HMA := hide ((unhide HMX).kept hka)
                  have HOW := hide (unhide HMA).r
                  rw [unhide HNR] at HOW
                  have HOA7 := hide ((unhide HOX).kept hka (by simp))
                  have HBA := hide ((unhide HBX).kept hka (by simp))
                  have HAVA := hide ((unhide HAVX).kept hka (by simp))
                  have hsz := (unhide HMX).kp.size
                  clear hka
                  go_wp2_with (first
                    | (at_builtin; refine wpList_push_row (w := w) rfl _ _ rfl rfl HOW ⟨o.key, [], 0, .slice oka o.key.length okc, .slice none 0 0⟩ rfl rfl rfl HNB (by omega) (by rw [World.size_alloc]; omega) ?_
                       intro ra8 rc8 Y hY)
                    | fail)
                  go_meet
                  refine ⟨_, ra8, j + 1, rc8, j, _, _, rfl, rfl, by simp, MC.new (unhide HMA) (unhide HI) (unhide HNR) (by omega) (unhide HNO) (unhide HOA) (unhide HKL) (unhide hY).1 (unhide hY).2 (unhide HLT) (unhide H78) (unhide HOA7) (unhide HBA) (unhide HAVA) (unhide HNG7)⟩
                · have tq : ((q : Int) < 0) = False := by simp
                  have HQ := hide hq
                  have HQK := hide hqk
                  clear hq hqk
                  go_wp2_with fail
                  go_meet
                  exact ⟨_, ra, j, rc, q, R, x, rfl, rfl, rfl, ⟨unhide HMX, unhide HI, unhide HNR, by omega, unhide HQ, unhide HQK, unhide HOX, unhide HBX, unhide HAVX⟩⟩
              case rest =>
              clear HI HNR HMX HOX HBX HAVX HAT HKX HM5 HO5 HB5 HAV5 HAK5 HM HM0 HO0 hRk hjn t1
              obtain ⟨Z, ra2, j2, rc2, q, R2, x, rfl, rfl, rfl, HMC⟩ := hcut
              have HMX := hide (unhide HMC).m
              have HI := hide (unhide HMC).i
              have HNR := hide (unhide HMC).n
              have hRk := (unhide HMC).k
              have HOX := hide (unhide HMC).ob
              have HBX := hide (unhide HMC).bb
              have hav := (unhide HMC).av
              have hq := (unhide HMC).q
              have hqk := (unhide HMC).key
              have hxm := List.mem_of_getElem? hq
              have hvn := unhide HVN
              have hkn := unhide HKN0
              clear HMC
              obtain ⟨ht1, ht2, ht3, ht4⟩ := (unhide HI).told hw hxm hqk
              rw [unhide HAR] at ht1
              rw [unhide HDD] at ht4
              subst ht1
              have hxp := (unhide HI).pos hxm
              obtain ⟨hxw1, hxw2, hxl1, hxl2⟩ := (unhide HMX).tx x hxm
              obtain ⟨xka, xkc, hxk⟩ := wide_len hxw1
              obtain ⟨xva, xvc, hxv⟩ := wide_len hxw2
              obtain ⟨g, hg, c0, c1, c2⟩ := mrow_at (unhide HMX).r hq
              cases hg
              rw [hxk] at c0
              rw [hxv] at c1
              obtain ⟨⟨e0, e1, e2, e3, e4⟩, -⟩ := box5 (unhide HBX)
              obtain ⟨d0, d1, d2, d3⟩ := box4 (unhide HOX)
              rw [ht2] at hvn hav
              rw [ht3] at hkn
              have hkd : o.kind = 2 ∨ o.kind = 3 ∨ o.kind = 4 := by
                have := hwd
                rw [hw] at this
                simpa using this
              have hkey1 : 1 ≤ o.key.length := by
                have := hrg1
                unfold rgt at this
                rcases hkd with h | h | h <;> simp [h] at this <;> omega
              have hqlt : q < j2 := by have := (List.getElem?_eq_some_iff.1 hq).1; rw [unhide HNR] at this; exact this
              have hqi : ((q : Int) < (j2 : Int)) = True := by simp [hqlt]
              have HQ := hide hq
              have HQK := hide hqk
              have HXK := hide hxk
              have HXV := hide hxv
              have HXW := hide hxw2
              have HHAV := hide hav
              have HT4 := hide ht4
              clear ht4 hq hqk hxk hxv hav hxw1 hxw2 ht2 ht3
              by_cases h0 : x.rev = 0
              · rw [if_pos h0] at hvn hkn
                simp only [List.length_nil] at hvn hkn
                have t5 : (0 < kn) = False := by simp; omega
                have t6 : (0 < x.rev) = False := by simp; omega
                obtain ⟨xr, hxr⟩ : ∃ r, x.rev = r := ⟨_, rfl⟩
                obtain ⟨xvl, hxvl⟩ : ∃ r, x.val.length = r := ⟨_, rfl⟩
                rw [hxr] at c2 e3 t6
                rw [hxvl] at c1
                have HXR := hide hxr
                have HKN := hide hkn
                have hx0 : xr = 0 := by rw [← hxr]; exact h0
                have HX0 := hide hx0
                clear hvn hkn hxr hx0 hxp
                go_wp2_with fail
                go_quiet (fail)
                generalize hZ : World.drewN Z _ = Y
                have hkZ : Kept [] Z Y := by rw [← hZ]; exact (Kept.refl _ _).drewN _
                clear hZ
                replace d0 := hkZ.cell' d0
                replace d1 := hkZ.cell' d1
                replace d2 := hkZ.cell' d2
                replace d3 := hkZ.cell' d3
                replace e0 := hkZ.cell' e0
                replace e3 := hkZ.cell' e3
                replace c0 := hkZ.cell' c0
                replace c1 := hkZ.cell' c1
                replace c2 := hkZ.cell' c2
                have HMZ := hide ((unhide HMX).kept hkZ)
                have z0 := own_frozen (unhide HMZ).r (q * 3)
                have z1 := own_frozen (unhide HMZ).r (q * 3 + 1)
                have z2 := own_frozen (unhide HMZ).r (q * 3 + 2)
                rcases hkd with hK | hK | hK
                · have hdd : dd = true := by rw [unhide HT4, if_pos hK]
                  subst hdd
                  rw [hK] at d0
                  have HK2 := hide hK
                  clear hK
                  go_wp2_with fail
                  obtain ⟨R', f1, f2, f3⟩ := end_put (unhide HMZ) (unhide HI) hr hw (unhide HOA) (unhide HQ) (unhide HQK) (unhide HNR) (by rw [unhide HK2]; decide) (unhide HDD) (unhide HRV)
                  have f4 : ((nxt T o).rev : Int) = (tr : Int) + 1 := unhide HRV
                  refine ⟨⟨k + 1, nxt T o, some ⟨g, 0, none⟩, rc2, R', by omega, by rw [f3], by rw [f4], by simp, by rw [f3]; exact f1, f2, by rw [f3]; omega, by omega⟩, by simp [intOf]; omega⟩
                · have hdd : dd = false := by rw [unhide HT4, if_neg (by omega), if_neg (by omega)]; simp [h0]
                  subst hdd
                  rw [hK] at d0
                  have HK2 := hide hK
                  clear hK
                  go_wp2_with fail
                  obtain ⟨R', f1, f2, f3⟩ := end_del (unhide HMZ) (unhide HI) hr hw (unhide HOA) (unhide HQ) (unhide HQK) (unhide HNR) (unhide HK2)
                  have f4 : ((nxt T o).rev : Int) = (tr : Int) + 1 := unhide HRV
                  refine ⟨⟨k + 1, nxt T o, some ⟨g, 0, none⟩, rc2, R', by omega, by rw [f3], by rw [f4], by simp, by rw [f3]; exact f1, f2, by rw [f3]; omega, by omega⟩, by simp [intOf]; omega⟩
                · by_cases hre : x.rev = o.rev
                  · have hdd : dd = true := by rw [unhide HT4, if_neg (by omega), if_pos hK, hre]; simp
                    subst hdd
                    have t8 : (xr == o.rev) = true := by rw [← unhide HXR, hre]; simp
                    rw [hK] at d0
                    have HK2 := hide hK
                    clear hK hre
                    go_wp2_with fail
                    obtain ⟨R', f1, f2, f3⟩ := end_put (unhide HMZ) (unhide HI) hr hw (unhide HOA) (unhide HQ) (unhide HQK) (unhide HNR) (by rw [unhide HK2]; decide) (unhide HDD) (unhide HRV)
                    have f4 : ((nxt T o).rev : Int) = (tr : Int) + 1 := unhide HRV
                    refine ⟨⟨k + 1, nxt T o, some ⟨g, 0, none⟩, rc2, R', by omega, by rw [f3], by rw [f4], by simp, by rw [f3]; exact f1, f2, by rw [f3]; omega, by omega⟩, by simp [intOf]; omega⟩
                  · have hdd : dd = false := by rw [unhide HT4, if_neg (by omega), if_pos hK]; simpa using hre
                    subst hdd
                    have t8 : (xr == o.rev) = false := by rw [← unhide HXR]; simpa using hre
                    rw [hK] at d0
                    have HK2 := hide hK
                    clear hK hre
                    go_wp2_with fail
                    obtain ⟨R', f1, f2, f3⟩ := end_not (unhide HMZ) (unhide HI) hr hw (unhide HOA) (unhide HQ) (unhide HQK) (unhide HNR) (by rw [unhide HK2]; decide) (unhide HDD)
                    have f4 : ((nxt T o).rev : Int) = (tr : Int) + 1 := unhide HRV
                    refine ⟨⟨k + 1, nxt T o, some ⟨g, 0, none⟩, rc2, R', by omega, by rw [f3], by rw [f4], by simp, by rw [f3]; exact f1, f2, by rw [f3]; omega, by omega⟩, by simp [intOf]; omega⟩
              · have hpos : 1 ≤ x.rev := by omega
                rw [if_neg h0] at hvn hkn
                have HSV : ∀ W, Kept [] Z W → Hid (Calls Try.prog 17 #[.slice va vn vc, .slice xva x.val.length xvc] W fun e w' => e = .returned (.bool true) ∧ Kept [] Z w') := fun W hW => by
                  have h1 := unhide HHAV
                  rw [if_neg h0] at h1
                  have h2 := (unhide HXW).kept ((unhide HMX).kp.step hW)
                  rw [unhide HXV] at h2
                  refine hide ((same_full (Or.inl (h1.kept hW (by simp))) h2 (by omega)).mono ?_)
                  rintro e' w' ⟨q1, q2⟩
                  simp only [decide_true] at q1
                  exact ⟨q1, hW.step q2⟩
                have hk0 : 1 ≤ kn := by rw [hkn, unhide HQK]; exact hkey1
                have t5 : (0 < kn) = True := by simp; omega
                have t6 : (0 < x.rev) = True := by simp; omega
                obtain ⟨xr, hxr⟩ : ∃ r, x.rev = r := ⟨_, rfl⟩
                obtain ⟨xvl, hxvl⟩ : ∃ r, x.val.length = r := ⟨_, rfl⟩
                rw [hxr] at c2 e3 t6
                rw [hxvl] at c1 HSV
                have HXR := hide hxr
                clear hvn hkn hxr hxvl hpos hk0 hxp
                go_wp2_with fail
                go_region_held3 (fun w' => (w'.cell? ⟨n8, 1, none⟩ = some (.slice ka kn kc) ∧ w'.cell? ⟨n8, 2, none⟩ = some (.slice va vn vc) ∧ w'.cell? ⟨n8, 3, none⟩ = some (.int .i64 xr)) ∧ w'.cell? ⟨g, q * 3 + 1, none⟩ = some (.slice xva xvl xvc) ∧ w'.cell? ⟨g, q * 3 + 2, none⟩ = some (.int .i64 xr)) (first | go_keep | (exact ⟨⟨(unhide HK9).cell' e1, (unhide HK9).cell' e2, (unhide HK9).cell' e3⟩, (unhide HK9).cell' c1, (unhide HK9).cell' c2⟩)) (first
                  | (go_at_call 17; refine (unhide (HSV _ (by first | exact Kept.refl _ _ | exact (Kept.refl _ _).drew | exact (Kept.refl _ _).drew.drew))).mono ?_; rintro e' w9 ⟨rfl, hk9⟩; have HK9 := hide hk9; clear hk9))
                have hkZ := unhide HK9
                replace d0 := hkZ.cell' d0
                replace d1 := hkZ.cell' d1
                replace d2 := hkZ.cell' d2
                replace d3 := hkZ.cell' d3
                replace e0 := hkZ.cell' e0
                replace e3 := hkZ.cell' e3
                replace c0 := hkZ.cell' c0
                replace c1 := hkZ.cell' c1
                replace c2 := hkZ.cell' c2
                have HMZ := hide ((unhide HMX).kept hkZ)
                have z0 := own_frozen (unhide HMZ).r (q * 3)
                have z1 := own_frozen (unhide HMZ).r (q * 3 + 1)
                have z2 := own_frozen (unhide HMZ).r (q * 3 + 2)
                rcases hkd with hK | hK | hK
                · have hdd : dd = true := by rw [unhide HT4, if_pos hK]
                  subst hdd
                  rw [hK] at d0
                  have HK2 := hide hK
                  clear hK
                  go_wp2_with fail
                  obtain ⟨R', f1, f2, f3⟩ := end_put (unhide HMZ) (unhide HI) hr hw (unhide HOA) (unhide HQ) (unhide HQK) (unhide HNR) (by rw [unhide HK2]; decide) (unhide HDD) (unhide HRV)
                  have f4 : ((nxt T o).rev : Int) = (tr : Int) + 1 := unhide HRV
                  refine ⟨⟨k + 1, nxt T o, some ⟨g, 0, none⟩, rc2, R', by omega, by rw [f3], by rw [f4], by simp, by rw [f3]; exact f1, f2, by rw [f3]; omega, by omega⟩, by simp [intOf]; omega⟩
                · have hdd : dd = true := by rw [unhide HT4, if_neg (by omega), if_neg (by omega)]; simp [h0]
                  subst hdd
                  rw [hK] at d0
                  have HK2 := hide hK
                  clear hK
                  go_wp2_with fail
                  obtain ⟨R', f1, f2, f3⟩ := end_del (unhide HMZ) (unhide HI) hr hw (unhide HOA) (unhide HQ) (unhide HQK) (unhide HNR) (unhide HK2)
                  have f4 : ((nxt T o).rev : Int) = (tr : Int) + 1 := unhide HRV
                  refine ⟨⟨k + 1, nxt T o, some ⟨g, 0, none⟩, rc2, R', by omega, by rw [f3], by rw [f4], by simp, by rw [f3]; exact f1, f2, by rw [f3]; omega, by omega⟩, by simp [intOf]; omega⟩
                · by_cases hre : x.rev = o.rev
                  · have hdd : dd = true := by rw [unhide HT4, if_neg (by omega), if_pos hK, hre]; simp
                    subst hdd
                    have t8 : (xr == o.rev) = true := by rw [← unhide HXR, hre]; simp
                    rw [hK] at d0
                    have HK2 := hide hK
                    clear hK hre
                    go_wp2_with fail
                    obtain ⟨R', f1, f2, f3⟩ := end_put (unhide HMZ) (unhide HI) hr hw (unhide HOA) (unhide HQ) (unhide HQK) (unhide HNR) (by rw [unhide HK2]; decide) (unhide HDD) (unhide HRV)
                    have f4 : ((nxt T o).rev : Int) = (tr : Int) + 1 := unhide HRV
                    refine ⟨⟨k + 1, nxt T o, some ⟨g, 0, none⟩, rc2, R', by omega, by rw [f3], by rw [f4], by simp, by rw [f3]; exact f1, f2, by rw [f3]; omega, by omega⟩, by simp [intOf]; omega⟩
                  · have hdd : dd = false := by rw [unhide HT4, if_neg (by omega), if_pos hK]; simpa using hre
                    subst hdd
                    have t8 : (xr == o.rev) = false := by rw [← unhide HXR]; simpa using hre
                    rw [hK] at d0
                    have HK2 := hide hK
                    clear hK hre
                    go_wp2_with fail
                    obtain ⟨R', f1, f2, f3⟩ := end_not (unhide HMZ) (unhide HI) hr hw (unhide HOA) (unhide HQ) (unhide HQK) (unhide HNR) (by rw [unhide HK2]; decide) (unhide HDD)
                    have f4 : ((nxt T o).rev : Int) = (tr : Int) + 1 := unhide HRV
                    refine ⟨⟨k + 1, nxt T o, some ⟨g, 0, none⟩, rc2, R', by omega, by rw [f3], by rw [f4], by simp, by rw [f3]; exact f1, f2, by rw [f3]; omega, by omega⟩, by simp [intOf]; omega⟩
        · replace hw : wrs o = false := by simpa using hw
          rw [hw] at HWR
          go_wp2_with (first
            | (go_at_call 9; refine (unhide HD).mono ?_; rintro e w4 ⟨ka, kn, kc, va, vn, vc, rfl, hA⟩
               have hkq := (Kept.refl [] w4).alloc (.cells #[.bool dd, .slice ka kn kc, .slice va vn vc, .int .i64 ar, .int .i64 rv] 29)
               have HM4 := hide (((unhide HM0).did hA.kp hA.t).kept hkq)
               have ho4 := ((unhide HO0).kept hA.kp (by simp; have := (unhide HM).tab; obtain ⟨q0, hbb, -⟩ := this; have := hbb.lt; omega)).alloc (.cells #[.bool dd, .slice ka kn kc, .slice va vn vc, .int .i64 ar, .int .i64 rv] 29)
               obtain ⟨p0, p1, p2, p3⟩ := box4 ho4
               clear hA hkq HD ho4)
            | (go_at_call 12; refine (unhide (HWR _)).mono ?_; rintro e w5 ⟨rfl, hk5⟩
               have HM5 := hide ((unhide HM4).kept hk5)
               clear hk5 HM4)
            | fail)
          refine ⟨⟨k + 1, nxt T o, ra, rc, R, by omega, by rw [unhide HNR], ?_, by simp, by rw [unhide HNR]; exact unhide HM5, (unhide HI).same hw, by rw [unhide HNR]; omega, ?_⟩, by simp [intOf]; omega⟩
          · rw [read_nxt hw, unhide HTR]
          · rw [read_nxt hw, unhide HTR]; omega
      · have HD := hide (Do_no (unhide HM0).tab (hoa.kept (unhide HM0).kp) hr)
        unfold opv at HD
        obtain ⟨h131, hrg0⟩ := rfs_no (by rw [unhide HTR]; omega) hr
        rw [h131] at HD
        clear hm hi hrg hoa hlk hlv cc
        go_wp2_with (first
          | (go_at_call 9; refine (unhide HD).mono ?_; rintro e w4 ⟨rfl, hk4⟩
             have HM4 := hide ((unhide HM0).kept (hk4.alloc (.cells #[.bool false, .slice none 0 0, .slice none 0 0, .int .i64 0, .int .i64 0] 29)))
             clear hk4 HD)
          | fail)
        refine ⟨⟨k + 1, T, ra, rc, R, by omega, by rw [unhide HNR], by rw [unhide HTR], by simp, by rw [unhide HNR]; exact unhide HM4, unhide HI, by rw [unhide HNR]; omega, by rw [unhide HTR]; omega⟩, by simp [intOf]; omega⟩
    · obtain rfl : k = L := by omega
      have hki : ((k : Int) < (k : Int)) = False := by simp
      have hsz1 : T.t.size ≤ 1048576 := by have := hTok.size; have := unhide HTR; omega
      have HRW := hide (rows_any hm.tab hTok hsz1)
      have HOKT := hide hTok
      clear hm hi hTok
      go_wp2_with (first
        | (go_at_call 18; refine (unhide HRW).mono ?_; rintro e w5 ⟨v, l, rfl, hl1, hl2, hl3, hk5⟩
           obtain ⟨la, lc, rfl⟩ := own_len hl2
           have HL1 := hide hl1
           have HL2 := hide hl2
           have HL3 := hide hl3
           have HM5 := hide ((unhide HM).kept hk5)
           clear HRW hl1 hl2 hl3 hk5)
        | fail)
      obtain ⟨N, hN⟩ : ∃ N, l.length = N := ⟨_, rfl⟩
      rw [hN] at HL2 ⊢
      have hTs : T.t.size = N := by rw [← hN, ← Tr.list_length, ← unhide HL1, List.length_map]
      have hN20 : N ≤ 1048576 := by omega
      have hcnt : (live R).length = N := by rw [(unhide HI).count, Tr.list_length, hTs]
      have HN2 := hide hN
      have HTS := hide hTs
      have HCNT := hide hcnt
      clear hN hTs hcnt hsz1
      go_loopw [14, 15] (fun m i X => ∃ (j : Nat), j ≤ nR ∧ m = .int .i64 ((live (R.take j)).length : Int) ∧ i = .int .i64 (j : Int) ∧ Kept [] w5 X) (fun _ i _ => nR - (intOf i).toNat)
      case atStart => exact ⟨0, by omega, rfl, rfl, Kept.refl _ _⟩
      case round =>
        obtain ⟨j, hjn, rfl, rfl, hkX⟩ := hrel
        have HKX := hide hkX
        have HMX := hide ((unhide HM5).kept hkX)
        obtain ⟨lv, hlv⟩ : ∃ n, (live (R.take j)).length = n := ⟨_, rfl⟩
        have hlvj : lv ≤ j := by
          rw [← hlv]
          have h1 : (live (R.take j)).length ≤ (R.take j).length := List.length_filter_le _ _
          have h2 : (R.take j).length ≤ j := List.length_take_le _ _
          omega
        rw [hlv]
        have HLV := hide hlv
        clear hkX hlv
        by_cases hj : j < nR
        · have t1 : ((j : Int) < (nR : Int)) = True := by simp [hj]
          obtain ⟨x, hx⟩ : ∃ x, R[j]? = some x := ⟨R[j]'(by rw [unhide HNR]; exact hj), List.getElem?_eq_getElem _⟩
          have hxm := List.mem_of_getElem? hx
          obtain ⟨hxw1, hxw2, hxl1, hxl2⟩ := (unhide HMX).tx x hxm
          obtain ⟨xka, xkc, hxk⟩ := wide_len hxw1
          obtain ⟨xva, xvc, hxv⟩ := wide_len hxw2
          obtain ⟨g, hg, c0, c1, c2⟩ := mrow_at (unhide HMX).r hx
          cases hg
          have hlt2 := live_take hx
          rw [unhide HLV] at hlt2
          have HX := hide hx
          have HXW1 := hide hxw1
          have HXW2 := hide hxw2
          have HXK := hide hxk
          have HXV := hide hxv
          clear hx hxw1 hxw2 hxk hxv c0 c1
          by_cases h0 : x.rev = 0
          · rw [if_pos h0] at hlt2
            have HLT2 := hide hlt2
            rw [h0] at c2
            clear hlt2 h0 hxm
            go_wp2_with fail
            refine ⟨⟨j + 1, by omega, by rw [unhide HLT2]; simp, by simp, unhide HKX⟩, by simp [intOf]; omega⟩
          · rw [if_neg h0] at hlt2
            have HLT2 := hide hlt2
            obtain ⟨mm, am, hml, hma, q1, q2, q3⟩ := (unhide HI).there hxm h0 (unhide HL1)
            have HAM : Hid (mm < N ∧ l[mm]? = some am ∧ byts am.e.1 = x.key ∧ byts am.e.2.1 = x.val ∧ am.e.2.2 = x.rev) := ⟨by rw [← unhide HN2]; exact hml, hma, q1, q2, q3⟩
            obtain ⟨xr, hxr⟩ : ∃ r, x.rev = r := ⟨_, rfl⟩
            rw [hxr] at c2 h0
            have t2 : (xr == 0) = false := by simpa using h0
            have HXR := hide hxr
            clear hlt2 h0 hxm hml hma q1 q2 q3 hxr
            go_wp2_with fail
            go_loopw [16, 17] (fun f i Y => ∃ (m : Nat) (fb : Bool), m ≤ N ∧ f = .bool fb ∧ i = .int .i64 (m : Int) ∧ Kept [] w5 Y ∧ Hid (fb = true ∨ ∀ m' a', m' < m → l[m']? = some a' → ¬ (byts a'.e.1 = x.key ∧ byts a'.e.2.1 = x.val ∧ a'.e.2.2 = x.rev))) (fun _ i _ => N - (intOf i).toNat)
            case atStart => exact ⟨0, false, by omega, rfl, rfl, unhide HKX, Or.inr (fun m' a' h => by omega)⟩
            case round =>
              obtain ⟨m, fb, hmN, rfl, rfl, hkY, HF⟩ := hrel
              have HKY := hide hkY
              by_cases hm : m < N
              · have t3 : ((m : Int) < (N : Int)) = True := by simp [hm]
                cases fb
                · obtain ⟨a, ha⟩ : ∃ a, l[m]? = some a := ⟨l[m]'(by rw [unhide HN2]; exact hm), List.getElem?_eq_getElem _⟩
                  have HMY := hide ((unhide HM5).kept hkY)
                  obtain ⟨g', hg', d0, d1, d2⟩ := mrow_at (unhide HMY).r (unhide HX)
                  cases hg'
                  obtain ⟨h, hh, s0, s1, s2⟩ := rrow_at (own_kept (unhide HL2) hkY (by simp)) ha
                  cases hh
                  obtain ⟨st1, st2⟩ := unhide HL3 a (List.mem_of_getElem? ha)
                  have sk := st1.1.kept hkY (by simp)
                  have sv := st2.1.kept hkY (by simp)
                  obtain ⟨ka, kc, hka⟩ := sees_len sk
                  obtain ⟨va, vc, hva⟩ := sees_len sv
                  rw [hka] at s0 sk
                  rw [hva] at s1 sv
                  rw [unhide HXK] at d0
                  rw [unhide HXV] at d1
                  rw [unhide HXR] at d2
                  have hn1 : (byts a.e.1).length ≤ 140737488355328 := by
                    have hm2 : a.e ∈ T.t.list := by rw [← unhide HL1]; exact List.mem_map.2 ⟨a, List.mem_of_getElem? ha, rfl⟩
                    have := ((unhide HOKT).ok.rows _ hm2).1
                    rw [byts_len]; omega
                  have hn2 : (byts a.e.2.1).length ≤ 140737488355328 := by
                    have hm2 : a.e ∈ T.t.list := by rw [← unhide HL1]; exact List.mem_map.2 ⟨a, List.mem_of_getElem? ha, rfl⟩
                    have := ((unhide HOKT).ok.rows _ hm2).2.1
                    rw [byts_len]; omega
                  have HSR : ∀ W, Kept [] wr W → Hid (Calls Try.prog 19 #[.agg #[.slice ka (byts a.e.1).length kc, .slice va (byts a.e.2.1).length vc, .int .i64 a.e.2.2], .agg #[.slice xka x.key.length xkc, .slice xva x.val.length xvc, .int .i64 xr]] W fun e w' => e = .returned (.bool (decide (byts a.e.1 = x.key ∧ byts a.e.2.1 = x.val ∧ a.e.2.2 = xr))) ∧ Kept [] wr w') := fun W hk => by
                    have y1 := (unhide HXW1).kept ((unhide HMY).kp.step hk)
                    have y2 := (unhide HXW2).kept ((unhide HMY).kp.step hk)
                    rw [unhide HXK] at y1
                    rw [unhide HXV] at y2
                    refine hide ((sameRow_any a.e.2.2 xr (Or.inl (sk.kept hk (by simp))) (Or.inl (sv.kept hk (by simp))) y1 y2 hn1 hn2).mono ?_)
                    rintro e' w' ⟨h1, h2⟩
                    exact ⟨h1, hk.step h2⟩
                  have HA := hide ha
                  obtain ⟨n1, hn1'⟩ : ∃ n, (byts a.e.1).length = n := ⟨_, rfl⟩
                  obtain ⟨n2, hn2'⟩ : ∃ n, (byts a.e.2.1).length = n := ⟨_, rfl⟩
                  obtain ⟨n3, hn3'⟩ : ∃ n, x.key.length = n := ⟨_, rfl⟩
                  obtain ⟨n4, hn4'⟩ : ∃ n, x.val.length = n := ⟨_, rfl⟩
                  obtain ⟨ar, har⟩ : ∃ n, a.e.2.2 = n := ⟨_, rfl⟩
                  rw [hn3'] at d0
                  rw [hn4'] at d1
                  rw [hn1'] at s0
                  rw [hn2'] at s1
                  rw [har] at s2
                  rw [hn1', hn2', hn3', hn4', har] at HSR
                  have HAR := hide har
                  clear ha hka hva sk sv st1 st2 hn1 hn2 hn1' hn2' hn3' hn4' har hkY
                  by_cases hmt : byts a.e.1 = x.key ∧ byts a.e.2.1 = x.val ∧ ar = xr
                  · rw [decide_eq_true hmt] at HSR
                    have HMT := hide hmt
                    clear hmt
                    go_wp2_with fail
                    go_region_held3 (fun w' => (w'.cell? ⟨h, m * 3, none⟩ = some (.slice ka n1 kc) ∧ w'.cell? ⟨h, m * 3 + 1, none⟩ = some (.slice va n2 vc) ∧ w'.cell? ⟨h, m * 3 + 2, none⟩ = some (.int .i64 ar)) ∧ w'.cell? ⟨g, j * 3, none⟩ = some (.slice xka n3 xkc) ∧ w'.cell? ⟨g, j * 3 + 1, none⟩ = some (.slice xva n4 xvc) ∧ w'.cell? ⟨g, j * 3 + 2, none⟩ = some (.int .i64 xr)) (first | go_keep | (exact ⟨⟨(unhide HK9).cell' s0, (unhide HK9).cell' s1, (unhide HK9).cell' s2⟩, (unhide HK9).cell' d0, (unhide HK9).cell' d1, (unhide HK9).cell' d2⟩)) (first
                      | (go_at_call 19; refine (unhide (HSR _ (by first | exact Kept.refl _ _ | exact (Kept.refl _ _).drew | exact (Kept.refl _ _).drew.drew))).mono ?_; rintro e' w9 ⟨rfl, hk9⟩; have HK9 := hide hk9; clear hk9))
                    go_wp2_with fail
                    refine ⟨⟨m + 1, true, by omega, rfl, by simp, (unhide HKY).step (unhide HK9), Or.inl rfl⟩, by simp [intOf]; omega⟩
                  · rw [decide_eq_false hmt] at HSR
                    have HMT := hide hmt
                    clear hmt
                    go_wp2_with fail
                    go_region_held3 (fun w' => (w'.cell? ⟨h, m * 3, none⟩ = some (.slice ka n1 kc) ∧ w'.cell? ⟨h, m * 3 + 1, none⟩ = some (.slice va n2 vc) ∧ w'.cell? ⟨h, m * 3 + 2, none⟩ = some (.int .i64 ar)) ∧ w'.cell? ⟨g, j * 3, none⟩ = some (.slice xka n3 xkc) ∧ w'.cell? ⟨g, j * 3 + 1, none⟩ = some (.slice xva n4 xvc) ∧ w'.cell? ⟨g, j * 3 + 2, none⟩ = some (.int .i64 xr)) (first | go_keep | (exact ⟨⟨(unhide HK9).cell' s0, (unhide HK9).cell' s1, (unhide HK9).cell' s2⟩, (unhide HK9).cell' d0, (unhide HK9).cell' d1, (unhide HK9).cell' d2⟩)) (first
                      | (go_at_call 19; refine (unhide (HSR _ (by first | exact Kept.refl _ _ | exact (Kept.refl _ _).drew | exact (Kept.refl _ _).drew.drew))).mono ?_; rintro e' w9 ⟨rfl, hk9⟩; have HK9 := hide hk9; clear hk9))
                    go_wp2_with fail
                    refine ⟨⟨m + 1, false, by omega, rfl, by simp, (unhide HKY).step (unhide HK9), Or.inr (fun m' a' h1 h2 => ?_)⟩, by simp [intOf]; omega⟩
                    rcases Nat.lt_or_ge m' m with h3 | h3
                    · rcases unhide HF with h4 | h4
                      · cases h4
                      · exact h4 m' a' h3 h2
                    · obtain rfl : m' = m := by omega
                      rw [unhide HA] at h2
                      cases h2
                      rw [unhide HAR, unhide HXR]
                      exact unhide HMT
                · clear hkY
                  go_wp2_with fail
                  go_quiet (fail)
                  go_wp2_with fail
                  refine ⟨⟨m + 1, true, by omega, rfl, by simp, (unhide HKY).step ((Kept.refl [] wr).drewN _), Or.inl rfl⟩, by simp [intOf]; omega⟩
              · obtain rfl : m = N := by omega
                have t3 : ((m : Int) < (m : Int)) = False := by simp
                have hfb : fb = true := by
                  rcases unhide HF with h4 | h4
                  · exact h4
                  · obtain ⟨h5, h6, h7⟩ := unhide HAM
                    exact absurd h7 (h4 mm am h5 h6)
                subst hfb
                clear hkY
                go_wp2_with fail
                refine ⟨⟨j + 1, by omega, by rw [unhide HLT2]; simp, by simp, unhide HKY⟩, by simp [intOf]; omega⟩
        · obtain rfl : j = nR := by omega
          have t1 : ((j : Int) < (j : Int)) = False := by simp
          obtain rfl : lv = N := by rw [← unhide HLV, List.take_of_length_le (by rw [unhide HNR]; omega)]; exact unhide HCNT
          have HLN := fun W (hk : Kept [] w5 W) => hide (tlen_any ((unhide HM5).tab.kept hk) (unhide HOKT).ok)
          have HRV := fun W (hk : Kept [] w5 W) => hide (trev_any ((unhide HM5).tab.kept hk))
          rw [unhide HTS] at HLN
          rw [unhide HTR] at HRV
          clear HLV HMX
          go_wp2_with fail
          go_loopw [18] (fun i Y => ∃ m : Nat, i = .int .i64 ((m : Int) + 1) ∧ (m + 1 ≤ lv ∨ m = 0) ∧ Kept [] w5 Y) (fun i _ => lv - (intOf i).toNat)
          case atStart => exact ⟨0, rfl, Or.inr rfl, unhide HKX⟩
          case round =>
            obtain ⟨m, rfl, hm1, hkY⟩ := hrel
            have HKY := hide hkY
            by_cases hm : m + 1 < lv
            · have t3 : ((m : Int) + 1 < (lv : Int)) = True := by simp; omega
              have hwrap : IntKind.i64.wrap ((m : Int) + 1 - 1) = (m : Int) := by rw [IntKind.wrap_i64]; omega
              have t4 : ((m : Int) < (lv : Int)) = True := by simp; omega
              have t5 : (0 : Int) ≤ (m : Int) + 1 := by omega
              have t6 : (0 : Int) ≤ (m : Int) := by omega
              have t7 : (m : Int) + 1 < (lv : Int) := by omega
              have t8 : (m : Int) < (lv : Int) := by omega
              have t9 : IntKind.i64.wrap (m : Int) = (m : Int) := by rw [IntKind.wrap_i64]; omega
              have hmt : ((m : Int) + 1).toNat = m + 1 := by omega
              obtain ⟨a, ha⟩ : ∃ a, l[m]? = some a := ⟨l[m]'(by rw [unhide HN2]; omega), List.getElem?_eq_getElem _⟩
              obtain ⟨c, hc⟩ : ∃ c, l[m + 1]? = some c := ⟨l[m + 1]'(by rw [unhide HN2]; omega), List.getElem?_eq_getElem _⟩
              obtain ⟨h, hh, s0, -, -⟩ := rrow_at (own_kept (unhide HL2) hkY (by simp)) ha
              cases hh
              obtain ⟨h', hh', u0, -, -⟩ := rrow_at (own_kept (unhide HL2) hkY (by simp)) hc
              cases hh'
              have sk := ((unhide HL3 a (List.mem_of_getElem? ha)).1).1.kept hkY (by simp)
              have sc := ((unhide HL3 c (List.mem_of_getElem? hc)).1).1.kept hkY (by simp)
              obtain ⟨ka, kc, hka⟩ := sees_len sk
              obtain ⟨va, vc, hva⟩ := sees_len sc
              rw [hka] at s0 sk
              rw [hva] at u0 sc
              have hord : Op.bytesLess a.e.1.data.toList c.e.1.data.toList = true := by
                have hr := (unhide HOKT).ok.rise
                rw [← unhide HL1] at hr
                have := List.pairwise_iff_getElem.1 hr m (m + 1) (by rw [List.length_map, unhide HN2]; omega) (by rw [List.length_map, unhide HN2]; omega) (by omega)
                rw [List.getElem_map, List.getElem_map] at this
                have h1 : l[m]'(by rw [unhide HN2]; omega) = a := by rw [List.getElem?_eq_getElem (by rw [unhide HN2]; omega)] at ha; exact Option.some.inj ha
                have h2 : l[m + 1]'(by rw [unhide HN2]; omega) = c := by rw [List.getElem?_eq_getElem (by rw [unhide HN2]; omega)] at hc; exact Option.some.inj hc
                rw [h1, h2] at this
                have h3 : KOrd.lt a.e.1 c.e.1 = true := this
                rw [klt_str, ByteArray.toList_eq, ByteArray.toList_eq] at h3
                exact h3
              have hz : ∀ y, y ∈ l → y.e.1.data.toList.length ≤ 140737488355328 := fun y hy => by
                have hm2 : y.e ∈ T.t.list := by rw [← unhide HL1]; exact List.mem_map.2 ⟨y, hy, rfl⟩
                have h1 := ((unhide HOKT).ok.rows _ hm2).1
                have h2 : y.e.1.data.toList.length = y.e.1.size := by rw [Array.length_toList]; rfl
                omega
              have hz1 := hz a (List.mem_of_getElem? ha)
              have hz2 := hz c (List.mem_of_getElem? hc)
              have HCM : ∀ W, Kept [] wr W → Hid (Calls Try.prog 20 #[.slice ka (byts a.e.1).length kc, .slice va (byts c.e.1).length vc] W fun e w' => e = .returned (.bool true) ∧ Kept [] wr w') := fun W hk => by
                refine hide ((comes_yes (x := a.e.1.data.toList) (y := c.e.1.data.toList) (Or.inl (sk.kept hk (by simp))) (Or.inl (sc.kept hk (by simp))) hord hz1 hz2).mono ?_)
                rintro e' w' ⟨h1, h2⟩
                exact ⟨h1, hk.step h2⟩
              obtain ⟨n1, hn1'⟩ : ∃ n, (byts a.e.1).length = n := ⟨_, rfl⟩
              obtain ⟨n2, hn2'⟩ : ∃ n, (byts c.e.1).length = n := ⟨_, rfl⟩
              rw [hn1'] at s0
              rw [hn2'] at u0
              rw [hn1', hn2'] at HCM
              clear ha hc hka hva sk sc hord hz hz1 hz2 hn1' hn2' hkY hm1
              go_wp2_with fail
              go_region_held3 (fun w' => w'.cell? ⟨h, m * 3, none⟩ = some (.slice ka n1 kc) ∧ w'.cell? ⟨h, (m + 1) * 3, none⟩ = some (.slice va n2 vc)) (first | go_keep | (exact ⟨(unhide HK9).cell' s0, (unhide HK9).cell' u0⟩)) (first
                | (go_at_call 20; refine (unhide (HCM _ (by first | exact Kept.refl _ _ | exact (Kept.refl _ _).drew | exact (Kept.refl _ _).drew.drew))).mono ?_; rintro e' w9 ⟨rfl, hk9⟩; have HK9 := hide hk9; clear hk9))
              go_wp2_with fail
              refine ⟨⟨m + 1, by simp, Or.inl (by omega), (unhide HKY).step (unhide HK9)⟩, by simp [intOf]; omega⟩
            · have t3 : ((m : Int) + 1 < (lv : Int)) = False := by simp; omega
              go_wp2_with (first
                | (go_at_call 14; refine (unhide (HLN _ (unhide HKY))).mono ?_; rintro e w6 ⟨rfl, hq⟩; have hq2 := hq.symm; subst hq2)
                | (go_at_call 13; refine (unhide (HRV _ (unhide HKY))).mono ?_; rintro e w6 ⟨rfl, hq⟩; have hq2 := hq.symm; subst hq2)
                | fail)
              go_ret
              exact ⟨rfl, (unhide HM5).kp.step (unhide HKY)⟩
end Go.Proofs.Ytkejpbfbpomjfaa.tre
