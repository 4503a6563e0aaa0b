/- TreeParts: split and joined, put and taken away. -/
import Derived.Test.YtbpeeifgfjpghabTPartsP
import Derived.Test.YtbpeeifgfjpghabTAlike
import Derived.Test.YtbpeeifgfjpghabTMade2
namespace Go.Proofs.Ytbpeeifgfjpghab
open Go.RowKit Go.Shelf
set_option linter.unusedVariables false
attribute [local go_sem] Oper.semAt_some

set_option maxRecDepth 100000 in
set_option maxHeartbeats 8000000 in
theorem parts_walk {w : World} {v : Value} {os : List OpI} {key val : Int} (h : Ops w v os) (hl : os.length ≤ 4398046511104) (hk64 : in64 key) : Calls Try.prog 5 #[v, .int .i64 key, .int .i64 val] w fun e w' => e = .returned (.bool true) ∧ Kept [] w w' := by
  have hnf : ∀ (b : Nat) (W : World), (binOp BinOp.eql 31 (.func (.func 38) #[] #[.pointer (some ⟨b, 0, none⟩)]) .nilFunc).run Try.prog W = .ok (.bool false) W := fun b W => by kernel_rfl
  have HOPS := hide h
  obtain ⟨a, cap, rfl, -, -, -, -⟩ := h
  have HKN := hide (fun (W : World) => known_any W)
  refine (callsIn_wide (n := 0)).1 ?_
  refine callsIn_of_wp_marks Try.func5 rfl trivial ?_ rfl
  simp only [Try.ntmps5, List.size_toArray, List.length_cons, List.length_nil, Nat.reduceAdd, Nat.reduceSub, Array.replicate_succ, Array.replicate_zero, List.push_toArray, List.append_toArray, List.nil_append, List.cons_append]
  gi_wp2_with (refine ⟨trivial, rfl, ?_⟩; gi_at_call 6; refine (callsIn_wide.2 (unhide HKN _)).mono ?_; rintro e w1 ⟨rfl, hk1⟩; have HK1 := hide hk1; clear hk1)
  have hk0 : Kept [] w ((w.alloc (.cells #[.int .i64 key] 3)).alloc (.cells #[.bool false] 4)) := ((Kept.refl [] w).alloc _).alloc _
  have hk1 := hk0.trans (unhide HK1) (by simp)
  have hbk : Blk w1 w.heap.size #[.int .i64 key] 3 := ((Blk.new w #[.int .i64 key] 3).alloc _).kept (unhide HK1) (by simp)
  have hbr0 := Blk.new (w.alloc (.cells #[.int .i64 key] 3)) #[.bool false] 4
  rw [World.size_alloc] at hbr0
  have hbr := hbr0.kept (unhide HK1) (by simp)
  have HM := hide (made_any ((unhide HOPS).kept hk1) hl)
  refine ⟨trivial, rfl, ?_⟩
  refine (callsIn_wide.2 (unhide HM)).mono ?_
  rintro e w2 ⟨v', ts, Ks, rfl, hrow, hne, hlen, hfine, hKs, hk2⟩
  obtain ⟨va, vc, rfl⟩ := hrow.val
  have hpos : 0 < ts.length := List.length_pos_iff.2 hne
  obtain ⟨-, g, q, rfl, hcell, htt⟩ := hrow.get (ts.length - 1) (by omega)
  have hmem : ts[ts.length - 1] ∈ ts := List.getElem_mem _
  have hf := hfine _ hmem
  have hsz : (ts[ts.length - 1]).size ≤ 4398046511104 := Nat.le_trans hf.size (by omega)
  generalize ts[ts.length - 1] = t at *
  generalize hn : ts.length = n at *
  have hn2 : n ≤ 17592186044416 := by omega
  obtain ⟨m, rfl⟩ : ∃ m, n = m + 1 := ⟨n - 1, by omega⟩
  rw [Nat.add_sub_cancel] at hcell
  have i1 : (m : Int) < (m : Int) + 1 := by omega
  have i2 : (m : Int) + 1 - 1 = (m : Int) := by omega
  have HTT := hide htt
  have hri := hf.1
  have HRI := hide hri
  have HKW := hide (hk1.trans hk2 (by simp))
  have hbk2 := hbk.kept hk2 (by simp)
  have HBK := hide hbk2
  have HBR := hide (hbr.kept hk2 (by simp))
  have ckey := hbk2.cell 0
  simp only [List.getElem?_toArray, List.getElem?_cons_zero] at ckey
  have hsz2 : t.size < 4611686018427384000 := by omega
  have HSP := hide (Split_any key htt hsz2)
  have hss := t.split_size key
  have HJF : Hid (∀ W q1 q2, Tt W q1 (t.split key).1 → Tt W q2 (t.split key).2 → Calls Try.prog 15 #[.pointer q1, .pointer q2] W fun e w' => ∃ q3, e = .returned (.tuple #[.pointer q3, .int .i64 0]) ∧ Tt w' q3 (Tr.meet (t.split key).1 (t.split key).2) ∧ Kept [] W w') := fun W q1 q2 h1 h2 => (Join_any h1 h2 (by omega)).mono (by
    rintro e w' ⟨hk, ⟨q3, h3, h4, _⟩ | ⟨_, h4⟩⟩
    · exact ⟨q3, h3, h4, hk⟩
    · exact absurd (apts_split hri key) h4)
  clear hbr hbr0 hrow hfine hf htt hmem hne HM HK1 hk2 hlen hKs hn hpos hbk hk0 hk1 hbk2 HKN HOPS hri
  gi_wp2_with (first
    | (refine ⟨trivial, rfl, ?_⟩; gi_at_call 14; refine (callsIn_wide.2 (unhide HSP)).mono ?_; rintro e w3 ⟨qa, qb, rfl, hta, htb, hk3⟩; have HTA := hide hta; have HTB := hide htb; have HK3 := hide hk3; have HJN := hide (unhide HJF _ _ _ hta htb); have ckey3 := hk3.cell' ckey; clear hta htb hk3)
    | (refine ⟨trivial, rfl, ?_⟩; gi_at_call 15; refine (callsIn_wide.2 (unhide HJN)).mono ?_; rintro e w4 ⟨qj, rfl, htj, hk4⟩; have HTJ := hide htj; have HK4 := hide hk4; have ckey4 := hk4.cell' ckey3; clear htj hk4))
  have hkt4 := (unhide HK3).trans (unhide HK4) (by simp)
  have hmz : (Tr.meet (t.split key).1 (t.split key).2).size = t.size := by rw [Tr.meet_size]; omega
  have HNU := hide (fun (W : World) => num_any (w := W) 0)
  have HR1 : Hid (∀ W, Kept [] w4 W → Calls Try.prog 8 #[.pointer qj] W fun e w' => ∃ b vv, e = .returned vv ∧ w'.ownsRow b 3 1 vv (flat t.list).length (ints (flat t.list)) ∧ Kept [] W w' ∧ Kept [] w4 w') := fun W hW => by
    have h1 := row_any ((unhide HTJ).kept hW) (by rw [hmz]; omega)
    rw [join_split (unhide HRI) key] at h1
    exact h1.mono (by rintro e w' ⟨vv, h2, h3, h4⟩; exact ⟨_, vv, h2, h3, h4, hW.trans h4 (by simp)⟩)
  have HR2 : Hid (∀ W, Kept [] w4 W → Calls Try.prog 8 #[.pointer q] W fun e w' => ∃ b vv, e = .returned vv ∧ w'.ownsRow b 3 1 vv (flat t.list).length (ints (flat t.list)) ∧ Kept [] W w' ∧ Kept [] w4 w') := fun W hW =>
    (row_any ((unhide HTT).kept (hkt4.trans hW (by simp))) (by omega)).mono (by rintro e w' ⟨vv, h2, h3, h4⟩; exact ⟨_, vv, h2, h3, h4, hW.trans h4 (by simp)⟩)
  have hfl : (flat t.list).length ≤ 4611686018427387904 := by rw [flat_len, Tr.list_length]; omega
  have HLA : Hid (∀ W, Kept [] w4 W → Calls Try.prog 16 #[.pointer qa] W fun e w' => e = .returned (.int .i64 (t.rank key : Nat)) ∧ w' = W) := fun W hW => by
    have := Len_any ((unhide HTA).kept ((unhide HK4).trans hW (by simp))); rw [split_rank (unhide HRI) key] at this; exact this
  have HLA2 := HLA
  have HLB : Hid (∀ W, Kept [] w4 W → Calls Try.prog 16 #[.pointer qb] W fun e w' => e = .returned (.int .i64 (((t.split key).2).size : Nat)) ∧ w' = W) := fun W hW => Len_any ((unhide HTB).kept ((unhide HK4).trans hW (by simp)))
  have HLT : Hid (∀ W, Kept [] w4 W → Calls Try.prog 16 #[.pointer q] W fun e w' => e = .returned (.int .i64 (t.size : Nat)) ∧ w' = W) := fun W hW => Len_any ((unhide HTT).kept (hkt4.trans hW (by simp)))
  have HRK : Hid (∀ W, Kept [] w4 W → Calls Try.prog 19 #[.pointer q, .int .i64 key] W fun e w' => e = .returned (.int .i64 (t.rank key : Nat)) ∧ w' = W) := fun W hW => Rank_any key ((unhide HTT).kept (hkt4.trans hW (by simp))) hsz2
  rw [split_rank (unhide HRI) key] at hss
  have HKT := hide hkt4
  obtain ⟨bs, hbs⟩ : ∃ bs, (t.split key).2.size = bs := ⟨_, rfl⟩
  obtain ⟨rk, hrk⟩ : ∃ rk, t.rank key = rk := ⟨_, rfl⟩
  obtain ⟨tz, htz⟩ : ∃ tz, t.size = tz := ⟨_, rfl⟩
  rw [hbs] at HLB hss
  rw [hrk] at HLA HLA2 HRK hss
  rw [htz] at HLT hss
  have e5 : ((rk : Int) + (bs : Int) = (tz : Int)) = True := by simp only [eq_iff_iff, iff_true]; omega
  have hw5 : IntKind.i64.wrap ((rk : Int) + (bs : Int)) = (tz : Int) := by rw [IntKind.wrap_i64]; omega
  have HBS := hide hbs
  have HRKE := hide hrk
  have HTZ := hide htz
  have HSS := hide hss
  clear hkt4 hbs hrk htz hss hmz
  refine wpIn_wide.2 ?_
  go_region_held3 (fun w' => w'.cell? ⟨w.heap.size, 0, none⟩ = some (.int .i64 key)) (first | go_keep | (exact (unhide HKC).cell' ckey4)) (first
    | (go_at_call 21; refine (unhide HNU _).mono ?_; rintro e w5 ⟨rfl, hq⟩; have hq' := hq.symm; subst hq'; clear HNU)
    | (go_at_call 8; refine (unhide HR1 _ (by first | exact Kept.refl _ _ | exact (Kept.refl _ _).drew | exact (unhide HKC) | exact (unhide HKC).drew)).mono ?_; rintro e w5 ⟨b5, v5, rfl, ho5, hk5, hk5'⟩; obtain ⟨a5, c5, rfl⟩ := own_len ho5; have HO5 := hide ho5; have HKC := hide hk5'; clear HR1 ho5 hk5 hk5')
    | (go_at_call 8; refine (unhide HR2 _ (by first | exact Kept.refl _ _ | exact (Kept.refl _ _).drew | exact (unhide HKC) | exact (unhide HKC).drew)).mono ?_; rintro e w6 ⟨b6, v6, rfl, ho6, hk6, hk6'⟩; obtain ⟨a6, c6, rfl⟩ := own_len ho6; clear HKC; have HKC := hide hk6'; have HAL := hide (alike_any (own_kept (unhide HO5) hk6 (by simp)) ho6 hfl); clear HR2 ho6 hk6 hk6' HO5)
    | (go_at_call 12; refine (unhide HAL).mono ?_; rintro e w7 ⟨rfl, hk7⟩; have HK0 := HKC; clear HKC; have HKC := hide ((unhide HK0).trans hk7 (by simp)); clear hk7 HK0 HAL)
    | (go_at_call 16; refine (unhide HLA _ (by first | exact Kept.refl _ _ | exact (Kept.refl _ _).drew | exact (unhide HKC) | exact (unhide HKC).drew)).mono ?_; rintro e w5 ⟨rfl, hq⟩; have hq' := hq.symm; subst hq'; clear HLA)
    | (go_at_call 19; refine (unhide HRK _ (by first | exact Kept.refl _ _ | exact (Kept.refl _ _).drew | exact (unhide HKC) | exact (unhide HKC).drew)).mono ?_; rintro e w5 ⟨rfl, hq⟩; have hq' := hq.symm; subst hq'; clear HRK)
    | (go_at_call 16; refine (unhide HLA2 _ (by first | exact Kept.refl _ _ | exact (Kept.refl _ _).drew | exact (unhide HKC) | exact (unhide HKC).drew)).mono ?_; rintro e w5 ⟨rfl, hq⟩; have hq' := hq.symm; subst hq'; clear HLA2)
    | (go_at_call 16; refine (unhide HLB _ (by first | exact Kept.refl _ _ | exact (Kept.refl _ _).drew | exact (unhide HKC) | exact (unhide HKC).drew)).mono ?_; rintro e w5 ⟨rfl, hq⟩; have hq' := hq.symm; subst hq'; clear HLB)
    | (go_at_call 16; refine (unhide HLT _ (by first | exact Kept.refl _ _ | exact (Kept.refl _ _).drew | exact (unhide HKC) | exact (unhide HKC).drew)).mono ?_; rintro e w5 ⟨rfl, hq⟩; have hq' := hq.symm; subst hq'))
  have HSA : Hid (∀ W, Kept [] w4 W → Calls Try.prog 9 #[.pointer qa] W fun e w' => ∃ b bn bt bd vt, e = .returned (.func (.func 38) #[] #[.pointer (some ⟨bn, 0, none⟩)]) ∧ (Blk w' bn #[.func (.func 39) #[] #[.pointer (some ⟨bt, 0, none⟩), .pointer (some ⟨bd, 0, none⟩)]] 58 ∧ Blk w' bt #[vt] 60 ∧ Blk w' bd #[.bool false] 4 ∧ NRow b w' vt (spine (t.split key).1)) ∧ Kept [] W w' ∧ Kept [] w4 w') := fun W hW =>
    (All_any ((unhide HTA).kept ((unhide HK4).trans hW (by simp))) (by have := t.split_size key; omega)).mono (by rintro e w' ⟨vv, h1, ⟨bn, bt, bd, vt, h2, h3⟩, h4⟩; exact ⟨_, bn, bt, bd, vt, by rw [h1, h2], h3, h4, hW.trans h4 (by simp)⟩)
  have HSB : Hid (∀ W, Kept [] w4 W → Calls Try.prog 9 #[.pointer qb] W fun e w' => ∃ b bn bt bd vt, e = .returned (.func (.func 38) #[] #[.pointer (some ⟨bn, 0, none⟩)]) ∧ (Blk w' bn #[.func (.func 39) #[] #[.pointer (some ⟨bt, 0, none⟩), .pointer (some ⟨bd, 0, none⟩)]] 58 ∧ Blk w' bt #[vt] 60 ∧ Blk w' bd #[.bool false] 4 ∧ NRow b w' vt (spine (t.split key).2)) ∧ Kept [] W w' ∧ Kept [] w4 w') := fun W hW =>
    (All_any ((unhide HTB).kept ((unhide HK4).trans hW (by simp))) (by have := t.split_size key; omega)).mono (by rintro e w' ⟨vv, h1, ⟨bn, bt, bd, vt, h2, h3⟩, h4⟩; exact ⟨_, bn, bt, bd, vt, by rw [h1, h2], h3, h4, hW.trans h4 (by simp)⟩)
  gi_wp2_with (first
    | (refine ⟨trivial, rfl, ?_⟩; gi_at_call 9; refine (callsIn_wide.2 (unhide HSA _ (unhide HKC))).mono ?_; rintro e w8 ⟨b8, bn8, bt8, bd8, vt8, rfl, hs8, hk8, hk8'⟩; have HS8 := hide hs8; have HKD := hide hk8'; clear HSA hs8 hk8 hk8' HKC)
    | (refine ⟨trivial, rfl, ?_⟩; gi_at_call 9; refine (callsIn_wide.2 (unhide HSB _ (unhide HKD))).mono ?_; rintro e w9 ⟨b9, bn9, bt9, bd9, vt9, rfl, hs9, hk9, hk9'⟩; have HS9 := hide hs9; have HKE := hide hk9'; have HK89 := hide hk9; clear HSB hs9 hk9 hk9'))
  have hkt9 : Kept [] w2 w9 := (unhide HKT).trans (unhide HKE) (by simp)
  have HT9 := hide hkt9
  have hbk9 := (unhide HBK).kept hkt9 (by simp)
  have hbr9 := (unhide HBR).kept hkt9 (by simp)
  obtain ⟨s81, s82, s83, s84⟩ := unhide HS8
  have hla : outR (spine (t.split key).1).reverse = (t.split key).1.list := by have := outR_spine (t.split key).1 []; simpa [outR] using this
  have hlb : outR (spine (t.split key).2).reverse = (t.split key).2.list := by have := outR_spine (t.split key).2 []; simpa [outR] using this
  have hza : (t.split key).1.list.length ≤ 4398046511104 := by rw [Tr.list_length]; have := t.split_size key; omega
  have hzb : (t.split key).2.list.length ≤ 4398046511104 := by rw [Tr.list_length]; have := t.split_size key; omega
  have hsq1 := entries_seq s81 s82 s83 s84 (by rw [hla]; exact hza)
  rw [hla] at hsq1
  clear hkt9
  refine range_own (gf := 38) (lb := #[.pointer (some ⟨bn8, 0, none⟩)]) rfl (enters_of Try.func38 (by kernel_rfl) rfl) hsq1 (fun _ _ _ _ _ _ _ => trivial) (KpT.of_kept (unhide HK89)) (fun _ => rfl)
    (fun pre V => Kept [] w9 V) (fun _ pre V => ∃ e ∈ pre, key ≤ e.1) (kept_own (Nat.le_refl _)) (fun _ _ _ _ _ hs _ _ => hs) (Kept.refl _ _) ?a1 ?assign ?body ?done ?stop
  case assign =>
    intro l x W K hK
    gi_wp2
    exact hK
  case body =>
    rintro l pre ⟨k, x⟩ V hkV - hlen
    have ck := (hbk9.kept hkV (by simp)).cell 0
    have hbrV := hbr9.kept hkV (by simp)
    have cr := hbrV.cell 0
    have fr := hbrV.frozen 0
    simp only [List.getElem?_toArray, List.getElem?_cons_zero] at ck cr
    by_cases hkk : key ≤ k
    · have t5 : (key ≤ k) = True := by simp [hkk]
      gi_wp2
      exact ⟨(KeepsOthers.setCell _ _ _).from _, (k, x), by simp, hkk⟩
    · have t5 : (key ≤ k) = False := by simp only [eq_iff_iff, iff_false]; exact hkk
      gi_wp2
      exact ⟨⟨KeepsFrom.refl _ _, KpT.refl _⟩, hkV⟩
  case stop =>
    rintro D c pre V hD hSp ⟨e, he, hge⟩ hK
    have := low_split (unhide HRI) key e (hSp.subset he)
    omega
  case done =>
    rintro D1 xs V1 hD1 - hkV1 hK1
    gi_wp2
    obtain ⟨s91, s92, s93, s94⟩ := unhide HS9
    have hsq2 := entries_seq s91 s92 s93 s94 (by rw [hlb]; exact hzb)
    rw [hlb] at hsq2
    have hbkV := hbk9.kept hkV1 (by simp)
    have hbrV1 := hbr9.kept hkV1 (by simp)
    have hVs := hkV1.size
    refine range_own (gf := 38) (lb := #[.pointer (some ⟨bn9, 0, none⟩)]) rfl (enters_of Try.func38 (by kernel_rfl) rfl) hsq2 (fun _ _ _ _ _ _ _ => trivial) (KpT.of_kept hkV1) (fun _ => rfl)
      (fun pre V => Kept [] V1 V) (fun _ pre V => ∃ e ∈ pre, e.1 < key) (kept_own (Nat.le_refl _)) (fun _ _ _ _ _ hs _ _ => hs) (Kept.refl _ _) ?a2 ?assign2 ?body2 ?done2 ?stop2
    case assign2 =>
      intro l x W K hK
      gi_wp2
      exact hK
    case body2 =>
      rintro l pre ⟨k, x⟩ V hkV - hlen
      have ck := (hbkV.kept hkV (by simp)).cell 0
      have hbrV := hbrV1.kept hkV (by simp)
      have cr := hbrV.cell 0
      have fr := hbrV.frozen 0
      simp only [List.getElem?_toArray, List.getElem?_cons_zero] at ck cr
      by_cases hkk : k < key
      · have t5 : (k < key) = True := by simp [hkk]
        gi_wp2
        exact ⟨(KeepsOthers.setCell _ _ _).from _, (k, x), by simp, hkk⟩
      · have t5 : (k < key) = False := by simp only [eq_iff_iff, iff_false]; exact hkk
        gi_wp2
        exact ⟨⟨KeepsFrom.refl _ _, KpT.refl _⟩, hkV⟩
    case stop2 =>
      rintro D c pre V hD hSp ⟨e, he, hge⟩ hK
      have := high_split (unhide HRI) key e (hSp.subset he)
      omega
    case done2 =>
      rintro D2 xs2 V2 hD2 - hkV2 hK2
      have hK1' : V2.heap[D1]? = some (.deferred (some [])) := (hkV2.block D1 (Array.getElem?_eq_some_iff.1 hK1).1 (by simp)).trans hK1
      have hkA : Kept [] w2 V2 := ((unhide HT9).trans hkV1 (by simp)).trans hkV2 (by simp)
      have hcv := (hbkV.kept hkV2 (by simp)).cell 0
      have hcr := (hbrV1.kept hkV2 (by simp)).cell 0
      have hfr := (hbrV1.kept hkV2 (by simp)).frozen 0
      simp only [List.getElem?_toArray, List.getElem?_cons_zero] at hcv hcr
      have HG1 := hide (Get_any key ((unhide HTT).kept hkA))
      have HPT := hide (Put_any key val ((unhide HTT).kept hkA) hsz2)
      have hps := t.put_size key val
      have hpd := put_without (unhide HRI) key val
      have HG2 : Hid (∀ W qp, Tt W qp (t.put key val) → Calls Try.prog 18 #[.pointer qp, .int .i64 key] W fun e w' => e = .returned (.tuple #[.int .i64 val, .bool true]) ∧ w' = W) := fun W qp hp => by
        have := Get_any key hp; rw [find_put (unhide HRI), if_pos rfl] at this; exact this
      have HDL : Hid (∀ W qp, Tt W qp (t.put key val) → Calls Try.prog 11 #[.pointer qp, .int .i64 key] W fun e w' => ∃ qd, e = .returned (.tuple #[.pointer qd, .bool true]) ∧ Tt w' qd ((t.put key val).without key).1 ∧ Kept [] W w') := fun W qp hp => by
        have := Delete_any key hp (by omega); rw [hpd.1] at this; exact this
      have hpl := put_len (unhide HRI) key val
      have hbs2 := back_same (unhide HRI) key val
      cases hf : t.find key with
      | some e0 =>
        obtain ⟨kk, xx⟩ := e0
        rw [hf] at hpl hbs2
        simp only [Option.isSome_some, if_true] at hpl hbs2
        rw [hf] at HG1
        simp only [fv, Option.getD_some, Option.isSome_some] at HG1
        have HLP : Hid (∀ W qp, Tt W qp (t.put key val) → Calls Try.prog 16 #[.pointer qp] W fun e w' => e = .returned (.int .i64 (tz : Nat)) ∧ w' = W) := fun W qp hp => by
          have := Len_any hp; rw [hpl, unhide HTZ] at this; exact this
        clear hf
        gi_wp2_with (first
          | (refine ⟨trivial, rfl, ?_⟩; gi_at_call 18; refine (callsIn_wide.2 (unhide HG1)).mono ?_; rintro e w3 ⟨rfl, hq⟩; have hq' := hq.symm; subst hq'; clear HG1)
          | (refine ⟨trivial, rfl, ?_⟩; gi_at_call 10; refine (callsIn_wide.2 (unhide HPT)).mono ?_; rintro e w10 ⟨qp, rfl, htp, hk10⟩; have HTP := hide htp; have HK10 := hide hk10; have HG2' := hide (unhide HG2 _ _ htp); have HDL' := hide (unhide HDL _ _ htp); have hcv10 := hk10.cell' hcv; clear HPT htp hk10)
          | (refine ⟨trivial, rfl, ?_⟩; gi_at_call 18; refine (callsIn_wide.2 (unhide HG2')).mono ?_; rintro e w3 ⟨rfl, hq⟩; have hq' := hq.symm; subst hq'; clear HG2')
          | (refine ⟨trivial, rfl, ?_⟩; gi_at_call 11; refine (callsIn_wide.2 (unhide HDL')).mono ?_; rintro e w11 ⟨qd, rfl, htd, hk11⟩; have HTD := hide htd; have HK11 := hide hk11; have hcv11 := hk11.cell' hcv10; clear HDL' htd hk11))
        have HL1 := hide (unhide HLP _ _ ((unhide HTP).kept (unhide HK11)))
        have HL2 := hide (unhide HLT _ ((unhide HKE).trans (((hkV1.trans hkV2 (by simp)).trans (unhide HK10) (by simp)).trans (unhide HK11) (by simp)) (by simp)))
        gi_wp2_with (first
          | (refine ⟨trivial, rfl, ?_⟩; gi_at_call 16; refine (callsIn_wide.2 (unhide HL1)).mono ?_; rintro e w3 ⟨rfl, hq⟩; have hq' := hq.symm; subst hq'; clear HL1)
          | (refine ⟨trivial, rfl, ?_⟩; gi_at_call 16; refine (callsIn_wide.2 (unhide HL2)).mono ?_; rintro e w3 ⟨rfl, hq⟩; have hq' := hq.symm; subst hq'; clear HL2))
        have hde : ((t.put key val).without key).1.size ≤ 4398046511105 := by have := (t.put key val).without_size key; omega
        have hws : (((t.put key val).without key).1.put key xx).size = t.size := by rw [← Tr.list_length, hbs2, Tr.list_length]
        have HPD := hide (Put_any key xx (unhide HTD) (by omega))
        have HKF : Hid (Kept [] w2 w11) := ((hkA.trans (unhide HK10) (by simp)).trans (unhide HK11) (by simp))
        have HRD : Hid (∀ W qe, Tt W qe (((t.put key val).without key).1.put key xx) → Calls Try.prog 8 #[.pointer qe] W fun e w' => ∃ b vv, e = .returned vv ∧ w'.ownsRow b 3 1 vv (flat t.list).length (ints (flat t.list)) ∧ Kept [] W w') := fun W qe hqe => by
          have h1 := row_any hqe (by rw [hws]; omega)
          rw [hbs2] at h1
          exact h1.mono (by rintro e w' ⟨vv, h2, h3, h4⟩; exact ⟨_, vv, h2, h3, h4⟩)
        have HRT : Hid (∀ W, Kept [] w11 W → Calls Try.prog 8 #[.pointer q] W fun e w' => ∃ b vv, e = .returned vv ∧ w'.ownsRow b 3 1 vv (flat t.list).length (ints (flat t.list)) ∧ Kept [] W w') := fun W hW =>
          (row_any ((unhide HTT).kept ((unhide HKF).trans hW (by simp))) (by omega)).mono (by rintro e w' ⟨vv, h2, h3, h4⟩; exact ⟨_, vv, h2, h3, h4⟩)
        refine ⟨trivial, ?_⟩
        gi_wp2
        refine ⟨trivial, ?_⟩
        gi_wp2_with (first
          | (refine ⟨trivial, rfl, ?_⟩; gi_at_call 10; refine (callsIn_wide.2 (unhide HPD)).mono ?_; rintro e w12 ⟨qe, rfl, hte, hk12⟩; have HRD' := hide (unhide HRD _ _ hte); have HK12 := hide hk12; clear HPD hte hk12)
          | (refine ⟨trivial, rfl, ?_⟩; gi_at_call 8; refine (callsIn_wide.2 (unhide HRD')).mono ?_; rintro e w13 ⟨b13, v13, rfl, ho13, hk13⟩; obtain ⟨a13, c13, rfl⟩ := own_len ho13; have HO13 := hide ho13; have HK13 := hide ((unhide HK12).trans hk13 (by simp)); have HRT' := hide (unhide HRT _ (unhide HK13)); clear HRD' ho13 hk13)
          | (refine ⟨trivial, rfl, ?_⟩; gi_at_call 8; refine (callsIn_wide.2 (unhide HRT')).mono ?_; rintro e w14 ⟨b14, v14, rfl, ho14, hk14⟩; obtain ⟨a14, c14, rfl⟩ := own_len ho14; have HAL2 := hide (alike_any (own_kept (unhide HO13) hk14 (by simp)) ho14 hfl); have HK14 := hide ((unhide HK13).trans hk14 (by simp)); clear HRT' ho14 hk14)
          | (refine ⟨trivial, rfl, ?_⟩; gi_at_call 12; refine (callsIn_wide.2 (unhide HAL2)).mono ?_; rintro e w15 ⟨rfl, hk15⟩; have HK15 := hide ((unhide HK14).trans hk15 (by simp)); have hbz := ((hbrV1.kept hkV2 (by simp)).kept (unhide HK10) (by simp)).kept (unhide HK11) (by simp); have hbz2 := hbz.kept (unhide HK15) (by simp); have hcz := hbz2.cell 0; have hfz := hbz2.frozen 0; clear HAL2 hk15))
        have hkz : Kept [] V2 w15 := (((unhide HK10).trans (unhide HK11) (by simp)).trans (unhide HK15) (by simp))
        have hd2 : w15.heap[D2]? = some (.deferred (some [])) := (hkz.block D2 (Array.getElem?_eq_some_iff.1 hK2).1 (by simp)).trans hK2
        have hd1 : w15.heap[D1]? = some (.deferred (some [])) := (hkz.block D1 (Array.getElem?_eq_some_iff.1 hK1').1 (by simp)).trans hK1'
        have hn2' : D2 ≠ w.heap.size + 1 := fun e => by rw [e, show w15.heap[w.heap.size + 1]? = _ from hbz2] at hd2; cases hd2
        have hn1' : D1 ≠ w.heap.size + 1 := fun e => by rw [e, show w15.heap[w.heap.size + 1]? = _ from hbz2] at hd1; cases hd1
        have hd2' : (w15.setCell ⟨w.heap.size + 1, 0, none⟩ (.bool true)).heap[D2]? = some (.deferred (some [])) := (Below.heap_setCell _ _ _ _ hn2').trans hd2
        have hd1' : (w15.setCell ⟨w.heap.size + 1, 0, none⟩ (.bool true)).heap[D1]? = some (.deferred (some [])) := (Below.heap_setCell _ _ _ _ hn1').trans hd1
        have hne12 : D1 ≠ D2 := by have := (Array.getElem?_eq_some_iff.1 hK1).1; omega
        have hd1'' : ((w15.setCell ⟨w.heap.size + 1, 0, none⟩ (.bool true)).putObj D2 (.deferred none)).heap[D1]? = some (.deferred (some [])) := (World.putObj_heap_other hne12).trans hd1'
        refine ⟨by simp, .inl ⟨_, _, rfl, run_takeDeferred hd2', ?_⟩⟩
        refine ⟨by simp, .inl ⟨_, _, rfl, run_takeDeferred hd1'', ?_⟩⟩
        have hbf : Blk (((w15.setCell ⟨w.heap.size + 1, 0, none⟩ (.bool true)).putObj D2 (.deferred none)).putObj D1 (.deferred none)) (w.heap.size + 1) #[.bool true] 4 :=
          (World.putObj_heap_other (fun e => hn1' e.symm)).trans ((World.putObj_heap_other (fun e => hn2' e.symm)).trans (hbz2.set 0 (.bool true)))
        have hkw : Kept [] w w15 := (unhide HKW).trans (hkA.trans hkz (by simp)) (by simp)
        have hkx : Kept [] w (w15.setCell ⟨w.heap.size + 1, 0, none⟩ (.bool true)) := hkw.setCell (p := ⟨w.heap.size + 1, 0, none⟩) (Or.inr (by simp)) _
        have hw9 : w.heap.size ≤ w9.heap.size := ((unhide HKW).trans (unhide HT9) (by simp)).size
        have hky := own_put (kept_own (β := Unit) (B := w.heap.size) (w := w) (Nat.le_refl _)) (s := ()) (.deferred none) hkx (by omega) hd2' rfl
        have hkz2 := own_put (kept_own (β := Unit) (B := w.heap.size) (w := w) (Nat.le_refl _)) (s := ()) (.deferred none) hky (by omega) hd1'' rfl
        have hcf := hbf.cell 0
        simp only [List.getElem?_toArray, List.getElem?_cons_zero] at hcf
        refine ⟨.bool true, ?_, rfl, hkz2⟩
        simp [results, asAddr, go_sem, hcf]
      | none =>
        rw [hf] at hpl hbs2
        simp only [Option.isSome_none, Bool.false_eq_true, if_false] at hpl hbs2
        rw [hf] at HG1
        simp only [fv, Option.getD_none, Option.isSome_none] at HG1
        have HLP : Hid (∀ W qp, Tt W qp (t.put key val) → Calls Try.prog 16 #[.pointer qp] W fun e w' => e = .returned (.int .i64 ((tz + 1 : Nat) : Int)) ∧ w' = W) := fun W qp hp => by
          have := Len_any hp; rw [hpl, unhide HTZ] at this; exact this
        clear hf
        gi_wp2_with (first
          | (refine ⟨trivial, rfl, ?_⟩; gi_at_call 18; refine (callsIn_wide.2 (unhide HG1)).mono ?_; rintro e w3 ⟨rfl, hq⟩; have hq' := hq.symm; subst hq'; clear HG1)
          | (refine ⟨trivial, rfl, ?_⟩; gi_at_call 10; refine (callsIn_wide.2 (unhide HPT)).mono ?_; rintro e w10 ⟨qp, rfl, htp, hk10⟩; have HTP := hide htp; have HK10 := hide hk10; have HG2' := hide (unhide HG2 _ _ htp); have HDL' := hide (unhide HDL _ _ htp); have hcv10 := hk10.cell' hcv; clear HPT htp hk10)
          | (refine ⟨trivial, rfl, ?_⟩; gi_at_call 18; refine (callsIn_wide.2 (unhide HG2')).mono ?_; rintro e w3 ⟨rfl, hq⟩; have hq' := hq.symm; subst hq'; clear HG2')
          | (refine ⟨trivial, rfl, ?_⟩; gi_at_call 11; refine (callsIn_wide.2 (unhide HDL')).mono ?_; rintro e w11 ⟨qd, rfl, htd, hk11⟩; have HTD := hide htd; have HK11 := hide hk11; have hcv11 := hk11.cell' hcv10; clear HDL' htd hk11))
        have HL1 := hide (unhide HLP _ _ ((unhide HTP).kept (unhide HK11)))
        have HL2 := hide (unhide HLT _ ((unhide HKE).trans (((hkV1.trans hkV2 (by simp)).trans (unhide HK10) (by simp)).trans (unhide HK11) (by simp)) (by simp)))
        have hwz : IntKind.i64.wrap ((tz : Int) + 1) = (tz : Int) + 1 := by (have := unhide HTZ; rw [IntKind.wrap_i64]; omega)
        refine ⟨trivial, ?_⟩
        gi_wp2
        refine ⟨trivial, ?_⟩
        gi_wp2_with (first
          | (refine ⟨trivial, rfl, ?_⟩; gi_at_call 16; refine (callsIn_wide.2 (unhide HL1)).mono ?_; rintro e w3 ⟨rfl, hq⟩; have hq' := hq.symm; subst hq'; clear HL1)
          | (refine ⟨trivial, rfl, ?_⟩; gi_at_call 16; refine (callsIn_wide.2 (unhide HL2)).mono ?_; rintro e w3 ⟨rfl, hq⟩; have hq' := hq.symm; subst hq'; clear HL2))
        have hde : ((t.put key val).without key).1.size ≤ 4398046511105 := by have := (t.put key val).without_size key; omega
        have hws : (((t.put key val).without key).1).size = t.size := by rw [← Tr.list_length, hbs2, Tr.list_length]
        have HKF : Hid (Kept [] w2 w11) := ((hkA.trans (unhide HK10) (by simp)).trans (unhide HK11) (by simp))
        have HRD : Hid (∀ W qe, Tt W qe (((t.put key val).without key).1) → Calls Try.prog 8 #[.pointer qe] W fun e w' => ∃ b vv, e = .returned vv ∧ w'.ownsRow b 3 1 vv (flat t.list).length (ints (flat t.list)) ∧ Kept [] W w') := fun W qe hqe => by
          have h1 := row_any hqe (by rw [hws]; omega)
          rw [hbs2] at h1
          exact h1.mono (by rintro e w' ⟨vv, h2, h3, h4⟩; exact ⟨_, vv, h2, h3, h4⟩)
        have HRT : Hid (∀ W, Kept [] w11 W → Calls Try.prog 8 #[.pointer q] W fun e w' => ∃ b vv, e = .returned vv ∧ w'.ownsRow b 3 1 vv (flat t.list).length (ints (flat t.list)) ∧ Kept [] W w') := fun W hW =>
          (row_any ((unhide HTT).kept ((unhide HKF).trans hW (by simp))) (by omega)).mono (by rintro e w' ⟨vv, h2, h3, h4⟩; exact ⟨_, vv, h2, h3, h4⟩)
        have HRD' := hide (unhide HRD _ _ (unhide HTD))
        have HK12 := hide (Kept.refl [] w11)
        gi_wp2_with (first
          | (refine ⟨trivial, rfl, ?_⟩; gi_at_call 8; refine (callsIn_wide.2 (unhide HRD')).mono ?_; rintro e w13 ⟨b13, v13, rfl, ho13, hk13⟩; obtain ⟨a13, c13, rfl⟩ := own_len ho13; have HO13 := hide ho13; have HK13 := hide ((unhide HK12).trans hk13 (by simp)); have HRT' := hide (unhide HRT _ (unhide HK13)); clear HRD' ho13 hk13)
          | (refine ⟨trivial, rfl, ?_⟩; gi_at_call 8; refine (callsIn_wide.2 (unhide HRT')).mono ?_; rintro e w14 ⟨b14, v14, rfl, ho14, hk14⟩; obtain ⟨a14, c14, rfl⟩ := own_len ho14; have HAL2 := hide (alike_any (own_kept (unhide HO13) hk14 (by simp)) ho14 hfl); have HK14 := hide ((unhide HK13).trans hk14 (by simp)); clear HRT' ho14 hk14)
          | (refine ⟨trivial, rfl, ?_⟩; gi_at_call 12; refine (callsIn_wide.2 (unhide HAL2)).mono ?_; rintro e w15 ⟨rfl, hk15⟩; have HK15 := hide ((unhide HK14).trans hk15 (by simp)); have hbz := ((hbrV1.kept hkV2 (by simp)).kept (unhide HK10) (by simp)).kept (unhide HK11) (by simp); have hbz2 := hbz.kept (unhide HK15) (by simp); have hcz := hbz2.cell 0; have hfz := hbz2.frozen 0; clear HAL2 hk15))
        have hkz : Kept [] V2 w15 := (((unhide HK10).trans (unhide HK11) (by simp)).trans (unhide HK15) (by simp))
        have hd2 : w15.heap[D2]? = some (.deferred (some [])) := (hkz.block D2 (Array.getElem?_eq_some_iff.1 hK2).1 (by simp)).trans hK2
        have hd1 : w15.heap[D1]? = some (.deferred (some [])) := (hkz.block D1 (Array.getElem?_eq_some_iff.1 hK1').1 (by simp)).trans hK1'
        have hn2' : D2 ≠ w.heap.size + 1 := fun e => by rw [e, show w15.heap[w.heap.size + 1]? = _ from hbz2] at hd2; cases hd2
        have hn1' : D1 ≠ w.heap.size + 1 := fun e => by rw [e, show w15.heap[w.heap.size + 1]? = _ from hbz2] at hd1; cases hd1
        have hd2' : (w15.setCell ⟨w.heap.size + 1, 0, none⟩ (.bool true)).heap[D2]? = some (.deferred (some [])) := (Below.heap_setCell _ _ _ _ hn2').trans hd2
        have hd1' : (w15.setCell ⟨w.heap.size + 1, 0, none⟩ (.bool true)).heap[D1]? = some (.deferred (some [])) := (Below.heap_setCell _ _ _ _ hn1').trans hd1
        have hne12 : D1 ≠ D2 := by have := (Array.getElem?_eq_some_iff.1 hK1).1; omega
        have hd1'' : ((w15.setCell ⟨w.heap.size + 1, 0, none⟩ (.bool true)).putObj D2 (.deferred none)).heap[D1]? = some (.deferred (some [])) := (World.putObj_heap_other hne12).trans hd1'
        refine ⟨by simp, .inl ⟨_, _, rfl, run_takeDeferred hd2', ?_⟩⟩
        refine ⟨by simp, .inl ⟨_, _, rfl, run_takeDeferred hd1'', ?_⟩⟩
        have hbf : Blk (((w15.setCell ⟨w.heap.size + 1, 0, none⟩ (.bool true)).putObj D2 (.deferred none)).putObj D1 (.deferred none)) (w.heap.size + 1) #[.bool true] 4 :=
          (World.putObj_heap_other (fun e => hn1' e.symm)).trans ((World.putObj_heap_other (fun e => hn2' e.symm)).trans (hbz2.set 0 (.bool true)))
        have hkw : Kept [] w w15 := (unhide HKW).trans (hkA.trans hkz (by simp)) (by simp)
        have hkx : Kept [] w (w15.setCell ⟨w.heap.size + 1, 0, none⟩ (.bool true)) := hkw.setCell (p := ⟨w.heap.size + 1, 0, none⟩) (Or.inr (by simp)) _
        have hw9 : w.heap.size ≤ w9.heap.size := ((unhide HKW).trans (unhide HT9) (by simp)).size
        have hky := own_put (kept_own (β := Unit) (B := w.heap.size) (w := w) (Nat.le_refl _)) (s := ()) (.deferred none) hkx (by omega) hd2' rfl
        have hkz2 := own_put (kept_own (β := Unit) (B := w.heap.size) (w := w) (Nat.le_refl _)) (s := ()) (.deferred none) hky (by omega) hd1'' rfl
        have hcf := hbf.cell 0
        simp only [List.getElem?_toArray, List.getElem?_cons_zero] at hcf
        refine ⟨.bool true, ?_, rfl, hkz2⟩
        simp [results, asAddr, go_sem, hcf]
end Go.Proofs.Ytbpeeifgfjpghab
