/- TreeDepth: none is deeper than twice the number of digits of its length. -/
import Derived.Test.YtbpeeifgfjpghaaTDep1
import Derived.Deep.DeepCutAuto
namespace Go.Proofs.Ytbpeeifgfjpghaa
open Go.RowKit Go.Shelf
set_option linter.unusedVariables false
attribute [local go_sem] Oper.semAt_some

theorem apts_split {t : TI} (h : Rise t.list) (key : Int) : Apts (t.split key).1 (t.split key).2 := by
  obtain ⟨h1, h2⟩ := Tr.split_list t key h
  intro x y hx hy
  rw [Tr.at_list] at hx hy
  have mx : x ∈ (t.split key).1.list := by
    split at hx
    · exact List.mem_of_getElem? hx
    · cases hx
  have my : y ∈ (t.split key).2.list := by
    split at hy
    · exact List.mem_of_getElem? hy
    · cases hy
  rw [h1] at mx
  rw [h2] at my
  have a1 := mem_low mx
  have a2 := mem_rest my
  simp only [klt, KOrd.lt, decide_eq_true_eq, decide_eq_false_iff_not] at a1 a2
  omega
/-- trees in a row, each as it ought to be -/
def Goods (base : Nat) (W : World) (v : Value) : Prop := ∃ ts, TRow base W v ts ∧ (∀ t ∈ ts, Rise t.list ∧ t.avl ∧ t.size ≤ 4398046514104) ∧ ts.length ≤ 17592186044400
set_option maxRecDepth 100000 in
set_option maxHeartbeats 8000000 in
theorem depth_walk {w : World} {v : Value} {os : List OpI} {fr by' N : Int} (h : Ops w v os) (hl : os.length ≤ 4398046511104) : Calls Try.prog 6 #[v, .int .i64 fr, .int .i64 by', .int .i64 N] w fun e w' => e = .returned (.bool true) ∧ Kept [] w w' := by
  have hnf : ∀ (b : Nat) (W : World), (binOp BinOp.eql 68 (.func (.func 95) #[] #[.pointer (some ⟨b, 0, none⟩)]) .nilFunc).run Try.prog W = .ok (.bool false) W := fun b W => by kernel_rfl
  have HOPS := hide h
  obtain ⟨a, cap, rfl, -, -, -, -⟩ := h
  have HKN := hide (fun (W : World) => known_any W)
  refine (callsIn_wide (n := 0)).1 ?_
  refine callsIn_of_wp_marks Try.func6 rfl trivial ?_ rfl
  simp only [Try.ntmps6, List.size_toArray, List.length_cons, List.length_nil, Nat.reduceAdd, Nat.reduceSub, Array.replicate_succ, Array.replicate_zero, List.push_toArray, List.append_toArray, List.nil_append, List.cons_append]
  have hk0 : Kept [] w (w.alloc (.cells #[.bool false] 4)) := (Kept.refl [] w).alloc _
  have HK0 := hide hk0
  refine wpIn_wide.2 ?_
  go_upto_region 2 with (first
    | (go_at_call 19; refine (unhide HKN _).mono ?_; rintro e w1 ⟨rfl, hk1⟩; have HK1 := hide hk1; clear hk1))
  have hk1 := (unhide HK0).trans (unhide HK1) (by simp)
  have hbr : Blk w1 w.heap.size #[.bool false] 4 := (Blk.new w #[.bool false] 4).kept (unhide HK1) (by simp)
  have HM := hide (made_any ((unhide HOPS).kept hk1) hl)
  go_wp2_with fail
  refine (unhide HM).mono ?_
  rintro e w2 ⟨v', ts, Ks, rfl, hrow, hne, hlen, hfine, hKs, hk2⟩
  obtain ⟨va, vc, rfl⟩ := hrow.val
  have hpos : 0 < ts.length := List.length_pos_iff.2 hne
  obtain ⟨-, g, q, rfl, hcell, htt⟩ := hrow.get (ts.length - 1) (by omega)
  have hfl := hfine _ (List.getElem_mem (l := ts) (n := ts.length - 1) (by omega))
  generalize ts[ts.length - 1]'(by omega) = tl at *
  have HROW := hide hrow
  have HFN := hide hfine
  have HTL := hide htt
  have HFL := hide hfl
  have HKW := hide hk1
  have HBR := hide hbr
  have HK12 := hide hk2
  have HGD : Hid (∀ t ∈ ts, Rise t.list ∧ t.avl ∧ t.size ≤ 4398046514104) := fun t ht => ⟨(hfine t ht).1, (hfine t ht).2.1, Nat.le_trans (hfine t ht).size (by omega)⟩
  clear hrow hfine hne HM HK1 hk2 hbr hk0 hk1 HKN HOPS htt hfl
  obtain ⟨m, hm⟩ : ∃ m, ts.length = m + 1 := ⟨ts.length - 1, by omega⟩
  have HMM := hide hm
  rw [hm] at hcell hlen ⊢
  rw [Nat.add_sub_cancel] at hcell
  have i1 : (m : Int) < (m : Int) + 1 := by omega
  have i2 : (m : Int) + 1 - 1 = (m : Int) := by omega
  have i3 : (0 : Int) ≤ (m : Int) := by omega
  clear hm hpos
  dsimp only
  go_upto_region 4 with fail
  go_cut [32] from 23 (fun r wc => r = .bool (decide (0 < N ∧ N ≤ 3000)) ∧ wc = w2)
  case first =>
    by_cases h1 : 0 < N
    · by_cases h2 : N ≤ 3000
      · have e1 : decide (0 < N ∧ N ≤ 3000) = true := by simp [h1, h2]
        go_wp2_with fail
        go_meet
        exact ⟨by rw [e1], rfl⟩
      · have e1 : decide (0 < N ∧ N ≤ 3000) = false := by simp [h2]
        go_wp2_with fail
        go_meet
        exact ⟨by rw [e1], rfl⟩
    · have e1 : decide (0 < N ∧ N ≤ 3000) = false := by simp [h1]
      go_wp2_with fail
      go_meet
      exact ⟨by rw [e1], rfl⟩
  case rest =>
    obtain ⟨hr, hwc⟩ := hcut
    have hr' := hr.symm
    have hwc' := hwc.symm
    subst hr'
    subst hwc'
    go_upto_if 32 with fail
    go_cut [9] from 23 (fun lv wc => Goods w1.heap.size wc lv ∧ Kept [] w1 wc)
    case first =>
      by_cases hN : 0 < N ∧ N ≤ 3000
      · have e1 : decide (0 < N ∧ N ≤ 3000) = true := by simp [hN]
        rw [e1]
        obtain ⟨n, rfl⟩ : ∃ n : Nat, N = (n : Int) := ⟨N.toNat, by omega⟩
        have hn : n ≤ 3000 := by omega
        have HRUN := hide (run_any (unhide HTL) (unhide HFL) (by omega) fr by' n hn)
        have HLE : Hid (ts.length + 6 ≤ 17592186044416) := by have := unhide HMM; show ts.length + 6 ≤ 17592186044416; omega
        have hrow2 := unhide HROW
        rw [unhide HMM] at hrow2
        have HR2 := hide hrow2
        clear hrow2 e1
        go_wp2_with (first
          | (go_at_call 21; refine (unhide HRUN).mono ?_; rintro e w3 ⟨q3, t3, Ks3, rfl, ht3, hf3, hl3, hk3⟩; have hz3 : t3.size ≤ 4398046514104 := Nat.le_trans hf3.size (by omega); have HSP : Hid (∀ K, Calls Try.prog 22 #[.pointer q3, .int .i64 K] w3 fun e w' => ∃ qa qb ta tb, e = .returned (.tuple #[.pointer qa, .pointer qb]) ∧ Tt w' qa ta ∧ Tt w' qb tb ∧ Fine Ks3 ta ∧ Fine Ks3 tb ∧ Apts ta tb ∧ ta.size + tb.size = t3.size ∧ Kept [] w3 w') := (fun K => (Split_any K ht3 (by omega)).mono (by rintro e w' ⟨qa, qb, y1, y2, y3, y4⟩; exact ⟨qa, qb, _, _, y1, y2, y3, (hf3.split K).1, (hf3.split K).2, apts_split hf3.1 K, t3.split_size K, y4⟩)); have HT3 := hide ht3; have HF3 := hide hf3; have HK3 := hide hk3; clear ht3 hf3 hk3 HRUN)
          | (go_at_call 22; refine (unhide HSP _).mono ?_; rintro e w4 ⟨qa, qb, ta, tb, rfl, hta, htb, hfa, hfb, hap, hsz, hk4⟩; have HJN : Hid (Calls Try.prog 23 #[.pointer qa, .pointer qb] w4 fun e w' => ∃ qu, e = .returned (.tuple #[.pointer qu, .int .i64 0]) ∧ Tt w' qu (Tr.meet ta tb) ∧ Kept [] w4 w') := ((Join_any hta htb (by omega)).mono (by
              rintro e w' ⟨y1, ⟨qu, y2, y3, _⟩ | ⟨_, y4⟩⟩
              · exact ⟨qu, y2, y3, y1⟩
              · exact absurd hap y4)); have HTA := hide hta; have HTB := hide htb; have HFA := hide hfa; have HFB := hide hfb; have HFU := hide (hfa.meet hfb hap); have HSZ2 := hide hsz; have HK4 := hide ((unhide HK3).trans hk4 (by simp)); have HT34 := hide ((unhide HT3).kept hk4); clear hta htb hfa hfb hap hsz hk4 HSP)
          | (go_at_call 23; refine (unhide HJN).mono ?_; rintro e w5 ⟨qu, rfl, htu, hk5⟩; have hlu := Len_any htu; rw [Tr.meet_size, unhide HSZ2] at hlu; have HLU := hide hlu; have HLT := hide (Len_any ((unhide HT34).kept hk5)); have HNU := hide (num_any (w := w5) 0); have HTU := hide htu; have HTA5 := hide ((unhide HTA).kept hk5); have HTB5 := hide ((unhide HTB).kept hk5); have HT35 := hide ((unhide HT34).kept hk5); have HK5 := hide ((unhide HK4).trans hk5 (by simp)); have HDL := hide (Delete_any fr ((unhide HTA).kept hk5) (by have := unhide HSZ2; omega)); clear htu hk5 hlu HJN)
          | (go_at_call 24; refine (unhide HNU).mono ?_; rintro e w8 ⟨rfl, hq⟩; have hq' := hq.symm; subst hq'; clear HNU)
          | (go_at_call 25; refine (unhide HLU).mono ?_; rintro e w8 ⟨rfl, hq⟩; have hq' := hq.symm; subst hq'; clear HLU)
          | (go_at_call 25; refine (unhide HLT).mono ?_; rintro e w8 ⟨rfl, hq⟩; have hq' := hq.symm; subst hq'; clear HLT)
          | (go_at_call 26; refine (unhide HDL).mono ?_; rintro e w6 ⟨qc, rfl, htc, hk6⟩; have HZG := hide (zig_any (w := w6) fr by' n hn); have HTC := hide htc; have HFC := hide ((unhide HFA).without fr); have HK6 := hide hk6; clear htc hk6 HDL)
          | (go_at_call 27; refine (unhide HZG).mono ?_; rintro e w7 ⟨qz, tz, Kz, rfl, htz, hfz, hlz, hk7⟩; have hka8 : Kept [] w7 (w7.alloc (.cells #[.pointer q3, .pointer qa, .pointer qb, .pointer qu, .pointer qc, .pointer qz] 55)) := (Kept.refl [] w7).alloc _; have hk67 := (unhide HK6).trans hk7 (by simp); have hk78 := hk67.trans hka8 (by simp); have hk28 := (unhide HK5).trans hk78 (by simp); have HR8 := hide ((unhide HR2).kept hk28); have HK18 := hide ((unhide HK12).trans hk28 (by simp)); have HB8 : Hid (Blk (w7.alloc (.cells #[.pointer q3, .pointer qa, .pointer qb, .pointer qu, .pointer qc, .pointer qz] 55)) w7.heap.size (([q3, qa, qb, qu, qc, qz] : List (Option Addr)).map Value.pointer).toArray 55) := Blk.new _ _ _; have HTS8 : Hid (All2 (w7.alloc (.cells #[.pointer q3, .pointer qa, .pointer qb, .pointer qu, .pointer qc, .pointer qz] 55)) [q3, qa, qb, qu, qc, qz] [t3, ta, tb, Tr.meet ta tb, (ta.without fr).1, tz]) := ⟨(unhide HT35).kept hk78, (unhide HTA5).kept hk78, (unhide HTB5).kept hk78, (unhide HTU).kept hk78, (unhide HTC).kept (hk7.trans hka8 (by simp)), htz.kept hka8, trivial⟩; have HFZ := hide hfz; have HKZ := hide hk28; clear htz hfz hk7 hka8 hk67 hk78 hk28 HZG)
          | (at_builtin; refine wpList_append_trees (w0 := w1) (qs' := [q3, qa, qb, qu, qc, qz]) (ts' := [t3, ta, tb, Tr.meet ta tb, (ta.without fr).1, tz]) _ rfl _ _ rfl rfl HK18 HR8 rfl HB8 rfl HTS8 HLE ?_; intro va9 n9 vc9 w9 HN9 HT9 HK9))
        go_meet
        have hgf : ∀ (Kx : List Int) (t : TI), Fine Kx t → Kx.length ≤ 4398046514104 → Rise t.list ∧ t.avl ∧ t.size ≤ 4398046514104 := fun Kx t hf hx => ⟨hf.1, hf.2.1, Nat.le_trans hf.size hx⟩
        have hl3' : Ks3.length ≤ 4398046514104 := by omega
        refine ⟨⟨_, unhide HT9, fun t ht => ?_, ?_⟩, unhide HK9⟩
        · rcases List.mem_append.1 ht with ht | ht
          · exact unhide HGD t ht
          · simp only [List.mem_cons, List.not_mem_nil, or_false] at ht
            rcases ht with rfl | rfl | rfl | rfl | rfl | rfl
            · exact hgf _ _ (unhide HF3) hl3'
            · exact hgf _ _ (unhide HFA) hl3'
            · exact hgf _ _ (unhide HFB) hl3'
            · exact hgf _ _ (unhide HFU) hl3'
            · exact hgf _ _ (unhide HFC) hl3'
            · exact hgf _ _ (unhide HFZ) (by omega)
        · have := unhide HMM
          simp only [List.length_append, List.length_cons, List.length_nil]
          omega
      · have e1 : decide (0 < N ∧ N ≤ 3000) = false := by simp [hN]
        rw [e1]
        go_wp2_with fail
        go_meet
        exact ⟨⟨ts, by have := unhide HROW; rw [unhide HMM] at this; exact this, unhide HGD, by have := unhide HMM; omega⟩, unhide HK12⟩
    case rest =>
      obtain ⟨⟨ts', hrow', hgd', hlen'⟩, hkc⟩ := hcut
      obtain ⟨la, lc, rfl⟩ := hrow'.val
      obtain ⟨n', hn'⟩ : ∃ n', ts'.length = n' := ⟨_, rfl⟩
      have HN' := hide hn'
      have HROW' := hide hrow'
      have HGD' := hide hgd'
      have HKC := hide hkc
      rw [hn'] at hlen' ⊢
      have hbrc := (unhide HBR).kept hkc (by simp)
      have HBRC := hide hbrc
      have HKWC := hide ((unhide HKW).trans hkc (by simp))
      clear hrow' hgd' hkc hn' HGD HROW HFN HTL HFL hbrc
      go_wp2_with fail
      refine (wpIn_wide (n := 0)).1 ?_
      refine wpIn_loop (fun a' w' => ∃ (k : Nat) (Ds : List Nat) (x18 x19 x20 x21 x22 x88 x89 x90 x91 x92 x93 x94 x95 x96 x97 x98 x99 x100 x101 x102 x103 x104 x105 x106 x107 x108 x109 x110 x111 x112 x113 x114 x115 x116 x117 x118 x119 x120 x121 x122 x123 x124 x125 x126 x127 x128 x129 x130 x131 x132 x133 : Value), k ≤ n' ∧ Kept [] wc w' ∧ Ds.Nodup ∧ (∀ D ∈ Ds, wc.heap.size ≤ D ∧ w'.heap[D]? = some (.deferred (some []))) ∧
        a' = { tmps := #[.slice a os.length cap, .int .i64 fr, .int .i64 by', .int .i64 N, undef, undef, undef, undef, .pointer (some ⟨w.heap.size, 0, none⟩), .slice la n' lc, u10, u11, u12, u13, u14, u15, u16, .int .i64 (k : Int), x18, x19, x20, x21, x22, u23, u24, u25, u26, u27, u28, u29, u30, u31, u32, u33, u34, u35, u36, u37, u38, u39, u40, u41, u42, u43, u44, u45, u46, u47, u48, u49, u50, u51, u52, u53, u54, u55, u56, u57, u58, u59, u60, u61, u62, u63, u64, u65, u66, u67, u68, u69, u70, u71, u72, u73, u74, u75, u76, u77, u78, u79, u80, u81, u82, u83, u84, u85, u86, u87, x88, x89, x90, x91, x92, x93, x94, x95, x96, x97, x98, x99, x100, x101, x102, x103, x104, x105, x106, x107, x108, x109, x110, x111, x112, x113, x114, x115, x116, x117, x118, x119, x120, x121, x122, x123, x124, x125, x126, x127, x128, x129, x130, x131, x132, x133], defers := Ds.map fun D => { target := .collected D, args := #[] } }) (fun a' _ => n' - (intOf (a'.tmps.getD 17 undef)).toNat) ?start ?round
      case start => exact ⟨0, [], _, _, _, _, _, _, _, _, _, _, _, _, _, _, _, _, _, _, _, _, _, _, _, _, _, _, _, _, _, _, _, _, _, _, _, _, _, _, _, _, _, _, _, _, _, _, _, _, _, _, _, by omega, Kept.refl _ _, List.nodup_nil, by simp, rfl⟩
      case round =>
        rintro a' wr ⟨k, Ds, x18, x19, x20, x21, x22, x88, x89, x90, x91, x92, x93, x94, x95, x96, x97, x98, x99, x100, x101, x102, x103, x104, x105, x106, x107, x108, x109, x110, x111, x112, x113, x114, x115, x116, x117, x118, x119, x120, x121, x122, x123, x124, x125, x126, x127, x128, x129, x130, x131, x132, x133, hk, hkp, hnd, hDs, rfl⟩
        by_cases hkn : k = n'
        · subst hkn
          have t1 : ((k : Int) < (k : Int)) = False := by simp
          have hbw := (unhide HBRC).kept hkp (by simp)
          have hcw := hbw.cell 0
          have hfw := hbw.frozen 0
          have HBW := hide hbw
          have HKP := hide hkp
          have HND := hide hnd
          have HDS := hide hDs
          clear hkp hnd hDs hbw
          gi_wp2
          go_wp2_with fail
          have hnD : ∀ D ∈ Ds, D ≠ w.heap.size := fun D hD e => by
            have h1 := (unhide HDS D hD).2
            have h2 : wr.heap[w.heap.size]? = _ := unhide HBW
            rw [e, h2] at h1
            cases h1
          refine leaves_all Ds _ (unhide HND) (fun D hD => (Below.heap_setCell _ _ _ _ (hnD D hD)).trans (unhide HDS D hD).2) (fun W' hW' => ?_)
          have hkw : Kept [] w (wr.setCell ⟨w.heap.size, 0, none⟩ (.bool true)) := ((unhide HKWC).trans (unhide HKP) (by simp)).setCell (p := ⟨w.heap.size, 0, none⟩) (Or.inr (Nat.le_refl _)) _
          have hkf : Kept [] w W' := hkw.trans hW' (fun D hD => Or.inr (Nat.le_trans (unhide HKWC).size (unhide HDS D hD).1))
          have hbf : Blk W' w.heap.size #[.bool true] 4 := ((unhide HBW).set 0 (.bool true)).kept hW' (fun hD => hnD _ hD rfl)
          have hcf := hbf.cell 0
          simp only [List.getElem?_toArray, List.getElem?_cons_zero] at hcf
          refine ⟨.bool true, ?_, rfl, hkf⟩
          simp [results, asAddr, go_sem, hcf]
        · have hkl : k < n' := by omega
          have t1 : ((k : Int) < (n' : Int)) = True := by simp only [eq_iff_iff, iff_true]; omega
          have k0 : (0 : Int) ≤ (k : Int) := by omega
          obtain ⟨-, g', qk, rfl, hck, htk⟩ := ((unhide HROW').kept hkp).get k (by rw [unhide HN']; exact hkl)
          obtain ⟨hri, hav, hzk⟩ := unhide HGD' _ (List.getElem_mem (by rw [unhide HN']; exact hkl) : ts'[k]'(by rw [unhide HN']; exact hkl) ∈ ts')
          generalize ts'[k]'(by rw [unhide HN']; exact hkl) = tk at *
          have hdo := depth_ok tk hav
          have hd63 : dig tk.size ≤ 63 := dig_min _ _ (by omega)
          have HD1 := hide (Depth_any htk)
          have HL1 := hide (Len_any htk)
          have HDG := hide (digits_any (w := wr) tk.size (by omega))
          have hka : Kept [] wr ((wr.alloc (.cells #[.int .i64 0] 3)).alloc (.cells #[.int .i64 0] 3)) := ((Kept.refl [] wr).alloc _).alloc _
          have HA := hide (All_any (htk.kept hka) (by omega))
          have HKA := hide hka
          have HT := hide htk
          have HRI := hide hri
          obtain ⟨dp, hdp⟩ : ∃ dp, tk.depth = dp := ⟨_, rfl⟩
          obtain ⟨sz, hsz⟩ : ∃ sz, tk.size = sz := ⟨_, rfl⟩
          obtain ⟨dg, hdg⟩ : ∃ dg, dig sz = dg := ⟨_, rfl⟩
          rw [hdp, hsz, hdg] at hdo
          rw [hdp] at HD1
          rw [hsz] at HL1 HDG hzk hd63
          rw [hdg] at HDG hd63
          have HSZ := hide hsz
          have t2 : ((2 * (dg : Int)) < (dp : Int)) = False := by simp only [eq_iff_iff, iff_false]; omega
          have t3 : ((dp : Int) < (dg : Int)) = False := by simp only [eq_iff_iff, iff_false]; omega
          have hw2 : IntKind.i64.wrap (2 * (dg : Int)) = 2 * (dg : Int) := by rw [IntKind.wrap_i64]; omega
          have HKP := hide hkp
          have HND := hide hnd
          have HDS := hide hDs
          clear hkp hnd hDs htk hri hav hka hdp hsz hdg
          gi_wp2_with (first
            | (refine ⟨trivial, rfl, ?_⟩; gi_at_call 28; refine (callsIn_wide.2 (unhide HD1)).mono ?_; rintro e w3 ⟨rfl, hq⟩; have hq' := hq.symm; subst hq')
            | (refine ⟨trivial, rfl, ?_⟩; gi_at_call 25; refine (callsIn_wide.2 (unhide HL1)).mono ?_; rintro e w3 ⟨rfl, hq⟩; have hq' := hq.symm; subst hq')
            | (refine ⟨trivial, rfl, ?_⟩; gi_at_call 29; refine (callsIn_wide.2 (unhide HDG)).mono ?_; rintro e w3 ⟨rfl, hq⟩; have hq' := hq.symm; subst hq')
            | (refine ⟨trivial, rfl, ?_⟩; gi_at_call 30; refine (callsIn_wide.2 (unhide HA)).mono ?_; rintro e w9 ⟨v9, rfl, hsq, hk9⟩; obtain ⟨bn, bt, bd, vt, rfl, hbn, hbt, hbd, hnr⟩ := hsq))
          have hlist : outR (spine tk).reverse = tk.list := by have := outR_spine tk []; simpa [outR] using this
          have hseq := entries_seq hbn hbt hbd hnr (by rw [hlist, Tr.list_length, unhide HSZ]; omega)
          rw [hlist] at hseq
          have hbl : Blk w9 wr.heap.size #[.int .i64 0] 3 := ((Blk.new wr #[.int .i64 0] 3).alloc _).kept hk9 (by simp)
          have hbc0 := Blk.new (wr.alloc (.cells #[.int .i64 0] 3)) #[.int .i64 0] 3
          rw [World.size_alloc] at hbc0
          have hbc := hbc0.kept hk9 (by simp)
          have hw9 : Kept [] wr w9 := (unhide HKA).trans hk9 (by simp)
          have hne : wr.heap.size ≠ wr.heap.size + 1 := by omega
          have hbr9 : Blk w9 w.heap.size #[.bool false] 4 := ((unhide HBRC).kept (unhide HKP) (by simp)).kept hw9 (by simp)
          have hrl : w.heap.size < wr.heap.size := ((unhide HBRC).kept (unhide HKP) (by simp)).lt
          refine range_own (gf := 95) (lb := #[.pointer (some ⟨bn, 0, none⟩)]) rfl (enters_of Try.func95 (by kernel_rfl) rfl) hseq (fun _ _ _ _ _ _ _ => trivial) (KpT.refl _) (fun _ => rfl)
            (DpI w9 wr.heap.size (wr.heap.size + 1)) (fun _ pre _ => ¬ Rise pre) (dpI_own (Nat.le_refl _)) (fun _ _ _ _ _ hs _ _ => hs)
            ⟨Kept.refl _ _, hbl, hbc⟩ ?a1 ?assign ?body ?done ?stop
          case assign =>
            intro l x W K hK
            gi_wp2
            exact hK
          case body =>
            rintro l pre ⟨key, x⟩ V hj - hlen
            rw [Tr.list_length, unhide HSZ] at hlen
            have hbrV : Blk V w.heap.size #[.bool false] 4 := hbr9.kept hj.kept (by simp; omega)
            have cr := hbrV.cell 0
            have fr' := hbrV.frozen 0
            have cl := hj.last.cell 0
            have fl := hj.last.frozen 0
            have cc := hj.cnt.cell 0
            have fc := hj.cnt.frozen 0
            have hst := hj.step hne key x
            have h1c : Blk (V.setCell ⟨wr.heap.size, 0, none⟩ (.int .i64 key)) (wr.heap.size + 1) #[.int .i64 (pre.length : Int)] 3 := hj.cnt.other _ (fun e => hne e.symm) _
            have cc1 := h1c.cell 0
            have fc1 := h1c.frozen 0
            simp only [List.getElem?_toArray, List.getElem?_cons_zero] at cr cl cc cc1
            have HST := hide hst
            have hpl : (pre.length : Int) ≤ 9000000000000 := by omega
            by_cases hp : 0 < pre.length
            · have t4 : ((0 : Int) < (pre.length : Int)) = True := by simp only [eq_iff_iff, iff_true]; omega
              by_cases hle : key ≤ lastK pre
              · have t5 : (key ≤ lastK pre) = True := by simp [hle]
                have HBAD := hide (rise_last (e := (key, x)) hp hle)
                clear hst hj hbl hbc hbc0 hseq hbn hbt hbd hnr h1c hbrV
                gi_wp2
                exact ⟨(KeepsOthers.setCell _ _ _).from _, unhide HBAD⟩
              · have t5 : (key ≤ lastK pre) = False := by simp [hle]
                clear hst hj hbl hbc hbc0 hseq hbn hbt hbd hnr h1c hbrV
                gi_wp2
                exact ⟨(unhide HST).2 _, (unhide HST).1⟩
            · have t4 : ((0 : Int) < (pre.length : Int)) = False := by simp only [eq_iff_iff, iff_false]; omega
              clear hst hj hbl hbc hbc0 hseq hbn hbt hbd hnr h1c hbrV
              gi_wp2
              exact ⟨(unhide HST).2 _, (unhide HST).1⟩
          case stop =>
            rintro D c pre V hD hSp hbad hK
            exact absurd (List.Pairwise.sublist hSp.sublist (unhide HRI)) hbad
          case done =>
            rintro D xs V hD rfl hj hK
            have hwV : Kept [] wr V := hw9.trans hj.kept (by intro y hy; right; simp at hy; omega)
            have HLV : Hid (∀ W, Kept [] wr W → Calls Try.prog 25 #[.pointer qk] W fun e w' => e = .returned (.int .i64 (sz : Nat)) ∧ w' = W) := fun W hW => by
              have := Len_any ((unhide HT).kept hW)
              rw [unhide HSZ] at this
              exact this
            have cc := hj.cnt.cell 0
            rw [Tr.list_length, unhide HSZ] at cc
            simp only [List.getElem?_toArray, List.getElem?_cons_zero] at cc
            have HWV := hide hwV
            clear hj hbl hbc hbc0 hseq hbn hbt hbd hnr hwV
            have hkD : ∀ D' ∈ Ds, V.heap[D']? = some (.deferred (some [])) := fun D' hD' => ((unhide HWV).block D' (Array.getElem?_eq_some_iff.1 (unhide HDS D' hD').2).1 (by simp)).trans (unhide HDS D' hD').2
            have hnew : D ∉ Ds := fun hm => by
              have h1 := (Array.getElem?_eq_some_iff.1 (unhide HDS D hm).2).1
              have := hw9.size
              omega
            have hDb : wc.heap.size ≤ D := Nat.le_trans (Nat.le_trans (unhide HKP).size hw9.size) hD
            have HFIN : Hid (Kept [] wc V ∧ (D :: Ds).Nodup ∧ (∀ D' ∈ D :: Ds, wc.heap.size ≤ D' ∧ V.heap[D']? = some (.deferred (some [])))) := ⟨(unhide HKP).trans (unhide HWV) (by simp), List.nodup_cons.2 ⟨hnew, unhide HND⟩, fun D' hD' => by
              rcases List.mem_cons.1 hD' with rfl | h
              · exact ⟨hDb, hK⟩
              · exact ⟨(unhide HDS D' h).1, hkD D' h⟩⟩
            clear hkD hnew hDb hK hw9 hbr9
            gi_wp2_with fail
            refine wpIn_wide.2 ?_
            go_region_held3 (fun w' => w'.cell? ⟨wr.heap.size + 1, 0, none⟩ = some (.int .i64 (sz : Int))) (go_keep) (first
              | (go_at_call 25; refine (unhide HLV _ (by first | exact unhide HWV | exact (unhide HWV).drew | exact (unhide HWV).drew.drew | exact (unhide HWV).drewN _)).mono ?_; rintro e w3 ⟨rfl, hq⟩; have hq' := hq.symm; subst hq'))
            gi_wp2
            obtain ⟨f1, f2, f3⟩ := unhide HFIN
            refine ⟨⟨k + 1, D :: Ds, _, _, _, _, _, _, _, _, _, _, _, _, _, _, _, _, _, _, _, _, _, _, _, _, _, _, _, _, _, _, _, _, _, _, _, _, _, _, _, _, _, _, _, _, _, _, _, _, _, _, _, by omega, ?_, f2, ?_, rfl⟩, ?_⟩
            · first | exact f1 | exact f1.drew | exact f1.drewN _
            · exact f3
            · simp [intOf]; omega
end Go.Proofs.Ytbpeeifgfjpghaa
