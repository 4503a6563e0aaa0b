/- TreeStays: what a tree holds stays. -/
import Derived.Test.YtbpeeifgfjpghabTStC
namespace Go.Proofs.Ytbpeeifgfjpghab
open Go.RowKit Go.Shelf
set_option linter.unusedVariables false
attribute [local go_sem] Oper.semAt_some

set_option maxRecDepth 100000 in
set_option maxHeartbeats 8000000 in
theorem stays_walk {w : World} {v v2 : Value} {os os2 : List OpI} {key val : Int} (h : Ops w v os) (h2 : Ops w v2 os2) (hl : os.length ≤ 1048576) : Calls Try.prog 3 #[v, v2, .int .i64 key, .int .i64 val] w fun e w' => e = .returned (.bool true) ∧ Kept [] w w' := by
  have hnf : ∀ (b : Nat) (W : World), (binOp BinOp.eql 31 (.func (.func 38) #[] #[.pointer (some ⟨b, 0, none⟩)]) .nilFunc).run Try.prog W = .ok (.bool false) W := fun b W => by kernel_rfl
  have HOPS := hide h
  have HOPS2 := hide h2
  obtain ⟨a, cap, rfl, -, -, -, -⟩ := h
  obtain ⟨fa, fcap, rfl, hf1, hf2, -, -⟩ := h2
  have HKN := hide (fun (W : World) => known_any W)
  refine (callsIn_wide (n := 0)).1 ?_
  refine callsIn_of_wp_marks Try.func3 rfl trivial ?_ rfl
  simp only [Try.ntmps3, List.size_toArray, List.length_cons, List.length_nil, Nat.reduceAdd, Nat.reduceSub, Array.replicate_succ, Array.replicate_zero, List.push_toArray, List.append_toArray, List.nil_append, List.cons_append]
  gi_wp2_with (refine ⟨trivial, rfl, ?_⟩; gi_at_call 6; refine (callsIn_wide.2 (unhide HKN _)).mono ?_; rintro e w1 ⟨rfl, hk1⟩; have HK1 := hide hk1; clear hk1)
  have hk0 : Kept [] w ((w.alloc (.cells #[.int .i64 key] 3)).alloc (.cells #[.int .i64 val] 3)) := ((Kept.refl [] w).alloc _).alloc _
  have hk1 := hk0.trans (unhide HK1) (by simp)
  have hbk : Blk w1 w.heap.size #[.int .i64 key] 3 := ((Blk.new w #[.int .i64 key] 3).alloc _).kept (unhide HK1) (by simp)
  have hbv0 := Blk.new (w.alloc (.cells #[.int .i64 key] 3)) #[.int .i64 val] 3
  rw [World.size_alloc] at hbv0
  have hbv := hbv0.kept (unhide HK1) (by simp)
  have HM := hide (made_any ((unhide HOPS).kept hk1) (by omega))
  refine ⟨trivial, rfl, ?_⟩
  refine (callsIn_wide.2 (unhide HM)).mono ?_
  rintro e w2 ⟨v', ts, Ks, rfl, hrow, hne, hlen, hfine, hKs, hk2⟩
  obtain ⟨va, vc, rfl⟩ := hrow.val
  have hpos : 0 < ts.length := List.length_pos_iff.2 hne
  obtain ⟨-, g, q, rfl, hcell, htt⟩ := hrow.get (ts.length - 1) (by omega)
  have hsz : ∀ t ∈ ts, t.size ≤ 1048576 := fun t ht => Nat.le_trans (hfine t ht).size (by omega)
  have HROW := hide hrow
  have HSZ := hide hsz
  have HKW := hide (hk1.trans hk2 (by simp))
  have HBK := hide (hbk.kept hk2 (by simp))
  have HBV := hide (hbv.kept hk2 (by simp))
  obtain ⟨n, hn⟩ : ∃ n, ts.length = n := ⟨_, rfl⟩
  have HN := hide hn
  have hn1 : 0 < n := by omega
  have hn2 : n ≤ 2097153 := by omega
  rw [hn] at hcell ⊢
  clear hbv hbv0 hrow hfine hne HM HK1 hk2 hlen hKs hn hpos hbk hk0 hk1 HKN HOPS hsz htt hcell
  gi_wp2
  refine wpIn_wide.2 ?_
  have HLN : Hid (∀ k, k ≤ n → (ts.take k).length = k) := fun k hk => by rw [List.length_take, unhide HN]; omega
  go_loopw [10, 11] (fun wv i wr => ∃ k : Nat, i = .int .i64 (k : Int) ∧ k ≤ n ∧ WRow w2.heap.size wr wv (ts.take k) ∧ Kept [] w2 wr) (fun _ i _ => n - (intOf i).toNat)
  case atStart => exact ⟨0, rfl, by omega, WRow.nil _ _, Kept.refl _ _⟩
  case round =>
    obtain ⟨k, rfl, hk, hwr, hkp⟩ := hrel
    obtain ⟨wa, wc, rfl⟩ := hwr.val
    have HW := hide hwr
    have HKP := hide hkp
    rw [unhide HLN k hk]
    rw [unhide HLN k hk] at HW
    by_cases hke : k = n
    · subst hke
      have t1 : ((k : Int) < (k : Int)) = False := by simp
      clear hwr hkp
      go_wp2_with fail
      obtain ⟨m, rfl⟩ : ∃ m, k = m + 1 := ⟨k - 1, by omega⟩
      obtain ⟨-, g', q', hg', hc', ht'⟩ := ((unhide HROW).kept (unhide HKP)).get m (by rw [unhide HN]; omega)
      cases hg'
      have i1 : (m : Int) < (m : Int) + 1 := by omega
      have i2 : (m : Int) + 1 - 1 = (m : Int) := by omega
      have hmem : ts[m]'(by rw [unhide HN]; omega) ∈ ts := List.getElem_mem _
      have hz' := unhide HSZ _ hmem
      have hget : ts[m]? = some (ts[m]'(by rw [unhide HN]; omega)) := List.getElem?_eq_getElem _
      generalize ts[m]'(by rw [unhide HN]; omega) = t at *
      have HT := hide ht'
      have HGE := hide hget
      have hka : Kept [] wr ((wr.alloc (.cells #[.pointer q'] 29)).alloc (.cells #[.slice none 0 0] 27)) := ((Kept.refl [] wr).alloc _).alloc _
      have HA := hide (All_any (ht'.kept hka) (by omega))
      have HKA := hide hka
      clear ht' hmem hka t1 hget hk
      gi_wp2_with (refine ⟨trivial, rfl, ?_⟩; gi_at_call 9; refine (callsIn_wide.2 (unhide HA)).mono ?_; rintro e w9 ⟨v9, rfl, hsq, hk9⟩; obtain ⟨bn, bt, bd, vt, rfl, hbn, hbt, hbd, hnr⟩ := hsq)
      have hlist : outR (spine t).reverse = t.list := by have := outR_spine t []; simpa [outR] using this
      have hseq := entries_seq hbn hbt hbd hnr (by rw [hlist, Tr.list_length]; omega)
      rw [hlist] at hseq
      have hbu : Blk w9 wr.heap.size #[.pointer q'] 29 := ((Blk.new wr #[.pointer q'] 29).alloc _).kept hk9 (by simp)
      have hbs0 := Blk.new (wr.alloc (.cells #[.pointer q'] 29)) #[.slice none 0 0] 27
      rw [World.size_alloc] at hbs0
      have hbs := hbs0.kept hk9 (by simp)
      have hlu := hbu.lt
      have hls := hbs.lt
      have hw9 : Kept [] wr w9 := (unhide HKA).trans hk9 (by simp)
      have HW9 := hide hw9
      have hne : wr.heap.size ≠ wr.heap.size + 1 := by omega
      have hz2 := (unhide HKP).size
      have HBK9 := hide ((unhide HBK).kept (unhide HKP) (by simp))
      have HBV9 := hide ((unhide HBV).kept (unhide HKP) (by simp))
      refine range_own (gf := 38) (lb := #[.pointer (some ⟨bn, 0, none⟩)]) rfl (enters_of Try.func38 (by kernel_rfl) rfl) hseq (fun _ _ _ _ _ _ _ => trivial) (KpT.refl _) (fun _ => rfl)
        (StI w9 wr.heap.size (wr.heap.size + 1) t.size) (fun _ _ _ => False) (stI_own (Nat.le_refl _)) (fun _ _ _ _ _ hs _ _ => hs)
        ⟨q', t, ⟨Kept.refl _ _, ⟨none, 0, 0, hbs, rfl, ⟨by simp [flat, ints], Or.inl ⟨rfl, rfl⟩⟩⟩, hbu, (unhide HT).kept hw9, by simp⟩⟩ ?a1 ?assign ?body ?done ?stop
      case assign =>
        intro l x W K hK
        gi_wp2
        exact hK
      case body =>
        rintro l pre ⟨k, x⟩ V ⟨qu, tu, hj⟩ - hlen
        rw [Tr.list_length] at hlen
        have hwV : Kept [] wr V := hw9.trans hj.kept (by intro y hy; right; simp at hy; omega)
        obtain ⟨va, n, vc, hb, hn, hrow⟩ := hj.row
        subst hn
        obtain ⟨i0, hi, hz0, hz1, hz3⟩ := info_parts info_i
        have hcx := hb.cell 0
        have hfx := hb.frozen 0
        simp only [List.getElem?_toArray, List.getElem?_cons_zero] at hcx
        have hfl := flat_len pre
        have hszV := hj.kept.size
        have hka2 : Kept [] V (V.alloc (.cells #[.int .i64 k, .int .i64 x] 3)) := (Kept.refl [] V).alloc _
        have HROWV : (V.alloc (.cells #[.int .i64 k, .int .i64 x] 3)).ownsRow w9.heap.size 3 1 (.slice va (flat pre).length vc) (flat pre).length (ints (flat pre)) := own_kept hrow hka2 (by simp)
        have HCEL : ∀ (j : Nat) (u : Value), [Value.int .i64 k, .int .i64 x][j]? = some u → (V.alloc (.cells #[.int .i64 k, .int .i64 x] 3)).cell? ((⟨V.heap.size, 0, none⟩ : Addr).add j) = some u := by
          intro j u hj
          have hadd : (⟨V.heap.size, 0, none⟩ : Addr).add j = ⟨V.heap.size, j, none⟩ := by unfold Addr.add; split <;> simp_all
          rw [hadd, (Blk.new V #[.int .i64 k, .int .i64 x] 3).cell j]
          simpa using hj
        have B1 : (flat pre).length + 2 ≤ maxLen := by unfold maxLen; omega
        have B2 : ((flat pre).length + 2) * 8 ≤ 140737488355328 := by omega
        have B3 : w9.heap.size ≤ (V.alloc (.cells #[.int .i64 k, .int .i64 x] 3)).heap.size := by simp; omega
        have HJ := hide hj
        have HB := hide hb
        have HWV := hide hwV
        have HRWV := hide HROWV
        have HCL := hide HCEL
        have HZU := hide hj.size
        have HNE := hide hne
        have HLU := hide hlu
        have HLS := hide hls
        have HB1 := hide B1
        have HB2 := hide B2
        have HB3 := hide B3
        have HKA2 := hide hka2
        clear hb hrow HROWV HCEL hfl hj hwV hbu hbs hbs0 hseq hne hlu hls hz2 B1 B2 B3 hbn hbt hbd hnr hka2 hw9 hszV
        have HPUSH : Hid (∀ (a2 : Option Addr) (c2 : Nat) (V2 : World), V2.ownsRow w9.heap.size 3 1 (.slice a2 ((flat pre).length + 2) c2) ((flat pre).length + 2) (ints (flat pre) ++ [.int .i64 k, .int .i64 x]) → (V.alloc (.cells #[.int .i64 k, .int .i64 x] 3)).grownBy V2 (Value.slice va (flat pre).length vc).ownBlock →
            (StJ w9 wr.heap.size (wr.heap.size + 1) (t.size + pre.length) (pre ++ [(k, x)]) qu tu (V2.setCell ⟨wr.heap.size + 1, 0, none⟩ (.slice a2 ((flat pre).length + 2) c2)) ∧ Blk V2 (wr.heap.size + 1) #[.slice va (flat pre).length vc] 27) ∧
            (Gd w9.heap.size V (V2.setCell ⟨wr.heap.size + 1, 0, none⟩ (.slice a2 ((flat pre).length + 2) c2)) ∧ Kept [] wr (V2.setCell ⟨wr.heap.size + 1, 0, none⟩ (.slice a2 ((flat pre).length + 2) c2)))) := by
          intro a2 c2 V2 ho2 hg2
          have hjv := (unhide HJ).keep (unhide HKA2)
          have hp := StJ.push (unhide HNE) (unhide HLS) (unhide HLU) hjv.kept hjv.box hjv.tree hjv.size ((unhide HB).kept (unhide HKA2) (by simp)) (unhide HRWV) hg2 ho2
          have hgd : Gd w9.heap.size V (V2.setCell ⟨wr.heap.size + 1, 0, none⟩ (.slice a2 ((flat pre).length + 2) c2)) := ((Gd.of_kept (unhide HKA2)).trans (Gd.of_grown (T := 3) (by decide) hg2 (row_block (unhide HRWV)))).trans (Gd.set (by decide) hp.2 _)
          exact ⟨hp, hgd, (unhide HW9).trans hp.1.kept (by intro y hy; right; simp at hy; omega)⟩
        have HPUT : Hid (∀ (W : World) (K : Int), StJ w9 wr.heap.size (wr.heap.size + 1) (t.size + pre.length) (pre ++ [(k, x)]) qu tu W → Calls Try.prog 10 #[.pointer qu, .int .i64 K, .int .i64 val] W fun e w' => ∃ q, e = .returned (.pointer q) ∧ Tt w' q (tu.put K val) ∧ Kept [] W w' ∧ (tu.put K val).size ≤ t.size + pre.length + 1) := fun W K h => (Put_any K val h.tree (by have := h.size; omega)).mono (by rintro e w' ⟨q, h1, h2, h3⟩; exact ⟨q, h1, h2, h3, by have := h.size; have := tu.put_size K val; omega⟩)
        have HDEL : Hid (∀ (W : World) (K : Int) (qp : Option Addr), StJ w9 wr.heap.size (wr.heap.size + 1) (t.size + pre.length + 1) (pre ++ [(k, x)]) qp (tu.put K val) W → Calls Try.prog 11 #[.pointer qp, .int .i64 k] W fun e w' => ∃ q, e = .returned (.tuple #[.pointer q, .bool ((tu.put K val).without k).2]) ∧ Tt w' q ((tu.put K val).without k).1 ∧ Kept [] W w' ∧ ((tu.put K val).without k).1.size ≤ t.size + pre.length + 1) := fun W K qp h => (Delete_any k h.tree (by have := h.size; omega)).mono (by rintro e w' ⟨q, h1, h2, h3⟩; exact ⟨q, h1, h2, h3, by have := h.size; have := (tu.put K val).without_size k; omega⟩)
        gi_wp2_with (first
          | (gi_at_builtin; refine wpListIn_append_own _ rfl _ _ 27 rfl w9.heap.size 3 i0 _ 1 8 Try.underlying27 hi hz0 hz1 hz3 rfl (by decide) _ _ _ rfl (unhide HRWV) ⟨V.heap.size, 0, none⟩ 2 2 [.int .i64 k, .int .i64 x] rfl rfl (unhide HCL) (by simp [Value.oneCell']) (unhide HB1) (unhide HB2) (unhide HB3) ?_; intro v2 V2 hown2 hg2 _; obtain ⟨a2, c2, rfl⟩ := own_len hown2; have hpu := unhide HPUSH a2 c2 V2 hown2 hg2; have hcx2 := hpu.1.2.cell 0; have hfx2 := hpu.1.2.frozen 0; have hcu3 := hpu.1.1.box.cell 0; have hfu3 := hpu.1.1.box.frozen 0; have hck3 := ((unhide HBK9).kept hpu.2.2 (by simp)).cell 0; have hcv3 := ((unhide HBV9).kept hpu.2.2 (by simp)).cell 0; have HJ3 := hide hpu.1.1; have HGD3 := hide hpu.2.1; clear hown2 hg2 hpu)
          | (refine ⟨trivial, rfl, ?_⟩; gi_at_call 10; refine ((callsIn_wide.2 (unhide HPUT _ _ (unhide HJ3))).inRound _).mono ?_; rintro e w4 ⟨qp, rfl, htp, hk4, hz4⟩; have hj4 := (unhide HJ3).keep hk4; have hcu4 := hj4.box.cell 0; have hfu4 := hj4.box.frozen 0; have hj5 := hj4.put (unhide HNE) (unhide HLU) htp (M' := t.size + pre.length + 1) hz4; have hcu5 := hj5.box.cell 0; have HJ5 := hide hj5; have HGD5 := hide (((unhide HGD3).trans (Gd.of_kept hk4)).trans (Gd.set (by decide) hj4.box (.pointer qp))); clear htp hk4 hj4 hj5)
          | (refine ⟨trivial, rfl, ?_⟩; gi_at_call 11; refine ((callsIn_wide.2 (unhide HDEL _ _ _ (unhide HJ5))).inRound _).mono ?_; rintro e w6 ⟨qd, rfl, htd, hk6, hz6⟩; have hj6 := (unhide HJ5).keep hk6; have hcu6 := hj6.box.cell 0; have hfu6 := hj6.box.frozen 0; have hj7 := hj6.put (unhide HNE) (unhide HLU) htd (M' := t.size + pre.length + 1) hz6; have HJ7 := hide hj7; have HGD7 := hide (((unhide HGD5).trans (Gd.of_kept hk6)).trans (Gd.set (by decide) hj6.box (.pointer qd))); clear htd hk6 hj6 hj7))
        have hlen2 : t.size + (pre ++ [(k, x)]).length = t.size + pre.length + 1 := by simp [Nat.add_assoc]
        have h7 := unhide HJ7
        rw [← hlen2] at h7
        exact ⟨unhide HGD7, _, _, h7⟩
      case stop =>
        rintro D c pre V hD hSp h hK
        exact h.elim
      case done =>
        rintro D xs V hD rfl ⟨qu, tu, hj⟩ hK
        have hwV : Kept [] wr V := hw9.trans hj.kept (by intro y hy; right; simp at hy; omega)
        have hDw : w.heap.size ≤ D := Nat.le_trans (((unhide HKW).trans (unhide HKP) (by simp)).trans hw9 (by simp)).size hD
        have HDW := hide hDw
        clear hDw
        obtain ⟨va, n, vc', hb, hn, hrow⟩ := hj.row
        subst hn
        have hcx := hb.cell 0
        simp only [List.getElem?_toArray, List.getElem?_cons_zero] at hcx
        have hts : List.take (m + 1) ts = ts := List.take_of_length_le (by rw [unhide HN]; omega)
        have hwas := (unhide HW).kept hwV
        rw [hts] at hwas
        obtain ⟨g3, u3, rfl, hc3, ho3⟩ := hwas.get (unhide HGE)
        obtain ⟨ua3, uc3, rfl⟩ := own_len ho3
        have hfl : (flat t.list).length ≤ 4611686018427387904 := by rw [flat_len, Tr.list_length]; omega
        have HAL : Hid (∀ W, Kept [] V W → Calls Try.prog 12 #[.slice va (flat t.list).length vc', .slice ua3 (flat t.list).length uc3] W fun e w' => e = .returned (.bool true) ∧ Kept [] V w') := fun W hW => (alike_any (own_kept hrow hW (by simp)) (own_kept ho3 hW (by simp)) hfl).mono (by rintro e w' ⟨h1, h2⟩; exact ⟨h1, hW.trans h2 (by simp)⟩)
        have HWV := hide hwV
        have HWAS := hide hwas
        have HJ := hide hj
        have HB := hide hb
        clear hb hrow hj hwV hwas hbu hbs hbs0 hseq hne hz2 hbn hbt hbd hnr hw9 ho3 hts hc'
        have i0 : (0 : Int) ≤ (m : Int) := by omega
        gi_wp2_with fail
        obtain ⟨N1, hN1⟩ : ∃ N1, m + 1 = N1 := ⟨_, rfl⟩
        have hw2 : IntKind.i64.wrap ((N1 : Int) - 1) = (m : Int) := by rw [IntKind.wrap_i64]; omega
        have i4 : (m : Int) < (N1 : Int) := by omega
        have HN1 := hide hN1
        rw [hN1] at HW HWAS HN ⊢
        clear hN1 i1 i2
        refine wpIn_wide.2 ?_
        go_region_held3 (fun w' => w'.cell? ⟨wr.heap.size + 1, 0, none⟩ = some (.slice va (flat t.list).length vc') ∧ w'.cell? ⟨g3, m, none⟩ = some (.slice ua3 (flat t.list).length uc3)) (first | go_keep | (exact ⟨(unhide HK10).cell' hcx, (unhide HK10).cell' hc3⟩)) (first | (go_at_call 12; refine (unhide HAL _ (by first | exact Kept.refl _ _ | exact (Kept.refl _ _).drew | exact (Kept.refl _ _).drew.drew | exact (Kept.refl _ _).drewN _)).mono ?_; rintro e w10 ⟨rfl, hk10⟩; have HK10 := hide hk10; clear hk10))
        have hk10 : Kept [] w2 w10 := ((unhide HKP).trans (unhide HWV) (by simp)).trans (unhide HK10) (by simp)
        have hrow10 := (unhide HROW).kept hk10
        rw [unhide HN] at hrow10
        have HR10 := hide hrow10
        have HW10 := hide ((unhide HWAS).kept (unhide HK10))
        have HKW10 := hide ((unhide HKW).trans hk10 (by simp))
        have HOP10 := hide ((unhide HOPS2).kept (unhide HKW10))
        have HD10 : Hid (w10.heap[D]? = some (.deferred (some []))) := ((unhide HK10).block D (Array.getElem?_eq_some_iff.1 hK).1 (by simp)).trans hK
        clear hrow10 hk10 hcx hc3 hK
        gi_wp2
        have HGET : Hid (∀ (W : World) (r : Nat), Kept [] w10 W → r < N1 → ∃ q t, W.cell? ⟨g, r, none⟩ = some (.pointer q) ∧ Tt W q t ∧ t.size ≤ 1048576) := fun W r hW hr => by
          obtain ⟨-, g', q, hga, hcell, htt⟩ := ((unhide HR10).kept hW).get r (by rw [unhide HN]; exact hr)
          obtain rfl : g = g' := (by simpa using hga)
          exact ⟨q, _, hcell, htt, unhide HSZ _ (List.getElem_mem _)⟩
        have hfc : fcap ≤ 9223372036854775807 := by unfold maxLen at hf2; omega
        obtain ⟨L2, hL2⟩ : ∃ L2, os2.length = L2 := ⟨_, rfl⟩
        have HL2 := hide hL2
        rw [hL2] at HOP10 hf1 ⊢
        have HPOS : Hid (0 < N1) := by have := unhide HN1; show 0 < N1; omega
        have HN12 : Hid (N1 ≤ 2097153) := by have := unhide HN1; show N1 ≤ 2097153; omega
        clear hL2 HOPS2 HJ HB HWAS HW HWV HAL
        refine wpIn_wide.2 ?_
        go_loopw [18] (fun i wx => ∃ k : Nat, i = .int .i64 (k : Int) ∧ k ≤ L2 ∧ Kept [] w10 wx) (fun i _ => L2 - (intOf i).toNat)
        case atStart => exact ⟨0, rfl, by omega, Kept.refl _ _⟩
        case round =>
          obtain ⟨k, rfl, hk, hkp⟩ := hrel
          have HKX := hide hkp
          by_cases hke : k = L2
          · subst hke
            have t1 : ((k : Int) < (k : Int)) = False := by simp
            clear hkp
            go_wp2_with fail
            gi_wp2_with fail
            refine wpIn_wide.2 ?_
            go_loopw [23] (fun i wx => ∃ j : Nat, i = .int .i64 (j : Int) ∧ j ≤ N1 ∧ Kept [] w10 wx) (fun i _ => N1 - (intOf i).toNat)
            case atStart => exact ⟨0, rfl, by omega, unhide HKX⟩
            case round =>
              obtain ⟨j, rfl, hj, hkp⟩ := hrel
              by_cases hje : j = N1
              · subst hje
                have t1 : ((j : Int) < (j : Int)) = False := by simp
                have hd : wr.heap[D]? = some (.deferred (some [])) := (hkp.block D (Array.getElem?_eq_some_iff.1 (unhide HD10)).1 (by simp)).trans (unhide HD10)
                have hkz : Kept [] w wr := (unhide HKW10).trans hkp (by simp)
                have HKZ := hide hkz
                have HD := hide hd
                clear hkp hkz hd
                go_wp2
                gi_wp2
                refine ⟨by simp, .inl ⟨_, _, rfl, run_takeDeferred (unhide HD), ?_⟩⟩
                refine ⟨_, results_tmp rfl _ _ _, rfl, ?_⟩
                exact own_put (kept_own (β := Unit) (B := w.heap.size) (w := w) (Nat.le_refl _)) (s := ()) (.deferred none) (unhide HKZ) (unhide HDW) (unhide HD) rfl
              · have hjn : j < N1 := by omega
                have t1 : ((j : Int) < (N1 : Int)) = True := by simp only [eq_iff_iff, iff_true]; omega
                have j0 : (0 : Int) ≤ (j : Int) := by omega
                have j2 : N1 ≤ 2097153 := unhide HN12
                obtain ⟨-, g', qj, hga, hcell, htt⟩ := ((unhide HR10).kept hkp).get j (by rw [unhide HN]; exact hjn)
                obtain rfl : g = g' := (by simpa using hga)
                have hgj : ts[j]? = some (ts[j]'(by rw [unhide HN]; exact hjn)) := List.getElem?_eq_getElem _
                have hzj := unhide HSZ _ (List.getElem_mem (by rw [unhide HN]; exact hjn) : ts[j]'(by rw [unhide HN]; exact hjn) ∈ ts)
                obtain ⟨g3', uj, hgb, hcw, how⟩ := ((unhide HW10).kept hkp).get hgj
                obtain rfl : g3 = g3' := (by simpa using hgb)
                generalize ts[j]'(by rw [unhide HN]; exact hjn) = tj at *
                obtain ⟨uaj, ucj, rfl⟩ := own_len how
                have hflj : (flat tj.list).length ≤ 4611686018427387904 := by rw [flat_len, Tr.list_length]; omega
                have HRW : Hid (∀ W, Kept [] wr W → Calls Try.prog 8 #[.pointer qj] W fun e w' => ∃ b vv, e = .returned vv ∧ w'.ownsRow b 3 1 vv (flat tj.list).length (ints (flat tj.list)) ∧ Kept [] wr w') := fun W hW => (row_any (htt.kept hW) (by omega)).mono (by rintro e w' ⟨vv, x1, x2, x3⟩; exact ⟨_, vv, x1, x2, hW.trans x3 (by simp)⟩)
                have HALL : Hid (∀ W b vv, Kept [] wr W → W.ownsRow b 3 1 vv (flat tj.list).length (ints (flat tj.list)) → Calls Try.prog 12 #[vv, .slice uaj (flat tj.list).length ucj] W fun e w' => e = .returned (.bool true) ∧ Kept [] wr w') := fun W b vv hW hv => (alike_any hv (own_kept how hW (by simp)) hflj).mono (by rintro e w' ⟨x1, x2⟩; exact ⟨x1, hW.trans x2 (by simp)⟩)
                have HKX := hide hkp
                clear htt how hgj hzj hkp hflj hga hgb
                go_wp2_with fail
                go_region_held3 (fun w' => w'.cell? ⟨g, j, none⟩ = some (.pointer qj) ∧ w'.cell? ⟨g3, j, none⟩ = some (.slice uaj (flat tj.list).length ucj)) (first | go_keep | (exact ⟨(unhide HKC).cell' hcell, (unhide HKC).cell' hcw⟩)) (first
                  | (go_at_call 8; refine (unhide HRW _ (by first | exact Kept.refl _ _ | exact (Kept.refl _ _).drew | exact (Kept.refl _ _).drew.drew | exact (Kept.refl _ _).drewN _)).mono ?_; rintro e w5 ⟨b5, v5, rfl, ho5, hk5⟩; obtain ⟨a5, c5, rfl⟩ := own_len ho5; have HKC := hide hk5; have HO5 := hide ho5; clear HRW ho5 hk5)
                  | (go_at_call 12; refine (unhide HALL _ _ _ (by first | exact (unhide HKC) | exact (unhide HKC).drew | exact (unhide HKC).drew.drew | exact (unhide HKC).drewN _) (unhide HO5)).mono ?_; rintro e w7 ⟨rfl, hk7⟩; clear HKC; have HKC := hide hk7; clear hk7 HALL))
                go_wp2
                refine ⟨⟨j + 1, by simp, by omega, ?_⟩, ?_⟩
                · exact (unhide HKX).trans (unhide HKC) (by simp)
                · simp [intOf]; omega
          have hkn : k < L2 := by omega
          have t1 : ((k : Int) < (L2 : Int)) = True := by simp only [eq_iff_iff, iff_true]; omega
          obtain ⟨fa', fc', he, -, -, hoks, hat⟩ := (unhide HOP10).kept hkp
          simp only [Value.slice.injEq] at he
          obtain ⟨rfl, -, rfl⟩ := he
          obtain ⟨o, ho⟩ : ∃ o, os2[k]? = some o := ⟨os2[k]'(by rw [unhide HL2]; exact hkn), List.getElem?_eq_getElem _⟩
          have hok : o.ok := hoks o (List.mem_of_getElem? ho)
          obtain ⟨b, off, rfl, hb, hat⟩ : ∃ b off, fa = some ⟨b, off, none⟩ ∧ b < wr.heap.size ∧ ∀ (j : Nat) (o : OpI), os2[j]? = some o →
              wr.cell? ⟨b, off + j * 4, none⟩ = some (.int .i64 o.kind) ∧ wr.cell? ⟨b, off + j * 4 + 1, none⟩ = some (.int .i64 o.fr) ∧ wr.cell? ⟨b, off + j * 4 + 2, none⟩ = some (.int .i64 o.key) ∧ wr.cell? ⟨b, off + j * 4 + 3, none⟩ = some (.int .i64 o.val) := by
            rcases hat with h | h
            · rw [h] at ho; simp at ho
            · exact h
          obtain ⟨c0, c1, c2, c3⟩ := hat k o ho
          obtain ⟨kind, fr, key', val'⟩ := o
          simp only at c0 c1 c2 c3
          obtain ⟨ok0, ok1, ok2, ok3⟩ := hok
          simp only at ok0 ok1 ok2 ok3
          have hka : Kept [] wr (wr.alloc (.cells #[.int .i64 kind, .int .i64 fr, .int .i64 key', .int .i64 val'] 38)) := (Kept.refl [] wr).alloc _
          have HK1 := hide (hkp.trans hka (by simp))
          have HBO := hide (Blk.new wr #[.int .i64 kind, .int .i64 fr, .int .i64 key', .int .i64 val'] 38)
          have HRD := hide (round_any (w := wr.alloc (.cells #[.int .i64 kind, .int .i64 fr, .int .i64 key', .int .i64 val'] 38)) fr N1 ok1 (unhide HPOS) (by have := unhide HN12; omega))
          clear hkp hka hat hoks ho hb
          have kk0 : (0 : Int) ≤ (k : Int) := by omega
          by_cases k0 : kind = 0
          · subst k0
            go_wp2_with (first
              | (go_at_call 13; refine (unhide HRD).mono ?_; rintro e w5 ⟨⟨r, hr, rfl⟩, hq⟩; have hq' := hq.symm; subst hq'; obtain ⟨qr, tr, hcell, htr, hzr⟩ := unhide HGET _ r (unhide HK1) hr; have hr1 : (0 : Int) ≤ (r : Int) := (by omega); have hr2 : (r : Int) < (N1 : Int) := (by omega); have HC := hide (Put_any key' val' htr (by omega)); clear HRD htr)
              | (go_at_call 10; refine (unhide HC).mono ?_; rintro e w6 ⟨q6, rfl, ht6, hk6⟩; have HEND := hide ((unhide HK1).trans hk6 (by simp)); clear ht6 hk6 HC))
            refine ⟨⟨k + 1, by simp, by omega, unhide HEND⟩, ?_⟩
            simp [intOf]; omega
          by_cases k1 : kind = 1
          · subst k1
            go_wp2_with (first
              | (go_at_call 13; refine (unhide HRD).mono ?_; rintro e w5 ⟨⟨r, hr, rfl⟩, hq⟩; have hq' := hq.symm; subst hq'; obtain ⟨qr, tr, hcell, htr, hzr⟩ := unhide HGET _ r (unhide HK1) hr; have hr1 : (0 : Int) ≤ (r : Int) := (by omega); have hr2 : (r : Int) < (N1 : Int) := (by omega); have HC := hide (Delete_any key' htr (by omega)); clear HRD htr)
              | (go_at_call 11; refine (unhide HC).mono ?_; rintro e w6 ⟨q6, rfl, ht6, hk6⟩; have HEND := hide ((unhide HK1).trans hk6 (by simp)); clear ht6 hk6 HC))
            refine ⟨⟨k + 1, by simp, by omega, unhide HEND⟩, ?_⟩
            simp [intOf]; omega
          by_cases k6 : kind = 6
          · subst k6
            have HS1 : Hid (∀ t : TI, (t.split key').1.size + (t.split key').2.size = t.size) := fun t => t.split_size key'
            go_wp2_with (first
              | (go_at_call 13; refine (unhide HRD).mono ?_; rintro e w5 ⟨⟨r, hr, rfl⟩, hq⟩; have hq' := hq.symm; subst hq'; obtain ⟨qr, tr, hcell, htr, hzr⟩ := unhide HGET _ r (unhide HK1) hr; have hr1 : (0 : Int) ≤ (r : Int) := (by omega); have hr2 : (r : Int) < (N1 : Int) := (by omega); have HC := hide (Split_any key' htr (by omega)); have HZR := hide hzr; clear hzr; clear HRD htr)
              | (go_at_call 14; refine (unhide HC).mono ?_; rintro e w6 ⟨q6, q7, rfl, ht6, ht7, hk6⟩; have HP1 : Hid (∀ K, Calls Try.prog 10 #[.pointer q6, .int .i64 K, .int .i64 val'] w6 fun e w' => ∃ q, e = .returned (.pointer q) ∧ Kept [] w6 w') := (fun K => (Put_any K val' ht6 (by have := unhide HS1 tr; have := unhide HZR; omega)).mono (by rintro e w' ⟨q, x1, x2, x3⟩; exact ⟨q, x1, x3⟩)); have HT7 := hide ht7; have hb6 := (unhide HBO).kept hk6 (by simp); have d62 := hb6.cell 2; have d63 := hb6.cell 3; have HB6 := hide hb6; have HK6 := hide ((unhide HK1).trans hk6 (by simp)); clear ht6 ht7 hk6 HC hb6)
              | (go_at_call 10; refine (unhide HP1 _).mono ?_; rintro e w7 ⟨q8, rfl, hk7⟩; have hb7 := (unhide HB6).kept hk7 (by simp); have d72 := hb7.cell 2; have d73 := hb7.cell 3; have HP2 := hide (Put_any key' val' ((unhide HT7).kept hk7) (by have := unhide HS1 tr; have := unhide HZR; omega)); have HK7 := hide ((unhide HK6).trans hk7 (by simp)); clear hk7 hb7 HP1)
              | (go_at_call 10; refine (unhide HP2).mono ?_; rintro e w8 ⟨q9, rfl, -, hk8⟩; have HEND := hide ((unhide HK7).trans hk8 (by simp)); clear hk8 HP2))
            refine ⟨⟨k + 1, by simp, by omega, unhide HEND⟩, ?_⟩
            simp [intOf]; omega
          by_cases k7 : kind = 7
          · subst k7
            have HRE := hide (round_any (w := wr.alloc (.cells #[.int .i64 7, .int .i64 fr, .int .i64 key', .int .i64 val'] 38)) key' N1 ok2 (unhide HPOS) (by have := unhide HN12; omega))
            go_wp2_with (first
              | (go_at_call 13; refine (unhide HRD).mono ?_; rintro e w5 ⟨⟨r, hr, rfl⟩, hq⟩; have hq' := hq.symm; subst hq'; obtain ⟨qr, tr, hcell, htr, hzr⟩ := unhide HGET _ r (unhide HK1) hr; have hr1 : (0 : Int) ≤ (r : Int) := (by omega); have hr2 : (r : Int) < (N1 : Int) := (by omega); have HTT := hide htr; clear HRD htr)
              | (go_at_call 13; refine (unhide HRE).mono ?_; rintro e w5 ⟨⟨r2, hr', rfl⟩, hq⟩; have hq' := hq.symm; subst hq'; obtain ⟨qr2, tr2, hcell2, htr2, hzr2⟩ := unhide HGET _ r2 (unhide HK1) hr'; have hr12 : (0 : Int) ≤ (r2 : Int) := (by omega); have hr22 : (r2 : Int) < (N1 : Int) := (by omega); have HC := hide (Join_any (unhide HTT) htr2 (by omega)); clear HRE htr2)
              | fail)
            refine (unhide HC).mono ?_
            rintro e w6 ⟨hk6, ⟨q6, rfl, ht6, hap⟩ | ⟨rfl, hna⟩⟩
            · have HEND := hide ((unhide HK1).trans hk6 (by simp))
              clear ht6 hk6 HC hap
              dsimp only
              go_wp2
              refine ⟨⟨k + 1, by simp, by omega, unhide HEND⟩, ?_⟩
              simp [intOf]; omega
            · have HEND := hide ((unhide HK1).trans hk6 (by simp))
              clear hk6 HC hna
              dsimp only
              go_wp2
              refine ⟨⟨k + 1, by simp, by omega, unhide HEND⟩, ?_⟩
              simp [intOf]; omega
          · have HEND := HK1
            go_wp2_with (first
              | (go_at_call 13; refine (unhide HRD).mono ?_; rintro e w5 ⟨⟨r, hr, rfl⟩, hq⟩; have hq' := hq.symm; subst hq'; obtain ⟨qr, tr, hcell, htr, hzr⟩ := unhide HGET _ r (unhide HK1) hr; have hr1 : (0 : Int) ≤ (r : Int) := (by omega); have hr2 : (r : Int) < (N1 : Int) := (by omega); skip; clear HRD htr))
            refine ⟨⟨k + 1, by simp, by omega, unhide HEND⟩, ?_⟩
            simp [intOf]; omega
    · have hkn : k < n := by omega
      have t1 : ((k : Int) < (n : Int)) = True := by simp only [eq_iff_iff, iff_true]; omega
      have k0 : (0 : Int) ≤ (k : Int) := by omega
      obtain ⟨-, g', q', hg', hc', ht'⟩ := ((unhide HROW).kept hkp).get k (by rw [unhide HN]; exact hkn)
      cases hg'
      have hmem : ts[k]'(by rw [unhide HN]; exact hkn) ∈ ts := List.getElem_mem _
      have htk : ts.take k ++ [ts[k]'(by rw [unhide HN]; exact hkn)] = ts.take (k + 1) := by rw [List.take_add_one, List.getElem?_eq_getElem (by rw [unhide HN]; exact hkn)]; rfl
      have hz' := unhide HSZ _ hmem
      generalize ts[k]'(by rw [unhide HN]; exact hkn) = t' at *
      have HRW := hide (row_any ht' (by omega))
      have HTK := hide htk
      have HLE : Hid ((ts.take k).length + 1 ≤ 5864062014805) := by show _ ≤ _; rw [unhide HLN k hk]; omega
      clear hwr hkp ht' htk hmem hz'
      go_wp2_with fail
      refine (unhide HRW).mono ?_
      rintro e w3 ⟨v3, rfl, ho3, hk3⟩
      have hka3 : Kept [] w3 (w3.alloc (.cells #[v3] 27)) := (Kept.refl [] w3).alloc _
      have HB4 := hide (Blk.new w3 #[v3] 27)
      have HW4 := hide (((unhide HW).kept hk3).kept hka3)
      have HK4 := hide (((unhide HKP).trans hk3 (by simp)).trans hka3 (by simp))
      have HO4 := hide (row_low (own_kept ho3 hka3 (by simp)) ((unhide HKP).size))
      obtain ⟨a3, c3, rfl⟩ := own_len ho3
      clear ho3 hk3 hka3
      dsimp only
      go_wp2_with (at_builtin; refine wpList_append_rows (t := t') _ rfl _ _ rfl rfl HK4 HW4 rfl HB4 HO4 HLE ?_; intro va5 n5 vc5 w5 HN5 HW5 HK5)
      have hk1 : IntKind.i64.wrap ((k : Int) + 1) = (k : Int) + 1 := by rw [IntKind.wrap_i64]; omega
      refine ⟨⟨k + 1, by simp, by omega, ?_, unhide HK5⟩, ?_⟩
      · have := unhide HW5; rw [unhide HTK] at this; exact this
      · simp [intOf]; omega
end Go.Proofs.Ytbpeeifgfjpghab
