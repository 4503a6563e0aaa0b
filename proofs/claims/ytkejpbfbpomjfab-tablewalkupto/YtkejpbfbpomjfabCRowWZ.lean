/- Rows: the rows of a table. -/
import Derived.Test.YtkejpbfbpomjfabCRowPZ
namespace Go.Proofs.Ytkejpbfbpomjfab.tre
open Go.RowKit Go.Shelf
set_option linter.unusedVariables false
attribute [local go_sem] Oper.semAt_some

set_option maxRecDepth 100000 in
set_option maxHeartbeats 4000000 in
theorem rows_any {w : World} {b : Nat} {T : Tb} (h : Tab w b T) (hT : Tok T) (hsm : T.t.size ≤ 1048576) : Calls Try.prog 11 #[.pointer (some ⟨b, 0, none⟩)] w fun e w' => ∃ v l, e = .returned v ∧ l.map (·.e) = T.t.list ∧ w'.ownsRow w.heap.size 32 3 v l.length (flatR l) ∧ (∀ r ∈ l, ReP w.heap.size w' r) ∧ Kept [] w w' := by
  have hrev := hT.rev
  have hsz := hT.ok.size
  have hbl : b < w.heap.size := by obtain ⟨q0, hb0, -⟩ := h; exact hb0.lt
  have HL : Hid (∀ W, Kept [] w W → _) := hide (fun W (hk : Kept [] w W) => tlen_any (h.kept hk) hT.ok)
  have hnf : ∀ (b : Nat) (W : World), (binOp BinOp.eql 70 (.func (.func 74) #[] #[.pointer (some ⟨b, 0, none⟩)]) .nilFunc).run Try.prog W = .ok (.bool false) W := fun b W => by kernel_rfl
  obtain ⟨q, hb, ht⟩ := h
  have HA : Hid (∀ W, Kept [] w W → _) := hide (fun W (hk : Kept [] w W) => All_any (ht.kept hk) (by omega))
  obtain ⟨c0, c1, c2⟩ := box3 hb
  have HB := hide hb
  have HT := hide ht
  clear hb ht
  obtain ⟨i0, hi, hz0, hz1, hz2⟩ := info_parts2 infoRow
  refine (callsIn_wide (n := 0)).1 ?_
  refine callsIn_of_wp_marks Try.func11 rfl trivial ?_ rfl
  simp only [Try.ntmps11, List.size_toArray, List.length_cons, List.length_nil, Nat.reduceAdd, Nat.reduceSub, Array.replicate_succ, Array.replicate_zero, List.push_toArray, List.append_toArray, List.nil_append, List.cons_append]
  gi_wp2_with (first
    | (refine ⟨trivial, rfl, ?_⟩; gi_at_call 27; refine (callsIn_wide.2 (unhide HL _ (by first | exact Kept.refl [] w | exact (Kept.refl [] w).alloc _ | exact (Kept.refl [] w).drew))).mono ?_; rintro e w1 ⟨rfl, hq⟩; have hq2 := hq.symm; subst hq2)
    | (gi_at_make; refine wpListIn_make_own _ rfl _ _ 29 rfl w.heap.size 32 i0 _ 3 Try.underlying29 hi hz0 hz1 .i64 .i64 _ T.t.size rfl rfl rfl (by rw [hz2]; omega) (by unfold maxLen; omega) (Nat.le_refl _) ?_; intro w1 ho1 hg1
       have hk1 : Kept [] w w1 := ⟨hg1.os, hg1.tape, hg1.output, hg1.size, fun k hk _ => hg1.block k hk (by simp)⟩
       have hst : Rs w (w1.alloc (.cells #[.slice (some ⟨w.heap.size, 0, none⟩) 0 T.t.size] 29)) w1.heap.size w.heap.size T.t.size [] := ⟨Blk.new w1 _ _, own_kept ho1 ((Kept.refl [] w1).alloc _) (by simp), fun r hr => (by cases hr), hk1.alloc _, hk1.size⟩
       have HST := hide hst
       obtain ⟨e0, e1, e2⟩ := box3 ((unhide HB).kept (hk1.alloc (.cells #[.slice (some ⟨w.heap.size, 0, none⟩) 0 T.t.size] 29)) (by simp))
       have HK1 := hide (hk1.alloc (.cells #[.slice (some ⟨w.heap.size, 0, none⟩) 0 T.t.size] 29))
       clear ho1 hg1 hk1 hst)
    | (refine ⟨trivial, rfl, ?_⟩; gi_at_call 34; refine (callsIn_wide.2 (unhide HA _ (unhide HK1))).mono ?_; rintro e w5 ⟨v5, rfl, hsq, hk5⟩; obtain ⟨bn, bt, bd, vt, rfl, hbn, hbt, hbd5, hnr⟩ := hsq)
    | fail)
  have hlist : outR (spine T.t).reverse = T.t.list := by have := outR_spine T.t []; simpa [outR] using this
  have hll : T.t.list.length ≤ 8796093022208 := by rw [Tr.list_length]; omega
  have hseq := entries_seq hbn hbt hbd5 hnr (by rw [hlist]; exact hll)
  rw [hlist] at hseq
  have hX5 := (unhide HST).kept hk5
  have hw5 : w.heap.size ≤ w5.heap.size := hX5.kp.size
  have hrows := hT.ok.rows
  obtain ⟨bx, hbx⟩ : ∃ bx, w1.heap.size = bx := ⟨_, rfl⟩
  rw [hbx] at hX5 ⊢
  clear hbn hbt hbd5 hnr HST e0 e1 e2 HK1 HA HL hk5 c0 c1 c2 hbx
  refine range_own2 (gf := 74) (lb := #[.pointer (some ⟨bn, 0, none⟩)]) rfl (enters_of Try.func74 (by kernel_rfl) rfl) hseq (fun _ _ _ _ hs _ _ => hs) (KpT.refl _) (fun _ => rfl)
    (fun pre V => ∃ l, l.map (·.e) = pre ∧ Rs w V bx w.heap.size T.t.size l) (fun _ _ _ => False) (fun s X Y row hs hg hr => by obtain ⟨l, hl, hs⟩ := hs; exact ⟨l, hl, rs_own (β := Unit) hw5 () X Y row hs hg hr⟩) (fun _ _ _ _ _ hs _ _ => hs)
    ⟨[], rfl, hX5⟩ (fun x => .cells #[.string x.2.1, .int .i64 x.2.2] 73)
    (fun x n => { tmps := #[Value.pointer (some ⟨b, 0, none⟩), undef, Value.slice none 0 0, Value.pointer (some ⟨bx, 0, none⟩), Value.string x.1, Value.pointer (some ⟨n, 0, none⟩), Value.pointer (some ⟨b, 0, none⟩), Value.bool false, Value.pointer (some ⟨b, 0, none⟩), Value.int .i64 (T.t.size : Int), Value.slice (some ⟨w.heap.size, 0, none⟩) 0 T.t.size, Value.pointer (some ⟨b, 0, none⟩), Value.pointer (some ⟨b, 0, none⟩), Value.pointer (some ⟨b, 0, none⟩), Value.pointer q, Value.func (.func 74) #[] #[.pointer (some ⟨bn, 0, none⟩)], Value.string x.1, Value.agg #[.string x.2.1, .int .i64 x.2.2], undef, undef, undef, undef, undef, undef, undef, undef, undef, undef, undef, undef], defers := [] }) ?assign ?body ?done ?stop
  case assign =>
    intro l x W K hK
    gi_wp2
    exact hK
  case body =>
    rintro l pre ⟨k, v, r⟩ V n ⟨L, hL, hst⟩ hmem hbx5 hn hlen
    obtain ⟨hk64, hv256, hr0, hr1⟩ := hrows _ hmem
    simp only at hk64 hv256 hr0 hr1
    obtain ⟨g1, c1, N1, hc1, hn1, hkp1⟩ := conv_at V k (by omega)
    obtain ⟨g2, c2, N2, hc2, hn2, hkp2⟩ := conv_at N1 v (by omega)
    have hbxV : Blk V n #[.string v, .int .i64 r] 73 := hbx5
    have y0 : V.cell? ⟨bx, 0, none⟩ = some (.slice (some ⟨w.heap.size, 0, none⟩) L.length T.t.size) := hst.box.cell 0
    have hl2 : L.length + 1 ≤ T.t.size := by rw [← Tr.list_length]; have := congrArg List.length hL; rw [List.length_map] at this; omega
    obtain ⟨q0, q1⟩ := box2 (hbxV.kept hkp1 (by simp))
    obtain ⟨r0, r1⟩ := box2 ((hbxV.kept hkp1 (by simp)).kept hkp2 (by simp))
    have hs1 := (hn1.from hst.kp.size).kept hkp2
    have hs2 := hn2.from (Nat.le_trans hst.kp.size hkp1.size)
    obtain ⟨W3, hW3⟩ : ∃ W3, N2.alloc (.cells #[.slice (some ⟨g1, 0, none⟩) k.size c1, .slice (some ⟨g2, 0, none⟩) v.size c2, .int .i64 r] 32) = W3 := ⟨_, rfl⟩
    have hk3 : Kept [] N2 W3 := by rw [← hW3]; exact (Kept.refl [] N2).alloc _
    have hkV : Kept [] V W3 := (hkp1.step hkp2).step hk3
    have hb3 : Blk W3 N2.heap.size #[.slice (some ⟨g1, 0, none⟩) k.size c1, .slice (some ⟨g2, 0, none⟩) v.size c2, .int .i64 r] 32 := by rw [← hW3]; exact Blk.new N2 _ _
    have hown := own_kept hst.own hkV (by simp)
    have hcell : ∀ (j : Nat) (u : Value), (rec3 ⟨(k, v, r), .slice (some ⟨g1, 0, none⟩) k.size c1, .slice (some ⟨g2, 0, none⟩) v.size c2⟩)[j]? = some u → W3.cell? ((⟨N2.heap.size, 0, none⟩ : Addr).add j) = some u := fun j u hu => by
      have hj : j < 3 := (List.getElem?_eq_some_iff.1 hu).1
      obtain rfl | rfl | rfl : j = 0 ∨ j = 1 ∨ j = 2 := by omega
      all_goals (simp [rec3] at hu; subst hu)
      · exact hb3.cell 0
      · exact hb3.cell 1
      · exact hb3.cell 2
    have HMO := hide (fun W1 ho hg => hst.more hkV ⟨(k, v, r), .slice (some ⟨g1, 0, none⟩) k.size c1, .slice (some ⟨g2, 0, none⟩) v.size c2⟩ ⟨hs1.kept hk3, hs2.kept hk3⟩ (W1 := W1) ho hg)
    have HOW := hide hown
    have HCE := hide hcell
    have HLL := hide hL
    have hbx3 : W3.cell? ⟨bx, 0, none⟩ = some (.slice (some ⟨w.heap.size, 0, none⟩) L.length T.t.size) := (hst.box.kept hkV (by simp)).cell 0
    clear hown hcell hst hs1 hs2 hn1 hn2 hkV hk3 hb3 hbxV hbx5 hL
    gi_wp2_with (first
      | (gi_at_builtin; (try rw [hW3]); refine wpListIn_append_fits _ rfl (.tmp 18) (.tmp 27) 29 rfl w.heap.size 32 i0 3 Try.underlying29 hi hz1 w.heap.size L.length T.t.size (flatR L) rfl (unhide HOW) ⟨N2.heap.size, 0, none⟩ 1 1 (rec3 ⟨(k, v, r), .slice (some ⟨g1, 0, none⟩) k.size c1, .slice (some ⟨g2, 0, none⟩) v.size c2⟩) rfl rfl (unhide HCE) (by intro u hu; simp [rec3] at hu; rcases hu with rfl | rfl | rfl <;> rfl) hl2 ?_; intro W4 ho4 hg4
         obtain ⟨hm1, hm2, hm3, hm4⟩ := unhide HMO W4 ho4 hg4
         have x0 : W4.cell? ⟨bx, 0, none⟩ = some (.slice (some ⟨w.heap.size, 0, none⟩) L.length T.t.size) := hm4.cell 0
         have x1 : W4.frozen? ⟨bx, 0, none⟩ = false := hm4.frozen 0
         have HM1 := hide hm1
         have HM2 := hide hm2
         have HM3 := hide hm3
         clear hm1 hm2 hm3 hm4 ho4 hg4)
      | fail)
    have c1 := soft_keeps (B := w5.heap.size) (unhide HM2) (unhide HM3)
    exact ⟨c1, _, by rw [List.map_append, unhide HLL]; rfl, unhide HM1⟩
  case done =>
    rintro D xs V hD rfl ⟨L, hL, hst⟩ hK
    have y0 : V.cell? ⟨bx, 0, none⟩ = some (.slice (some ⟨w.heap.size, 0, none⟩) L.length T.t.size) := hst.box.cell 0
    have HS := hide hst
    have HLL := hide hL
    clear hst hL
    gi_wp2_with fail
    have hD9 : w.heap.size ≤ D := Nat.le_trans hw5 hD
    have hst := unhide HS
    refine ⟨by simp, .inl ⟨_, _, rfl, run_takeDeferred hK, ?_⟩⟩
    refine ⟨_, results_tmp rfl _ _ _, _, L, rfl, unhide HLL, ?_, fun r hr => ⟨?_, ?_⟩, ?_⟩
    · exact own_put (row_own (β := Unit) (B := w.heap.size) (by decide) _ _ _) (s := ()) (.deferred none) hst.own hD9 hK rfl
    · exact own_put (seet_own (β := Unit) (B := w.heap.size)) (s := ()) (.deferred none) (hst.txt r hr).1 hD9 hK rfl
    · exact own_put (seet_own (β := Unit) (B := w.heap.size)) (s := ()) (.deferred none) (hst.txt r hr).2 hD9 hK rfl
    · exact own_put (kept_own (β := Unit) (B := w.heap.size) (w := w) (Nat.le_refl _)) (s := ()) (.deferred none) hst.kp hD9 hK rfl
  case stop =>
    rintro D c pre V hD hSp h hK
    exact h.elim
end Go.Proofs.Ytkejpbfbpomjfab.tre
