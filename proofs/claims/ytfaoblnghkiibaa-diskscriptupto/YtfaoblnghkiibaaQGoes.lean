/- goes: can a sector have become this? -/
import Derived.Test.YtfaoblnghkiibaaQSafe
import Derived.Test.YtfaoblnghkiibaaQGoP
namespace Go.Proofs.Ytfaoblnghkiibaa
open Go.RowKit

theorem sees_form {w : World} {v : Value} {l : List Nat} (h : Sees w v l) (hl : 0 < l.length) : ∃ b off cap, v = .slice (some ⟨b, off, none⟩) l.length cap ∧ l.length ≤ cap ∧ cap ≤ 9223372036854775807 := by
  obtain ⟨a, cap, rfl, h1, h2, h3, h4⟩ := h
  rcases h4 with h4 | ⟨b, off, rfl, _, _⟩
  · rw [h4] at hl; simp at hl
  · exact ⟨b, off, cap, rfl, h1, by unfold maxLen at h2; omega⟩
theorem sees_take {w : World} {b off n cap c : Nat} {l : List Nat} (h : Sees w (.slice (some ⟨b, off, none⟩) n cap) l) (hn : l.length = n) (hc : c ≤ n) : Sees w (.slice (some ⟨b, off, none⟩) c cap) (l.take c) := by
  obtain ⟨a, cap', hv, h1, h2, h3, h4⟩ := h
  injection hv with e1 e2 e3
  subst e3
  have hl : (l.take c).length = c := by rw [List.length_take]; omega
  refine ⟨some ⟨b, off, none⟩, cap, by rw [hl], by rw [hl]; omega, h2, fun x hx => h3 x (List.mem_of_mem_take hx), ?_⟩
  rcases h4 with h4 | ⟨b', off', ha, h5, h6⟩
  · left; rw [h4]; simp
  · right
    rw [ha] at e1
    injection e1 with e1
    injection e1 with q1 q2
    subst q1; subst q2
    refine ⟨b, off, rfl, h5, fun j hj => ?_⟩
    rw [hl] at hj
    rw [h6 j (by omega), List.getD, List.getD, List.getElem?_take, if_pos hj]
theorem sees_drop {w : World} {b off n cap c : Nat} {l : List Nat} (h : Sees w (.slice (some ⟨b, off, none⟩) n cap) l) (hn : l.length = n) (hc : c ≤ n) : Sees w (.slice (some ⟨b, off + c, none⟩) (n - c) (cap - c)) (l.drop c) := by
  obtain ⟨a, cap', hv, h1, h2, h3, h4⟩ := h
  injection hv with e1 e2 e3
  subst e3
  have hl : (l.drop c).length = n - c := by rw [List.length_drop]; omega
  refine ⟨some ⟨b, off + c, none⟩, cap - c, by rw [hl], by rw [hl]; omega, by unfold maxLen at h2 ⊢; omega, fun x hx => h3 x (List.mem_of_mem_drop hx), ?_⟩
  rcases h4 with h4 | ⟨b', off', ha, h5, h6⟩
  · left; rw [h4]; simp
  · right
    rw [ha] at e1
    injection e1 with e1
    injection e1 with q1 q2
    subst q1; subst q2
    refine ⟨b, off + c, rfl, h5, fun j hj => ?_⟩
    rw [hl] at hj
    rw [show off + c + j = off + (c + j) by omega, h6 (c + j) (by omega), List.getD, List.getD, List.getElem?_drop]
theorem sees_dropE {w : World} {b off n cap c : Nat} {l : List Nat} (a : Addr) (h : Sees w (.slice (some ⟨b, off, none⟩) n cap) l) (hn : l.length = n) (hc : c = n) : Sees w (.slice (some a) (n - c) (cap - c)) (l.drop c) := by
  obtain ⟨a', cap', hv, h1, h2, h3, h4⟩ := h
  injection hv with e1 e2 e3
  subst e3
  have e : l.drop c = [] := List.drop_of_length_le (by omega)
  rw [e, show n - c = 0 by omega]
  exact ⟨some a, cap - c, rfl, by simp, by unfold maxLen at h2 ⊢; omega, by simp, Or.inl rfl⟩
theorem sees_end (w : World) (a : Option Addr) {c : Nat} (hc : c ≤ 9223372036854775807) : Sees w (.slice a 0 c) [] := ⟨a, c, rfl, by simp, by unfold maxLen; omega, by simp, Or.inl rfl⟩

set_option maxRecDepth 100000 in
set_option maxHeartbeats 400000 in
theorem same_noN {w : World} {v1 v2 : Value} {cs bs : List Nat} (h1 : Sees w v1 cs) (h2 : Sees w v2 bs) (hl : cs.length = bs.length) (hn : cs ≠ bs) :
    Calls Try.prog 28 #[v1, v2] w fun e w' => e = .returned (.bool false) ∧ ∃ m, w' = w.drewN m := by
  obtain ⟨q, hq1, hq2, hq3⟩ := at_diff hl hn
  obtain ⟨a, cap, rfl, a1, a2, a3, a4⟩ := h1
  obtain ⟨b, cap2, rfl, b1, b2, b3, b4⟩ := h2
  have A4 := hide a4
  have B4 := hide b4
  have hml : cs.length ≤ 9223372036854775807 := by unfold maxLen at a2; omega
  rw [← hl] at b1 ⊢
  clear a3 a4 b3 b4 hn
  have HB := hide hl.symm
  clear hl
  generalize hL : cs.length = L at a1 b1 hml hq1 HB ⊢
  have HL := hide hL
  clear hL
  have HQ := hide hq3
  have HQ2 := hide hq2
  clear hq2 hq3
  go_enter Try.func28, Try.ntmps28
  go_wp2_with fail
  go_loopw [5] (fun i wr => ∃ k : Nat, k ≤ q ∧ i = .int .i64 k ∧ ∃ m, wr = w.drewN m) (fun i _ => L - (intOf i).toNat)
  case atStart => exact ⟨0, by omega, rfl, 0, rfl⟩
  case round =>
    obtain ⟨k, hk, rfl, m, hq⟩ := hrel
    subst hq
    have hkl : k < L := by omega
    obtain ⟨b1', o1, rfl, c1⟩ := at_sees (unhide HL) (unhide A4) hkl
    obtain ⟨b2', o2, rfl, c2⟩ := at_sees (unhide HB) (unhide B4) hkl
    by_cases hkq : k < q
    · have e := unhide HQ k hkq
      rw [e] at c1
      generalize bs.getD k 0 = x at c1 c2
      clear e
      go_wp2
      go_quiet (fail)
      go_wp2
      go_roundw
      case rel => exact ⟨k + 1, by omega, by simp, _, rfl⟩
      case measure => simp [intOf]; omega
    · obtain rfl : k = q := by omega
      have e := unhide HQ2
      generalize cs.getD k 0 = x at c1 e
      generalize bs.getD k 0 = y at c2 e
      have t1 : ((x : Int) == (y : Int)) = false := by simp; omega
      clear e hkq
      go_wp2
      go_quiet (fail)
      go_wp2
      go_ret
      exact ⟨rfl, _, World.drewN_drewN _ _ _⟩

theorem same_decN {w : World} {v1 v2 : Value} {cs bs : List Nat} (h1 : Sees w v1 cs) (h2 : Sees w v2 bs) (hl : cs.length = bs.length) (n : Nat) :
    Calls Try.prog 28 #[v1, v2] (w.drewN n) fun e w' => e = .returned (.bool (decide (cs = bs))) ∧ ∃ m, w' = w.drewN m := by
  have k1 := h1.kept ((Kept.refl [] w).drewN n) (Or.inr (by simp))
  have k2 := h2.kept ((Kept.refl [] w).drewN n) (Or.inr (by simp))
  by_cases h : cs = bs
  · subst h
    refine (same_any k1 k2).mono ?_
    rintro e w' ⟨rfl, m, rfl⟩
    exact ⟨by simp, _, World.drewN_drewN _ _ _⟩
  · refine (same_noN k1 k2 hl h).mono ?_
    rintro e w' ⟨rfl, m, rfl⟩
    exact ⟨by simp [h], _, World.drewN_drewN _ _ _⟩

/-- a row of writes that were laid, in memory -/
def LaidRow (w : World) (v : Value) (ps : List Wt) : Prop :=
  ∃ a cap, v = .slice a ps.length cap ∧ ps.length ≤ 9223372036854775807 ∧ ∀ j x, ps[j]? = some x → ∃ b dv, a = some ⟨b, 0, none⟩ ∧ b < w.heap.size ∧ w.cell? ⟨b, j * 2, none⟩ = some (.int .i64 (x.k : Int)) ∧ w.cell? ⟨b, j * 2 + 1, none⟩ = some dv ∧ Sees w dv x.d
theorem LaidRow.kept {w w' : World} {v : Value} {ps : List Wt} (h : LaidRow w v ps) (hk : Kept [] w w') : LaidRow w' v ps := by
  obtain ⟨a, cap, rfl, h1, h2⟩ := h
  refine ⟨a, cap, rfl, h1, fun j x hx => ?_⟩
  obtain ⟨b, dv, rfl, h3, h4, h5, h6⟩ := h2 j x hx
  exact ⟨b, dv, rfl, Nat.lt_of_lt_of_le h3 hk.size, (hk.cell (p := ⟨b, _, none⟩) h3 (by simp)).trans h4, (hk.cell (p := ⟨b, _, none⟩) h3 (by simp)).trans h5, h6.kept hk (Or.inr (by simp))⟩

/-- values that read as these rows of bytes -/
def SeesAll (w : World) (vs : List Value) (M : List (List Nat)) : Prop := vs.length = M.length ∧ ∀ j v, vs[j]? = some v → Sees w v (M.getD j [])
theorem SeesAll.snoc {w : World} {vs : List Value} {M : List (List Nat)} (h : SeesAll w vs M) {v : Value} {l : List Nat} (hv : Sees w v l) : SeesAll w (vs ++ [v]) (M ++ [l]) := by
  refine ⟨by simp [h.1], fun j u hu => ?_⟩
  by_cases hj : j < vs.length
  · rw [List.getElem?_append_left hj] at hu
    have := h.2 j u hu
    rwa [show (M ++ [l]).getD j [] = M.getD j [] from by simp [List.getElem?_append_left (show j < M.length by rw [← h.1]; exact hj)]]
  · have hj2 : j = vs.length := by
      have := (List.getElem?_eq_some_iff.1 hu).1
      simp at this; omega
    subst hj2
    simp at hu
    subst hu
    rw [show (M ++ [l]).getD vs.length [] = l from by simp [h.1]]
    exact hv
theorem may_snoc (was : List Nat) (k : Nat) (ps : List Wt) (x : Wt) : may was k (ps ++ [x]) = if x.k = k then may was k ps ++ [x.d] else may was k ps := by
  unfold may
  by_cases h : x.k = k
  · simp [h]
  · simp [h]

theorem info22 : (Try.prog.info? 22).map (fun i => (i.zero, i.size, i.bytes)) = some (some (.slice none 0 0), 1, 24) := by kernel_rfl
theorem sees_one {w : World} {v : Value} {l : List Nat} (h : Sees w v l) : v.oneCell' = true := by obtain ⟨a, cap, rfl, _⟩ := h; rfl

set_option maxRecDepth 100000 in
set_option maxHeartbeats 4000000 in
theorem goes_any {w : World} {wv iv lv : Value} {ws is : List Nat} {ps : List Wt} {k : Nat} (hw : Sees w wv ws) (hi : Sees w iv is) (hws : ws.length = 64) (his : is.length = 64) (hl : LaidRow w lv ps) (hpd : ∀ x ∈ ps, x.d.length = 64) (hps : ps.length ≤ 1000000000) (hmix : Mix (may ws k ps) is) :
    Calls Try.prog 29 #[wv, iv, .int .i64 (k : Int), lv] w fun e w' => e = .returned (.bool true) ∧ Kept [] w w' := by
  have hML : ∀ x ∈ may ws k ps, x.length = 64 := by
    intro x hx
    simp only [may, List.mem_cons, List.mem_map, List.mem_filter] at hx
    rcases hx with rfl | ⟨y, ⟨hy, _⟩, rfl⟩
    · exact hws
    · exact hpd y hy
  have HMX := hide (hmix.at hML)
  have HML := hide hML
  obtain ⟨i0, hi22, hz0, hz1, hz2⟩ := info_parts info22
  have HI22 := hide (⟨hi22, hz0, hz1, hz2⟩ : _ ∧ _ ∧ _ ∧ _)
  clear hi22 hz0 hz1 hz2 hmix hML hpd
  have HW := hide hw
  have HIS := hide hi
  have HL := hide hl
  obtain ⟨wb, wo, wc, rfl, hwc, hwm⟩ := sees_form hw (by omega)
  obtain ⟨ib, io, ic, rfl, hic, him⟩ := sees_form hi (by omega)
  obtain ⟨la, lc, rfl, hlm, -⟩ := hl
  rw [hws] at HW hwc ⊢
  rw [his] at HIS hic ⊢
  have HN := hide (⟨hws, his⟩ : _ ∧ _)
  clear hw hi hws his
  generalize hL : ps.length = L at *
  have HLL := hide hL
  clear hL
  go_enter Try.func29, Try.ntmps29
  go_wp2_with fail
  go_loopw [9, 10] (fun s i wr => ∃ (j : Nat) (vs : List Value), j ≤ L ∧ i = .int .i64 j ∧ (∃ a c, s = .slice a vs.length c) ∧ wr.ownsRow w.heap.size 22 1 s vs.length vs ∧ SeesAll w vs (may ws k (ps.take j)) ∧ vs.length ≤ j + 1 ∧ Kept [] w wr) (fun _ i _ => L - (intOf i).toNat)
  case atStart =>
    refine ⟨0, [.slice (some ⟨wb, wo, none⟩) 64 wc], by omega, rfl, ⟨_, _, rfl⟩, ?_, ⟨rfl, fun j v hv => ?_⟩, by simp, (Kept.refl _ _).alloc _⟩
    · exact ⟨rfl, Or.inr ⟨w.heap.size, 1, _, rfl, Nat.le_refl _, heap_alloc_new w _, by simp, by simp [maxLen], by simp, by simp⟩⟩
    · have hj : j = 0 := by have := (List.getElem?_eq_some_iff.1 hv).1; simp at this; omega
      subst hj
      simp at hv
      subst hv
      exact unhide HW
  case round =>
    obtain ⟨j, vs, hj, rfl, ⟨sa, sc, rfl⟩, ho, hsa, hvl, hkp⟩ := hrel
    by_cases hjL : j < L
    · obtain ⟨x, hx⟩ : ∃ x, ps[j]? = some x := ⟨_, List.getElem?_eq_getElem (by rw [unhide HLL]; exact hjL)⟩
      obtain ⟨la', lc', hle, -, hlr⟩ := unhide HL
      injection hle with e1 e2 e3
      subst e1
      obtain ⟨lb, dv, rfl, hlb, hc0, hc1, hdv⟩ := hlr j x hx
      have c0 := (hkp.cell (p := ⟨lb, j * 2, none⟩) hlb (by simp)).trans hc0
      have c1 := (hkp.cell (p := ⟨lb, j * 2 + 1, none⟩) hlb (by simp)).trans hc1
      have HTK : Hid (may ws k (ps.take (j + 1)) = if x.k = k then may ws k (ps.take j) ++ [x.d] else may ws k (ps.take j)) := by
        unfold Hid; rw [take_succ_at hx, may_snoc]
      have HDV := hide hdv
      have t1 : (j : Int) < (L : Int) := by omega
      obtain ⟨da, dn, dc, hdd⟩ : ∃ a n c, dv = .slice a n c := by obtain ⟨a, c, rfl, _⟩ := hdv; exact ⟨_, _, _, rfl⟩
      subst hdd
      have HKP := hide hkp
      have HSA := hide hsa
      have HVL := hide hvl
      clear hlr hlb hc0 hc1 hdv hx hkp hsa hvl e2 e3
      by_cases hxk : x.k = k
      · rw [if_pos hxk] at HTK
        have t2 : ((x.k : Int) == (k : Int)) = true := by simp [hxk]
        have HOW : Hid ((wr.alloc (.cells #[.slice da dn dc] 22)).ownsRow w.heap.size 22 1 (.slice sa vs.length sc) vs.length vs) := own_kept ho ((Kept.refl [] _).alloc _) (by simp)
        have HNB := hide (Blk.new wr #[.slice da dn dc] 22)
        have HLE : Hid (w.heap.size ≤ (wr.alloc (.cells #[.slice da dn dc] 22)).heap.size) := ((unhide HKP).alloc _).size
        have HVL2 : Hid (vs.length + 1 ≤ 1000000001) := by have := unhide HVL; unfold Hid; omega
        clear ho hxk
        go_wp2_with (first
          | (at_builtin; refine wpList_append_own_at _ rfl _ _ 56 rfl w.heap.size 22 i0 (.slice none 0 0) 1 24 Try.underlying56 (unhide HI22).1 (unhide HI22).2.1 (unhide HI22).2.2.1 (unhide HI22).2.2.2 rfl Nat.one_pos _ vs.length vs rfl (unhide HOW) ⟨wr.heap.size, 0, none⟩ 1 1 [.slice da dn dc] rfl rfl (fun j u hu => by rw [Addr.add_mid, Nat.zero_add, (unhide HNB).cell]; simpa using hu) (fun u hu => by simp at hu; subst hu; rfl) (by have := unhide HVL2; unfold maxLen; omega) (by have := unhide HVL2; omega) (unhide HLE) ?_; intro v2 w2 ho2 hg2 _ hat2; obtain ⟨a2, c2, rfl⟩ := own_len ho2; have HO2 := hide ho2; have HK2 : Hid (Kept [] w w2) := ((unhide HKP).alloc _).grown hg2 (fun q hq => Or.inr ((unhide HOW).lt q hq).1); clear ho2 hg2 hat2))
        refine ⟨⟨j + 1, vs ++ [.slice da dn dc], by omega, by simp, ⟨a2, c2, by simp⟩, by simpa using unhide HO2, ?_, by have := unhide HVL; simp; omega, unhide HK2⟩, by simp [intOf]; omega⟩
        rw [unhide HTK]
        exact (unhide HSA).snoc (unhide HDV)
      · rw [if_neg hxk] at HTK
        have t2 : ((x.k : Int) == (k : Int)) = false := by simp; omega
        have HO := hide ho
        clear ho hxk
        go_wp2
        refine ⟨⟨j + 1, vs, by omega, by simp, ⟨_, _, rfl⟩, unhide HO, by rw [unhide HTK]; exact unhide HSA, by have := unhide HVL; omega, unhide HKP⟩, by simp [intOf]; omega⟩
    · obtain rfl : j = L := by omega
      have hfull : ps.take j = ps := by rw [← unhide HLL, List.take_length]
      rw [hfull] at hsa
      obtain ⟨i1, k1, c1, hi1, hk1, hc1, he1, he2⟩ := unhide HMX
      obtain ⟨M, hM⟩ : ∃ M, M = may ws k ps := ⟨_, rfl⟩
      rw [← hM] at hsa hi1 hk1 he1 he2
      have HMM : Hid (∀ x ∈ M, x.length = 64) := by rw [hM]; exact unhide HML
      clear hM hfull HMX HML
      rw [← hsa.1] at hi1 hk1
      have HE := hide (⟨he1, he2⟩ : _ ∧ _)
      have HSA := hide hsa
      have HO := hide ho
      obtain ⟨mb, mc, hmv, hmb, -, hmc, hmm⟩ : ∃ g cap, (Value.slice sa vs.length sc) = .slice (some ⟨g, 0, none⟩) vs.length cap ∧ w.heap.size ≤ g ∧ g < wr.heap.size ∧ vs.length ≤ cap ∧ cap ≤ maxLen := by
        rcases ho.2 with ⟨_, h0⟩ | ⟨g, cap, cur, hv, hb, hg, hcap, hmx, _⟩
        · omega
        · exact ⟨g, cap, hv, hb, (Array.getElem?_eq_some_iff.1 hg).1, hcap, hmx⟩
      injection hmv with e1 e2 e3
      subst e1
      subst e3
      have HVC : Hid (∀ q, q < vs.length → ∃ b off cap, vs[q]? = some (.slice (some ⟨b, off, none⟩) 64 cap) ∧ wr.cell? ⟨mb, q, none⟩ = some (.slice (some ⟨b, off, none⟩) 64 cap) ∧ Sees w (.slice (some ⟨b, off, none⟩) 64 cap) (M.getD q []) ∧ (M.getD q []).length = 64 ∧ 64 ≤ cap ∧ cap ≤ 9223372036854775807) := by
        intro q hq
        have h1 := hsa.2 q _ (List.getElem?_eq_getElem hq)
        have hqM : q < M.length := by rw [← hsa.1]; exact hq
        have h2 : (M.getD q []).length = 64 := by
          rw [List.getD, List.getElem?_eq_getElem hqM]
          exact unhide HMM _ (List.getElem_mem hqM)
        obtain ⟨b, off, cap, hv, h3, h4⟩ := sees_form h1 (by omega)
        rw [h2] at hv h3
        have h5 := ho.cells (g := mb) rfl q _ (List.getElem?_eq_getElem hq)
        rw [Addr.add_mid, Nat.zero_add] at h5
        exact ⟨b, off, cap, by rw [List.getElem?_eq_getElem hq, hv], by rw [h5, hv], by rw [← hv]; exact h1, h2, h3, h4⟩
      have HKP := hide hkp
      clear ho hsa hkp he1 he2 e2 hmb hmc hmm
      generalize hm : vs.length = m at *
      clear hm
      generalize wr = W1 at *
      go_wp2_with fail
      go_loopw [11] (fun s wr => ∃ i : Nat, i ≤ i1 ∧ s = .int .i64 i ∧ Kept [] W1 wr) (fun s _ => m - (intOf s).toNat)
      case atStart => exact ⟨0, by omega, rfl, Kept.refl _ _⟩
      case round =>
        obtain ⟨i, hii, rfl, hk2⟩ := hrel
        have HK2 := hide hk2
        clear hk2
        have t1 : (i : Int) < (m : Int) := by omega
        obtain ⟨bi, oi, ci, -, hci, hsi, hli, hbi, hbi2⟩ := unhide HVC i (by omega)
        have HCI := hide hci
        have HSI := hide (⟨hsi, hli⟩ : _ ∧ _)
        clear hci hsi hli
        go_wp2_with fail
        go_loopw [12] (fun s wr => ∃ q : Nat, q ≤ m ∧ s = .int .i64 q ∧ (i < i1 ∨ q ≤ k1) ∧ Kept [] W1 wr) (fun s _ => m - (intOf s).toNat)
        case atStart => exact ⟨0, by omega, rfl, by omega, unhide HK2⟩
        case round =>
          clear HK2
          obtain ⟨q, hqm, rfl, hqk, hk3⟩ := hrel
          have HK3 := hide hk3
          clear hk3
          by_cases hqlt : q < m
          · have t2 : (q : Int) < (m : Int) := by omega
            obtain ⟨bq, oq, cq, -, hcq, hsq, hlq, hbq, hbq2⟩ := unhide HVC q (by omega)
            have HCQ := hide hcq
            have HSQ := hide (⟨hsq, hlq⟩ : _ ∧ _)
            clear hcq hsq hlq
            go_wp2_with fail
            go_loopw [13] (fun s wr => ∃ c : Nat, c ≤ 65 ∧ s = .int .i64 c ∧ (i < i1 ∨ q < k1 ∨ c ≤ c1) ∧ Kept [] W1 wr) (fun s _ => 65 - (intOf s).toNat)
            case atStart => exact ⟨0, by omega, rfl, by omega, unhide HK3⟩
            case round =>
              clear HK3
              obtain ⟨c, hc65, rfl, hcc, hk4⟩ := hrel
              have HK4 := hide hk4
              have hmbl : mb < W1.heap.size := by
                have := unhide HCI
                exact World.block_lt_of_cell? W1 _ this
              have p1 := (hk4.cell (p := ⟨mb, i, none⟩) hmbl (by simp)).trans (unhide HCI)
              have p2 := (hk4.cell (p := ⟨mb, q, none⟩) hmbl (by simp)).trans (unhide HCQ)
              clear hk4
              by_cases hc64 : c ≤ 64
              · have t3 : (c : Int) ≤ 64 := by omega
                have HKX : Hid (Kept [] w wr) := (unhide HKP).trans (unhide HK4) (by simp)
                have hs1 := same_decN (sees_take ((unhide HIS).kept (unhide HKX) (Or.inr (by simp))) (unhide HN).2 hc64) (sees_take ((unhide HSI).1.kept (unhide HKX) (Or.inr (by simp))) (unhide HSI).2 hc64) (by rw [List.length_take, List.length_take, (unhide HN).2, (unhide HSI).2])
                have t4 : (c : Int) ≤ (ic : Int) := by omega
                have t5 : (c : Int) ≤ (ci : Int) := by omega
                have t6 : (c : Int) ≤ (cq : Int) := by omega
                have HNE : Hid (¬ (is.take c = (M.getD i []).take c ∧ is.drop c = (M.getD q []).drop c) → i < i1 ∨ q < k1 ∨ c + 1 ≤ c1) := by
                  intro hno
                  by_cases h1 : i < i1
                  · omega
                  · by_cases h2 : q < k1
                    · omega
                    · have h3 : c ≠ c1 := by
                        intro e
                        obtain rfl : i = i1 := by omega
                        obtain rfl : q = k1 := by omega
                        subst e
                        exact hno (unhide HE)
                      omega
                by_cases he : is.take c = (M.getD i []).take c
                · rw [decide_eq_true he] at hs1
                  have HS1 := hide hs1
                  have HHE := hide he
                  clear hs1 he hcc
                  have hdl : (is.drop c).length = ((M.getD q []).drop c).length := by rw [List.length_drop, List.length_drop, (unhide HN).2, (unhide HSQ).2]
                  by_cases hlt : c < 64
                  · have hs2 := same_decN (sees_drop ((unhide HIS).kept (unhide HKX) (Or.inr (by simp))) (unhide HN).2 hc64) (sees_drop ((unhide HSQ).1.kept (unhide HKX) (Or.inr (by simp))) (unhide HSQ).2 hc64) hdl
                    have t7 : (ic = c) = False := by simp; omega
                    have t8 : (cq = c) = False := by simp; omega
                    have t9 : ((64 : Int) - (c : Int)).toNat = 64 - c := by omega
                    by_cases hd : is.drop c = (M.getD q []).drop c
                    · rw [decide_eq_true hd] at hs2
                      have HS2 := hide hs2
                      have HKE : Hid (Kept [] w wr) := HKX
                      clear hs2 hd hdl
                      go_wp2_with fail
                      go_quiet ((first | (go_at_call 28; with_reducible exact unhide HS1 _) | (go_at_call 28; with_reducible exact unhide HS2 _)))
                      go_wp2
                      go_ret
                      exact ⟨rfl, (unhide HKE).drewN _⟩
                    · rw [decide_eq_false hd] at hs2
                      have HS2 := hide hs2
                      have HNX := hide (unhide HNE (fun h => hd h.2))
                      clear hs2 hd hdl
                      go_wp2_with fail
                      go_quiet ((first | (go_at_call 28; with_reducible exact unhide HS1 _) | (go_at_call 28; with_reducible exact unhide HS2 _)))
                      go_wp2
                      exact ⟨⟨c + 1, by omega, by simp, unhide HNX, ((unhide HK4).drewN _)⟩, by simp [intOf]; omega⟩
                  · have hceq : c = 64 := by omega
                    have t9 : ((64 : Int) - (c : Int)).toNat = 64 - c := by omega
                    by_cases hx : ic = c
                    · by_cases hy : cq = c
                      · have hs2 := same_decN (sees_dropE ⟨ib, io, none⟩ ((unhide HIS).kept (unhide HKX) (Or.inr (by simp))) (unhide HN).2 hceq) (sees_dropE ⟨bq, oq, none⟩ ((unhide HSQ).1.kept (unhide HKX) (Or.inr (by simp))) (unhide HSQ).2 hceq) hdl
                        have t7 : (ic = c) = True := by simp; omega
                        have t8 : (cq = c) = True := by simp; omega
                        clear hceq hx hy
                        by_cases hd : is.drop c = (M.getD q []).drop c
                        · rw [decide_eq_true hd] at hs2
                          have HS2 := hide hs2
                          have HKE : Hid (Kept [] w wr) := HKX
                          clear hs2 hd hdl
                          go_wp2_with fail
                          go_quiet ((first | (go_at_call 28; with_reducible exact unhide HS1 _) | (go_at_call 28; with_reducible exact unhide HS2 _)))
                          go_wp2
                          go_ret
                          exact ⟨rfl, (unhide HKE).drewN _⟩
                        · rw [decide_eq_false hd] at hs2
                          have HS2 := hide hs2
                          have HNX := hide (unhide HNE (fun h => hd h.2))
                          clear hs2 hd hdl
                          go_wp2_with fail
                          go_quiet ((first | (go_at_call 28; with_reducible exact unhide HS1 _) | (go_at_call 28; with_reducible exact unhide HS2 _)))
                          go_wp2
                          exact ⟨⟨c + 1, by omega, by simp, unhide HNX, ((unhide HK4).drewN _)⟩, by simp [intOf]; omega⟩
                      · have hs2 := same_decN (sees_dropE ⟨ib, io, none⟩ ((unhide HIS).kept (unhide HKX) (Or.inr (by simp))) (unhide HN).2 hceq) (sees_drop ((unhide HSQ).1.kept (unhide HKX) (Or.inr (by simp))) (unhide HSQ).2 hc64) hdl
                        have t7 : (ic = c) = True := by simp; omega
                        have t8 : (cq = c) = False := by simp; omega
                        clear hceq hx hy
                        by_cases hd : is.drop c = (M.getD q []).drop c
                        · rw [decide_eq_true hd] at hs2
                          have HS2 := hide hs2
                          have HKE : Hid (Kept [] w wr) := HKX
                          clear hs2 hd hdl
                          go_wp2_with fail
                          go_quiet ((first | (go_at_call 28; with_reducible exact unhide HS1 _) | (go_at_call 28; with_reducible exact unhide HS2 _)))
                          go_wp2
                          go_ret
                          exact ⟨rfl, (unhide HKE).drewN _⟩
                        · rw [decide_eq_false hd] at hs2
                          have HS2 := hide hs2
                          have HNX := hide (unhide HNE (fun h => hd h.2))
                          clear hs2 hd hdl
                          go_wp2_with fail
                          go_quiet ((first | (go_at_call 28; with_reducible exact unhide HS1 _) | (go_at_call 28; with_reducible exact unhide HS2 _)))
                          go_wp2
                          exact ⟨⟨c + 1, by omega, by simp, unhide HNX, ((unhide HK4).drewN _)⟩, by simp [intOf]; omega⟩
                    · by_cases hy : cq = c
                      · have hs2 := same_decN (sees_drop ((unhide HIS).kept (unhide HKX) (Or.inr (by simp))) (unhide HN).2 hc64) (sees_dropE ⟨bq, oq, none⟩ ((unhide HSQ).1.kept (unhide HKX) (Or.inr (by simp))) (unhide HSQ).2 hceq) hdl
                        have t7 : (ic = c) = False := by simp; omega
                        have t8 : (cq = c) = True := by simp; omega
                        clear hceq hx hy
                        by_cases hd : is.drop c = (M.getD q []).drop c
                        · rw [decide_eq_true hd] at hs2
                          have HS2 := hide hs2
                          have HKE : Hid (Kept [] w wr) := HKX
                          clear hs2 hd hdl
                          go_wp2_with fail
                          go_quiet ((first | (go_at_call 28; with_reducible exact unhide HS1 _) | (go_at_call 28; with_reducible exact unhide HS2 _)))
                          go_wp2
                          go_ret
                          exact ⟨rfl, (unhide HKE).drewN _⟩
                        · rw [decide_eq_false hd] at hs2
                          have HS2 := hide hs2
                          have HNX := hide (unhide HNE (fun h => hd h.2))
                          clear hs2 hd hdl
                          go_wp2_with fail
                          go_quiet ((first | (go_at_call 28; with_reducible exact unhide HS1 _) | (go_at_call 28; with_reducible exact unhide HS2 _)))
                          go_wp2
                          exact ⟨⟨c + 1, by omega, by simp, unhide HNX, ((unhide HK4).drewN _)⟩, by simp [intOf]; omega⟩
                      · have hs2 := same_decN (sees_drop ((unhide HIS).kept (unhide HKX) (Or.inr (by simp))) (unhide HN).2 hc64) (sees_drop ((unhide HSQ).1.kept (unhide HKX) (Or.inr (by simp))) (unhide HSQ).2 hc64) hdl
                        have t7 : (ic = c) = False := by simp; omega
                        have t8 : (cq = c) = False := by simp; omega
                        clear hceq hx hy
                        by_cases hd : is.drop c = (M.getD q []).drop c
                        · rw [decide_eq_true hd] at hs2
                          have HS2 := hide hs2
                          have HKE : Hid (Kept [] w wr) := HKX
                          clear hs2 hd hdl
                          go_wp2_with fail
                          go_quiet ((first | (go_at_call 28; with_reducible exact unhide HS1 _) | (go_at_call 28; with_reducible exact unhide HS2 _)))
                          go_wp2
                          go_ret
                          exact ⟨rfl, (unhide HKE).drewN _⟩
                        · rw [decide_eq_false hd] at hs2
                          have HS2 := hide hs2
                          have HNX := hide (unhide HNE (fun h => hd h.2))
                          clear hs2 hd hdl
                          go_wp2_with fail
                          go_quiet ((first | (go_at_call 28; with_reducible exact unhide HS1 _) | (go_at_call 28; with_reducible exact unhide HS2 _)))
                          go_wp2
                          exact ⟨⟨c + 1, by omega, by simp, unhide HNX, ((unhide HK4).drewN _)⟩, by simp [intOf]; omega⟩
                · rw [decide_eq_false he] at hs1
                  have HS1 := hide hs1
                  have HNX := hide (unhide HNE (fun h => he h.1))
                  clear hs1 he hcc
                  go_wp2_with fail
                  go_quiet ((first | (go_at_call 28; with_reducible exact unhide HS1 _)))
                  go_wp2
                  exact ⟨⟨c + 1, by omega, by simp, unhide HNX, ((unhide HK4).drewN _)⟩, by simp [intOf]; omega⟩
              · obtain rfl : c = 65 := by omega
                have hnx : i < i1 ∨ q + 1 ≤ k1 := by omega
                have HNX := hide hnx
                clear hcc hnx p1 p2
                go_wp2
                exact ⟨⟨q + 1, by omega, by simp, unhide HNX, unhide HK4⟩, by simp [intOf]; omega⟩
          · obtain rfl : q = m := by omega
            have hnx : i + 1 ≤ i1 := by omega
            clear hqk
            have t3 : ((q : Int) < (q : Int)) = False := by simp
            go_wp2
            exact ⟨⟨i + 1, hnx, by simp, unhide HK3⟩, by simp [intOf]; omega⟩
end Go.Proofs.Ytfaoblnghkiibaa
