/- A row of trees made by a script: the loop. -/
import Derived.Test.YtbpeeifgfjpghaaTMade
namespace Go.Proofs.Ytbpeeifgfjpghaa
open Go.RowKit
set_option linter.unusedVariables false

/-- behind k steps -/
def LoopM (w : World) (L : Nat) (os : List OpI) (l : Value) (k : Nat) (wr : World) : Prop := ∃ va n vc ts Ks, l = .slice va n vc ∧ n = ts.length ∧ TRow w.heap.size wr (.slice va n vc) ts ∧ ts ≠ [] ∧ ts.length ≤ 2 * k + 1 ∧ (∀ t ∈ ts, Fine Ks t) ∧ Ks.length ≤ k ∧ k ≤ L ∧ Kept [] w wr
theorem LoopM.step {w : World} {L : Nat} {os : List OpI} {l : Value} {k : Nat} {wr wr' : World} (h : LoopM w L os l k wr) (hk : Kept [] wr wr') (hkL : k < L) : LoopM w L os l (k + 1) wr' := by
  obtain ⟨va, n, vc, ts, Ks, h1, h2, h3, h4, h5, h6, h7, h8, h9⟩ := h
  exact ⟨va, n, vc, ts, Ks, h1, h2, h3.kept hk, h4, by omega, h6, by omega, by omega, h9.trans hk (by simp)⟩
theorem fine_app {Ks : List Int} {ts ts' : List TI} (h : ∀ t ∈ ts, Fine Ks t) (h' : ∀ t ∈ ts', Fine Ks t) : ∀ t ∈ ts ++ ts', Fine Ks t := by
  intro t ht
  rcases List.mem_append.1 ht with ht | ht
  · exact h t ht
  · exact h' t ht
theorem fine_more {Ks : List Int} {ts : List TI} (h : ∀ t ∈ ts, Fine Ks t) (k : Int) : ∀ t ∈ ts, Fine (k :: Ks) t := fun t ht => (h t ht).more k

set_option maxRecDepth 100000 in
set_option maxHeartbeats 8000000 in
theorem made_any {w : World} {v : Value} {os : List OpI} (h : Ops w v os) (hl : os.length ≤ 4398046511104) : Calls Try.prog 20 #[v] w fun e w' => ∃ v' ts Ks, e = .returned v' ∧ TRow w.heap.size w' v' ts ∧ ts ≠ [] ∧ ts.length ≤ 2 * os.length + 1 ∧ (∀ t ∈ ts, Fine Ks t) ∧ Ks.length ≤ os.length ∧ Kept [] w w' := by
  obtain ⟨a, cap, rfl, h1, h2, h3, h4⟩ := h
  have hc2 : cap ≤ 9223372036854775807 := by unfold maxLen at h2; omega
  have HN := hide (New_any (w := w))
  have HOK := hide h3
  have HAT := hide h4
  generalize hL : os.length = L at *
  have HL := hide hL
  clear h2 h3 h4 hL
  go_enter Try.func20, Try.ntmps20
  go_wp2_with (go_at_call 31; refine (unhide HN).mono ?_; rintro e w3 ⟨q, rfl, ht3, hk3⟩; have HT3 := hide ht3; have HK3 := hide hk3; clear ht3 hk3)
  have HS : Hid (LoopM w L os (.slice (some ⟨w3.heap.size, 0, none⟩) 1 1) 0 (w3.alloc (.cells #[.pointer q] 55))) := by
    have hka : Kept [] w3 (w3.alloc (.cells #[.pointer q] 55)) := (Kept.refl [] w3).alloc _
    refine ⟨_, 1, 1, [.nil], [], rfl, rfl, ⟨[q], ⟨(unhide HT3).kept hka, trivial⟩, ?_⟩, by simp, by simp, ?_, by simp, by omega, (unhide HK3).alloc _⟩
    · refine ⟨by simp, Or.inr ⟨w3.heap.size, 1, #[.pointer q], rfl, (unhide HK3).size, Blk.new _ _ _, by simp, by unfold maxLen; omega, by simp, by simp⟩⟩
    · intro t ht
      simp at ht
      subst ht
      exact Fine.nil _
  clear HT3 HK3 HN
  go_loopw [3, 4] (fun l i wr => ∃ k : Nat, i = .int .i64 (k : Int) ∧ LoopM w L os l k wr) (fun _ i _ => L - (intOf i).toNat)
  case atStart => exact ⟨0, rfl, unhide HS⟩
  case round =>
    clear HS
    obtain ⟨k, rfl, hloop⟩ := hrel
    have HLOOP := hide hloop
    obtain ⟨va, n, vc, ts, Ks, rfl, rfl, hrow, hne, hlen, hfine, hKs, hkL, hkp⟩ := hloop
    have hpos : 0 < ts.length := List.length_pos_iff.2 hne
    obtain ⟨-, g, q0, rfl, -, -⟩ := hrow.get 0 hpos
    by_cases hkeq : k = L
    · subst hkeq
      have HFIN : Hid (∃ v' ts Ks, Value.slice (some ⟨g, 0, none⟩) ts.length vc = v' ∧ TRow w.heap.size wr v' ts ∧ ts ≠ [] ∧ ts.length ≤ 2 * k + 1 ∧ (∀ t ∈ ts, Fine Ks t) ∧ Ks.length ≤ k ∧ Kept [] w wr) := ⟨_, ts, Ks, rfl, hrow, hne, hlen, hfine, hKs, hkp⟩
      have t1 : ((k : Int) < (k : Int)) = False := by simp
      have HROW := hide hrow
      have HFN := hide hfine
      have HKP := hide hkp
      clear hrow hfine hkp HFIN
      go_wp2
      go_ret
      exact ⟨_, ts, Ks, rfl, unhide HROW, hne, hlen, unhide HFN, hKs, unhide HKP⟩
    have hkL' : k < L := by omega
    have t1 : ((k : Int) < (L : Int)) = True := by simp only [eq_iff_iff, iff_true]; omega
    obtain ⟨o, ho⟩ : ∃ o, os[k]? = some o := ⟨os[k]'(by rw [unhide HL]; exact hkL'), List.getElem?_eq_getElem _⟩
    have hok : o.ok := unhide HOK o (List.mem_of_getElem? ho)
    obtain ⟨b, off, rfl, hb, hat⟩ : ∃ b off, a = some ⟨b, off, none⟩ ∧ b < w.heap.size ∧ ∀ (j : Nat) (o : OpI), os[j]? = some o →
        w.cell? ⟨b, off + j * 4, none⟩ = some (.int .i64 o.kind) ∧ w.cell? ⟨b, off + j * 4 + 1, none⟩ = some (.int .i64 o.fr) ∧ w.cell? ⟨b, off + j * 4 + 2, none⟩ = some (.int .i64 o.key) ∧ w.cell? ⟨b, off + j * 4 + 3, none⟩ = some (.int .i64 o.val) := by
      rcases unhide HAT with h | h
      · rw [h] at ho; simp at ho
      · exact h
    obtain ⟨m0, m1, m2, m3⟩ := hat k o ho
    have c0 := hkp.cell' m0
    have c1 := hkp.cell' m1
    have c2 := hkp.cell' m2
    have c3 := hkp.cell' m3
    clear m0 m1 m2 m3 hat
    obtain ⟨kind, fr, key, val⟩ := o
    simp only at c0 c1 c2 c3
    obtain ⟨ok0, ok1, ok2, ok3⟩ := hok
    simp only at ok0 ok1 ok2 ok3
    have HRD := hide (round_any (w := wr.alloc (.cells #[.int .i64 kind, .int .i64 fr, .int .i64 key, .int .i64 val] 42)) fr ts.length ok1 hpos (by omega))
    have hsz : ∀ t ∈ ts, t.size ≤ 4398046511104 := fun t ht => Nat.le_trans (hfine t ht).size (by omega)
    have HSZ := hide hsz
    have HFN := hide hfine
    have hka : Kept [] wr (wr.alloc (.cells #[.int .i64 kind, .int .i64 fr, .int .i64 key, .int .i64 val] 42)) := (Kept.refl [] wr).alloc _
    have HKA := hide hka
    have HROW1 := hide (hrow.kept hka)
    have HKP1 := hide (hkp.trans hka (by simp))
    have HLEN : Hid (ts.length + 2 ≤ 17592186044416) := by unfold Hid; omega
    clear hrow hfine hkp hka hsz ho
    by_cases k0 : kind = 0
    · subst k0
      have HLEN1 : Hid (ts.length + 1 ≤ 17592186044416) := (by have := unhide HLEN; show ts.length + 1 ≤ 17592186044416; omega); have HLEN2 : Hid (ts.length + 1 ≤ 2 * (k + 1) + 1) := (by show ts.length + 1 ≤ 2 * (k + 1) + 1; omega)
      go_wp2_with (first
        | (go_at_call 15; refine (unhide HRD).mono ?_; rintro e w5 ⟨⟨r, hr, rfl⟩, hq⟩; have hq' := hq.symm; subst hq'; obtain ⟨-, g', q, hga, hcell, htt⟩ := (unhide HROW1).get r (by omega); obtain rfl : g = g' := (by simpa using hga); clear hga; have hr1 : (0 : Int) ≤ (r : Int) := (by omega); have hr2 : (r : Int) < (ts.length : Int) := (by omega); have hmem : ts[r] ∈ ts := List.getElem_mem _; have HC := hide (Put_any key val htt (by have := unhide HSZ _ hmem; omega)); have HFT := hide (unhide HFN _ hmem); clear HRD htt)
        | (go_at_call 45; refine (unhide HC).mono ?_; rintro e w6 ⟨q6, rfl, ht6, hk6⟩; have HKQ := hide ((unhide HKP1).trans hk6 (by simp)); have HROWQ := hide ((unhide HROW1).kept hk6); have hka7 : Kept [] w6 (w6.alloc (.cells #[.pointer q6] 55)) := (Kept.refl [] w6).alloc _; have HK7 := hide ((unhide HKQ).trans hka7 (by simp)); have HROW7 := hide ((unhide HROWQ).kept hka7); have HB7 : Hid (Blk (w6.alloc (.cells #[.pointer q6] 55)) w6.heap.size (([q6] : List (Option Addr)).map Value.pointer).toArray 55) := Blk.new _ _ _; have HTS7 : Hid (All2 (w6.alloc (.cells #[.pointer q6] 55)) [q6] [(ts[r]).put key val]) := ⟨ht6.kept hka7, trivial⟩; have HFINE : Hid (∀ t ∈ ts ++ [(ts[r]).put key val], Fine (key :: Ks) t) := fine_app (fine_more (unhide HFN) key) (by intro t ht; simp at ht; subst ht; exact (unhide HFT).put key val); have HKS : Hid (((key :: Ks) : List Int).length ≤ k + 1) := (by show ((key :: Ks) : List Int).length ≤ k + 1; first | omega | (simp only [List.length_cons]; omega)); clear ht6 hk6 hka7 HC)
        | (at_builtin; refine wpList_append_trees (qs' := [q6]) (ts' := [(ts[r]).put key val]) _ rfl _ _ rfl rfl HK7 HROW7 rfl HB7 rfl HTS7 HLEN1 ?_; intro va' n' vc' w' HN' HT' HK'; have HEND := hide (show LoopM w L os (.slice va' n' vc') (k + 1) w' from ⟨va', n', vc', ts ++ [(ts[r]).put key val], key :: Ks, rfl, by have := unhide HN'; simpa using this, unhide HT', by simp, by have := unhide HLEN2; have := unhide HN'; simp; omega, unhide HFINE, unhide HKS, by omega, unhide HK'⟩)))
      refine ⟨⟨k + 1, by simp, unhide HEND⟩, ?_⟩
      simp [intOf]; omega
    by_cases k1 : kind = 1
    · subst k1
      have HLEN1 : Hid (ts.length + 1 ≤ 17592186044416) := (by have := unhide HLEN; show ts.length + 1 ≤ 17592186044416; omega); have HLEN2 : Hid (ts.length + 1 ≤ 2 * (k + 1) + 1) := (by show ts.length + 1 ≤ 2 * (k + 1) + 1; omega)
      go_wp2_with (first
        | (go_at_call 15; refine (unhide HRD).mono ?_; rintro e w5 ⟨⟨r, hr, rfl⟩, hq⟩; have hq' := hq.symm; subst hq'; obtain ⟨-, g', q, hga, hcell, htt⟩ := (unhide HROW1).get r (by omega); obtain rfl : g = g' := (by simpa using hga); clear hga; have hr1 : (0 : Int) ≤ (r : Int) := (by omega); have hr2 : (r : Int) < (ts.length : Int) := (by omega); have hmem : ts[r] ∈ ts := List.getElem_mem _; have HC := hide (Delete_any key htt (by have := unhide HSZ _ hmem; omega)); have HFT := hide (unhide HFN _ hmem); clear HRD htt)
        | (go_at_call 26; refine (unhide HC).mono ?_; rintro e w6 ⟨q6, rfl, ht6, hk6⟩; have HKQ := hide ((unhide HKP1).trans hk6 (by simp)); have HROWQ := hide ((unhide HROW1).kept hk6); have hka7 : Kept [] w6 (w6.alloc (.cells #[.pointer q6] 55)) := (Kept.refl [] w6).alloc _; have HK7 := hide ((unhide HKQ).trans hka7 (by simp)); have HROW7 := hide ((unhide HROWQ).kept hka7); have HB7 : Hid (Blk (w6.alloc (.cells #[.pointer q6] 55)) w6.heap.size (([q6] : List (Option Addr)).map Value.pointer).toArray 55) := Blk.new _ _ _; have HTS7 : Hid (All2 (w6.alloc (.cells #[.pointer q6] 55)) [q6] [((ts[r]).without key).1]) := ⟨ht6.kept hka7, trivial⟩; have HFINE : Hid (∀ t ∈ ts ++ [((ts[r]).without key).1], Fine Ks t) := fine_app (unhide HFN) (by intro t ht; simp at ht; subst ht; exact (unhide HFT).without key); have HKS : Hid ((Ks : List Int).length ≤ k + 1) := (by show (Ks : List Int).length ≤ k + 1; first | omega | (simp only [List.length_cons]; omega)); clear ht6 hk6 hka7 HC)
        | (at_builtin; refine wpList_append_trees (qs' := [q6]) (ts' := [((ts[r]).without key).1]) _ rfl _ _ rfl rfl HK7 HROW7 rfl HB7 rfl HTS7 HLEN1 ?_; intro va' n' vc' w' HN' HT' HK'; have HEND := hide (show LoopM w L os (.slice va' n' vc') (k + 1) w' from ⟨va', n', vc', ts ++ [((ts[r]).without key).1], Ks, rfl, by have := unhide HN'; simpa using this, unhide HT', by simp, by have := unhide HLEN2; have := unhide HN'; simp; omega, unhide HFINE, unhide HKS, by omega, unhide HK'⟩)))
      refine ⟨⟨k + 1, by simp, unhide HEND⟩, ?_⟩
      simp [intOf]; omega
    by_cases k6 : kind = 6
    · subst k6
      have HLEN2 : Hid (ts.length + 2 ≤ 2 * (k + 1) + 1) := (by show ts.length + 2 ≤ 2 * (k + 1) + 1; omega)
      go_wp2_with (first
        | (go_at_call 15; refine (unhide HRD).mono ?_; rintro e w5 ⟨⟨r, hr, rfl⟩, hq⟩; have hq' := hq.symm; subst hq'; obtain ⟨-, g', q, hga, hcell, htt⟩ := (unhide HROW1).get r (by omega); obtain rfl : g = g' := (by simpa using hga); clear hga; have hr1 : (0 : Int) ≤ (r : Int) := (by omega); have hr2 : (r : Int) < (ts.length : Int) := (by omega); have hmem : ts[r] ∈ ts := List.getElem_mem _; have HC := hide (Split_any key htt (by have := unhide HSZ _ hmem; omega)); have HFT := hide (unhide HFN _ hmem); clear HRD htt)
        | (go_at_call 22; refine (unhide HC).mono ?_; rintro e w6 ⟨q6, q7, rfl, ht6, ht7, hk6⟩; have HKQ := hide ((unhide HKP1).trans hk6 (by simp)); have HROWQ := hide ((unhide HROW1).kept hk6); have hka7 : Kept [] w6 (w6.alloc (.cells #[.pointer q6, .pointer q7] 55)) := (Kept.refl [] w6).alloc _; have HK7 := hide ((unhide HKQ).trans hka7 (by simp)); have HROW7 := hide ((unhide HROWQ).kept hka7); have HB7 : Hid (Blk (w6.alloc (.cells #[.pointer q6, .pointer q7] 55)) w6.heap.size (([q6, q7] : List (Option Addr)).map Value.pointer).toArray 55) := Blk.new _ _ _; have HTS7 : Hid (All2 (w6.alloc (.cells #[.pointer q6, .pointer q7] 55)) [q6, q7] [((ts[r]).split key).1, ((ts[r]).split key).2]) := ⟨ht6.kept hka7, ht7.kept hka7, trivial⟩; have HFINE : Hid (∀ t ∈ ts ++ [((ts[r]).split key).1, ((ts[r]).split key).2], Fine Ks t) := fine_app (unhide HFN) (by intro t ht; simp at ht; rcases ht with rfl | rfl; exact ((unhide HFT).split key).1; exact ((unhide HFT).split key).2); have HKS : Hid ((Ks : List Int).length ≤ k + 1) := (by show (Ks : List Int).length ≤ k + 1; first | omega | (simp only [List.length_cons]; omega)); clear ht6 ht7 hk6 hka7 HC)
        | (at_builtin; refine wpList_append_trees (qs' := [q6, q7]) (ts' := [((ts[r]).split key).1, ((ts[r]).split key).2]) _ rfl _ _ rfl rfl HK7 HROW7 rfl HB7 rfl HTS7 HLEN ?_; intro va' n' vc' w' HN' HT' HK'; have HEND := hide (show LoopM w L os (.slice va' n' vc') (k + 1) w' from ⟨va', n', vc', ts ++ [((ts[r]).split key).1, ((ts[r]).split key).2], Ks, rfl, by have := unhide HN'; simpa using this, unhide HT', by simp, by have := unhide HLEN2; have := unhide HN'; simp; omega, unhide HFINE, unhide HKS, by omega, unhide HK'⟩)))
      refine ⟨⟨k + 1, by simp, unhide HEND⟩, ?_⟩
      simp [intOf]; omega
    by_cases k7 : kind = 7
    · subst k7
      have HRE := hide (round_any (w := wr.alloc (.cells #[.int .i64 7, .int .i64 fr, .int .i64 key, .int .i64 val] 42)) key ts.length ok2 hpos (by omega))
      have HLEN1 : Hid (ts.length + 1 ≤ 17592186044416) := (by have := unhide HLEN; show ts.length + 1 ≤ 17592186044416; omega); have HLEN2 : Hid (ts.length + 1 ≤ 2 * (k + 1) + 1) := (by show ts.length + 1 ≤ 2 * (k + 1) + 1; omega)
      go_wp2_with (first
        | (go_at_call 15; refine (unhide HRD).mono ?_; rintro e w5 ⟨⟨r, hr, rfl⟩, hq⟩; have hq' := hq.symm; subst hq'; obtain ⟨-, g', q, hga, hcell, htt⟩ := (unhide HROW1).get r (by omega); obtain rfl : g = g' := (by simpa using hga); clear hga; have hr1 : (0 : Int) ≤ (r : Int) := (by omega); have hr2 : (r : Int) < (ts.length : Int) := (by omega); have hmem : ts[r] ∈ ts := List.getElem_mem _; have HTT := hide htt; have HFT := hide (unhide HFN _ hmem); clear HRD htt)
        | (go_at_call 15; refine (unhide HRE).mono ?_; rintro e w5 ⟨⟨r2, hr', rfl⟩, hq⟩; have hq' := hq.symm; subst hq'; obtain ⟨-, g2, q2, hga2, hcell2, htt2⟩ := (unhide HROW1).get r2 (by omega); obtain rfl : g = g2 := (by simpa using hga2); clear hga2; have hr12 : (0 : Int) ≤ (r2 : Int) := (by omega); have hr22 : (r2 : Int) < (ts.length : Int) := (by omega); have hmem2 : ts[r2] ∈ ts := List.getElem_mem _; have HC := hide (Join_any (unhide HTT) htt2 (by have := unhide HSZ _ hmem2; have := unhide HSZ _ hmem; omega)); have HFT2 := hide (unhide HFN _ hmem2); clear HRE htt2)
        | fail)
      refine (unhide HC).mono ?_
      rintro e w6 ⟨hk6, ⟨q6, rfl, ht6, hap⟩ | ⟨rfl, hna⟩⟩
      · have HKQ := hide ((unhide HKP1).trans hk6 (by simp))
        have HROWQ := hide ((unhide HROW1).kept hk6)
        have hka7 : Kept [] w6 (w6.alloc (.cells #[.pointer q6] 55)) := (Kept.refl [] w6).alloc _
        have HK7 := hide ((unhide HKQ).trans hka7 (by simp))
        have HROW7 := hide ((unhide HROWQ).kept hka7)
        have HB7 : Hid (Blk (w6.alloc (.cells #[.pointer q6] 55)) w6.heap.size (([q6] : List (Option Addr)).map Value.pointer).toArray 55) := Blk.new _ _ _
        have HTS7 : Hid (All2 (w6.alloc (.cells #[.pointer q6] 55)) [q6] [Tr.meet ts[r] ts[r2]]) := ⟨ht6.kept hka7, trivial⟩
        have HFINE : Hid (∀ t ∈ ts ++ [Tr.meet ts[r] ts[r2]], Fine Ks t) := fine_app (unhide HFN) (by intro t ht; simp at ht; subst ht; exact (unhide HFT).meet (unhide HFT2) hap)
        have HKS : Hid ((Ks : List Int).length ≤ k + 1) := (by show (Ks : List Int).length ≤ k + 1; first | omega | (simp only [List.length_cons]; omega))
        clear ht6 hk6 hka7 HC hap
        have HNU := hide (num_any (w := w6) 0)
        go_wp2_with (first
          | (go_at_call 24; refine (unhide HNU).mono ?_; rintro e w8 ⟨rfl, hq⟩; have hq' := hq.symm; subst hq')
          | (at_builtin; refine wpList_append_trees (qs' := [q6]) (ts' := [Tr.meet ts[r] ts[r2]]) _ rfl _ _ rfl rfl HK7 HROW7 rfl HB7 rfl HTS7 HLEN1 ?_; intro va' n' vc' w' HN' HT' HK'; have HEND := hide (show LoopM w L os (.slice va' n' vc') (k + 1) w' from ⟨va', n', vc', ts ++ [Tr.meet ts[r] ts[r2]], Ks, rfl, by have := unhide HN'; simpa using this, unhide HT', by simp, by have := unhide HLEN2; have := unhide HN'; simp; omega, unhide HFINE, unhide HKS, by omega, unhide HK'⟩)))
        refine ⟨⟨k + 1, by simp, unhide HEND⟩, ?_⟩
        simp [intOf]; omega
      · have HEND := hide ((unhide HLOOP).step ((unhide HKA).trans hk6 (by simp)) hkL')
        clear hk6 HC hna
        have HNU := hide (num_any (w := w6) 2)
        go_wp2_with (first
          | (go_at_call 24; refine (unhide HNU).mono ?_; rintro e w8 ⟨rfl, hq⟩; have hq' := hq.symm; subst hq'))
        refine ⟨⟨k + 1, by simp, unhide HEND⟩, ?_⟩
        simp [intOf]; omega
    · have HEND := hide ((unhide HLOOP).step (unhide HKA) hkL')
      go_wp2_with (first
        | (go_at_call 15; refine (unhide HRD).mono ?_; rintro e w5 ⟨⟨r, hr, rfl⟩, hq⟩; have hq' := hq.symm; subst hq'; obtain ⟨-, g', q, hga, hcell, htt⟩ := (unhide HROW1).get r (by omega); obtain rfl : g = g' := (by simpa using hga); clear hga; have hr1 : (0 : Int) ≤ (r : Int) := (by omega); have hr2 : (r : Int) < (ts.length : Int) := (by omega); have hmem : ts[r] ∈ ts := List.getElem_mem _; clear HRD htt))
      refine ⟨⟨k + 1, by simp, unhide HEND⟩, ?_⟩
      simp [intOf]; omega
end Go.Proofs.Ytbpeeifgfjpghaa
