/- The law SealMarks, walked. -/
import Derived.Test.YtlcepoomjnpfpaaTexts
namespace Go.Proofs.Ytlcepoomjnpfpaa
open Go.RowKit

theorem info29p : (Try.prog.info? 29).map (fun i => (i.zero, i.size, i.bytes)) = some (some (.slice none 0 0), 1, 24) := by kernel_rfl

theorem Parts.kept {w w' : World} {v : Value} {ps : List (Value × List Nat)} (h : Parts w v ps) (hk : Kept [] w w') : Parts w' v ps := by
  obtain ⟨a, cap, rfl, h1, h2, h3, h4⟩ := h
  refine ⟨a, cap, rfl, h1, h2, fun p hp => (h3 p hp).kept hk (Or.inr (by simp)), ?_⟩
  rcases h4 with h4 | ⟨b, off, rfl, h5, h6⟩
  · exact Or.inl h4
  · exact Or.inr ⟨b, off, rfl, Nat.lt_of_lt_of_le h5 hk.size, fun j p hp => (hk.cell (p := ⟨b, off + j, none⟩) h5 (by simp)).trans (h6 j p hp)⟩
theorem Parts.at {w : World} {a : Option Addr} {n cap : Nat} {ps : List (Value × List Nat)} (h : Parts w (.slice a n cap) ps) {k : Nat} (hk : k < n) :
    ∃ b off p, a = some ⟨b, off, none⟩ ∧ b < w.heap.size ∧ ps[k]? = some p ∧ w.cell? ⟨b, off + k, none⟩ = some p.1 ∧ Sees w p.1 p.2 := by
  obtain ⟨a', cap', hv, h1, h2, h3, h4⟩ := h
  simp only [Value.slice.injEq] at hv
  obtain ⟨rfl, rfl, rfl⟩ := hv
  rcases h4 with h4 | ⟨b, off, rfl, h5, h6⟩
  · subst h4; simp at hk
  · exact ⟨b, off, ps[k], rfl, h5, List.getElem?_eq_getElem hk, h6 k ps[k] (List.getElem?_eq_getElem hk), h3 ps[k] (List.getElem_mem hk)⟩

theorem hkr_cell {w wr : World} (h : Kept [] w wr) {b : Nat} (hb : b < w.heap.size) {off : Nat} : wr.cell? ⟨b, off, none⟩ = w.cell? ⟨b, off, none⟩ := h.cell (p := ⟨b, off, none⟩) hb (by simp)

theorem news_one (w : World) (v : Value) (t : TypeId) : ∀ j u, [v][j]? = some u → (w.alloc (.cells #[v] t)).cell? ((⟨w.heap.size, 0, none⟩ : Addr).add j) = some u := by
  intro j u hu
  have hadd : (⟨w.heap.size, 0, none⟩ : Addr).add j = ⟨w.heap.size, j, none⟩ := by unfold Addr.add; split <;> simp_all
  rw [hadd, (Blk.new w #[v] t).cell]
  simpa using hu

theorem drewN_add (w : World) (a b : Nat) : (w.drewN a).drewN b = w.drewN (a + b) := by simp [World.drewN, Nat.add_assoc]

set_option maxRecDepth 100000 in
set_option maxHeartbeats 400000 in
theorem kept_drew {w : World} {base g cap L : Nat} {v : Value} {bs : List Nat} (h : Lent w base g cap L bs) (hv : Sees w v bs) :
    Calls Try.prog 15 #[.slice (some ⟨g, 0, none⟩) L cap, v] w fun e w' => e = .returned (.bool true) ∧ ∃ m, w' = w.drewN m := by
  have HS := hide (same_any h.sees hv)
  have m0 := h.mark (k := 0) (by omega)
  have m1 := h.mark (k := 1) (by omega)
  have m2 := h.mark (k := 2) (by omega)
  obtain ⟨h1, h2, -, -⟩ := h.caps
  obtain ⟨p, pc, rfl, -⟩ := hv
  rw [h.1] at HS ⊢
  clear h
  simp [three] at m0 m1 m2
  have t1 : (L : Int) + 3 ≤ (cap : Int) := by omega
  have t2 : ((L : Int) + 3).toNat = L + 3 := by omega
  have t3 : ((L : Int) + 1).toNat = L + 1 := by omega
  have t4 : ((L : Int) + 2).toNat = L + 2 := by omega
  have t5 : (0 : Int) ≤ (L : Int) + 3 := by omega
  go_enter Try.func15, Try.ntmps15
  go_wp2_with (first | (go_at_call 14; refine (unhide HS).mono ?_; rintro e w' ⟨rfl, m, rfl⟩))
  go_ret
  exact ⟨rfl, m, rfl⟩

set_option maxRecDepth 100000 in
set_option maxHeartbeats 2000000 in
theorem marks_walk {w : World} {v : Value} {ps : List (Value × List Nat)} (hv : Parts w v ps) (hb : ∀ p ∈ ps, p.2.length ≤ 140737488351232) (hl : ps.length * 24 ≤ 140737488351232) :
    Calls Try.prog 4 #[v] w fun e w' => e = .returned (.bool true) ∧ Kept [] w w' := by
  obtain ⟨i0, hi, hz0, hz1, hz2⟩ := info_parts info29p
  have HI := hide (⟨hi, hz0, hz1, hz2⟩ : _ ∧ _ ∧ _ ∧ _)
  have HV := hide hv
  have HB := hide hb
  obtain ⟨pa, pc, hp, -⟩ := hv
  subst hp
  clear hi hz0 hz1 hz2 hb
  generalize hL : ps.length = n at *
  have HL := hide hL
  clear hL
  have hn9 : n ≤ 9223372036854775807 := by omega
  go_enter Try.func4, Try.ntmps4
  go_wp2_with fail
  go_loopw [3, 4, 5] (fun vl vo vi wr => ∃ (k : Nat) (ts : List Tx), k ≤ n ∧ vi = .int .i64 k ∧ ts.length = k ∧ ts.map (·.bs) = (ps.take k).map (·.2) ∧ wr.ownsRow w.heap.size 29 1 vl k (ts.map Tx.val) ∧ wr.ownsRow w.heap.size 29 1 vo k (ts.map Tx.val) ∧ (∀ a, vl.ownBlock = some a → vo.ownBlock ≠ some a) ∧ Texts wr w.heap.size ts ∧ Kept [] w wr) (fun _ _ vi _ => n - (intOf vi).toNat)
  case atStart => exact ⟨0, [], by omega, rfl, rfl, rfl, ⟨rfl, Or.inl ⟨rfl, rfl⟩⟩, ⟨rfl, Or.inl ⟨rfl, rfl⟩⟩, (fun a h => by cases h), Texts.nil _ _, Kept.refl _ _⟩
  case round =>
    obtain ⟨k, ts, hk, rfl, htl, htb, hol, hoo, hdis, htx, hkr⟩ := hrel
    have HOL := hide hol
    have HOO := hide hoo
    have HDIS := hide hdis
    have HTX := hide htx
    have HKR := hide hkr
    have HTB := hide htb
    obtain ⟨la, lc, hla⟩ := own_len hol
    obtain ⟨oa, oc, hoa⟩ := own_len hoo
    subst hla
    subst hoa
    have hszr := hkr.size
    clear hol hoo hdis htx hkr htb
    by_cases hkn : k < n
    · obtain ⟨b, off, p, rfl, hbl, hpk, hce, hsee⟩ := (unhide HV).at hkn
      have hce2 := (hkr_cell (unhide HKR) hbl (off := off + k)).trans hce
      have HSE : Hid (Sees wr p.1 p.2) := hsee.kept (unhide HKR) (Or.inr (by simp))
      have hpl := unhide HB p (List.mem_of_getElem? hpk)
      obtain ⟨xa, xc, hx1, -⟩ := unhide HSE
      have HLT := hide (lent_any (unhide HSE) hpl)
      rw [hx1] at hce2 HLT
      have HPK := hide hpk
      clear hpk hsee hx1 hce
      generalize hM : p.2.length = M at hce2 HLT hpl
      have HM := hide hM
      clear hM
      go_wp2_with fail
      refine (unhide HLT).mono ?_
      rintro e w1 ⟨g, c, rfl, hl1, hk1⟩
      have HL1 := hide hl1
      have HK1 := hide hk1
      have HO1 := hide (own_kept (unhide HOL) hk1 (by simp))
      have HP1 := hide (own_kept (unhide HOO) hk1 (by simp))
      have HT1 := hide ((unhide HTX).kept hk1 (by simp))
      have hsz1 := hk1.size
      clear hl1 hk1 HLT
      have hm1 : k + 1 ≤ maxLen := by unfold maxLen; omega
      have hb1 : (k + 1) * 24 ≤ 140737488355328 := by omega
      have HN1 := hide (news_one w1 (.slice (some ⟨g, 0, none⟩) M c) 29)
      have HON1 : Hid (∀ u ∈ [Value.slice (some ⟨g, 0, none⟩) M c], u.oneCell' = true) := by intro u hu; simp at hu; subst hu; rfl
      have HO1b := hide (own_kept (unhide HO1) ((Kept.refl [] w1).alloc (.cells #[Value.slice (some ⟨g, 0, none⟩) M c] 29)) (by simp))
      go_wp2_with (at_builtin; refine wpList_append_own_at _ rfl _ _ 28 rfl w.heap.size 29 i0 (.slice none 0 0) 1 24 Try.underlying28 (unhide HI).1 (unhide HI).2.1 (unhide HI).2.2.1 (unhide HI).2.2.2 rfl Nat.one_pos _ k _ rfl (unhide HO1b) ⟨w1.heap.size, 0, none⟩ 1 1 [Value.slice (some ⟨g, 0, none⟩) M c] rfl rfl (unhide HN1) (unhide HON1) hm1 hb1 ?c1 ?_)
      case c1 => simp; omega
      intro v2 w2 ho2 hg2 _ hat2
      obtain ⟨a2, c2, rfl⟩ := own_len ho2
      obtain ⟨F1, hF1⟩ : ∃ F, F = (Value.slice la k lc).ownBlock.toList := ⟨_, rfl⟩
      have hkg : Kept F1 (w1.alloc (.cells #[Value.slice (some ⟨g, 0, none⟩) M c] 29)) w2 := (Kept.refl F1 _).grown hg2 (fun x hx => Or.inl (by rw [hF1]; simp [hx]))
      have hF1a : ∀ x, x ∈ F1 → (Value.slice la k lc).ownBlock = some x := fun x hx => by rw [hF1] at hx; simpa using hx
      have HP2 : Hid (w2.ownsRow w.heap.size 29 1 (.slice oa k oc) k (ts.map Tx.val)) :=
        own_kept (own_kept (unhide HP1) ((Kept.refl [] w1).alloc (.cells #[Value.slice (some ⟨g, 0, none⟩) M c] 29)) (by simp)) hkg (fun x hx hm => unhide HDIS x (hF1a x hm) hx)
      have HT2 : Hid (Texts w2 w.heap.size ts) := ((unhide HT1).kept ((Kept.refl [] w1).alloc (.cells #[Value.slice (some ⟨g, 0, none⟩) M c] 29)) (by simp)).kept hkg (fun t ht hm => apart ((unhide HT1).1 t ht) (unhide HO1) (hF1a _ hm))
      have HL2 : Hid (Lent w2 wr.heap.size g c M p.2) := by
        have h5 := unhide HL1
        exact (h5.kept ((Kept.refl [] w1).alloc (.cells #[Value.slice (some ⟨g, 0, none⟩) M c] 29)) (by simp)).kept hkg (fun hm => apart h5 (unhide HO1) (hF1a _ hm))
      have HK2 : Hid (Kept [] w w2) := (((unhide HKR).trans (unhide HK1) (by simp)).alloc _).grown hg2 (fun x hx => Or.inr ((unhide HO1).lt x hx).1)
      have HO2 := hide ho2
      have hsz2 := hkg.size
      have HAT2 : Hid (∀ x, (Value.slice a2 (k + 1) c2).ownBlock = some x → (Value.slice oa k oc).ownBlock ≠ some x) := by
        intro x hx hy
        rcases hat2 with h | h
        · rw [h] at hx; exact unhide HDIS x hx hy
        · rw [h] at hx
          simp at hx
          have := ((unhide HP1).lt x hy).2
          omega
      have hsz2' : w1.heap.size + 1 ≤ w2.heap.size := by simpa using hsz2
      clear ho2 hg2 hat2 hkg hF1a hF1 HO1b HN1 HO1 HP1 HT1 HL1 HK1 hsz2
      have HN2 := hide (news_one w2 (.slice (some ⟨g, 0, none⟩) M c) 29)
      have HP2b := hide (own_kept (unhide HP2) ((Kept.refl [] w2).alloc (.cells #[Value.slice (some ⟨g, 0, none⟩) M c] 29)) (by simp))
      go_wp2_with (at_builtin; refine wpList_append_own_at _ rfl _ _ 28 rfl w.heap.size 29 i0 (.slice none 0 0) 1 24 Try.underlying28 (unhide HI).1 (unhide HI).2.1 (unhide HI).2.2.1 (unhide HI).2.2.2 rfl Nat.one_pos _ k _ rfl (unhide HP2b) ⟨w2.heap.size, 0, none⟩ 1 1 [Value.slice (some ⟨g, 0, none⟩) M c] rfl rfl (unhide HN2) (unhide HON1) hm1 hb1 ?c2 ?_)
      case c2 => simp; omega
      intro v3 w3 ho3 hg3 _ hat3
      obtain ⟨a3, c3, rfl⟩ := own_len ho3
      obtain ⟨F2, hF2⟩ : ∃ F, F = (Value.slice oa k oc).ownBlock.toList := ⟨_, rfl⟩
      have hkg : Kept F2 (w2.alloc (.cells #[Value.slice (some ⟨g, 0, none⟩) M c] 29)) w3 := (Kept.refl F2 _).grown hg3 (fun x hx => Or.inl (by rw [hF2]; simp [hx]))
      have hF2a : ∀ x, x ∈ F2 → (Value.slice oa k oc).ownBlock = some x := fun x hx => by rw [hF2] at hx; simpa using hx
      have HO3 : Hid (w3.ownsRow w.heap.size 29 1 (.slice a2 (k + 1) c2) (k + 1) (ts.map Tx.val ++ [Value.slice (some ⟨g, 0, none⟩) M c])) :=
        own_kept (own_kept (unhide HO2) ((Kept.refl [] w2).alloc (.cells #[Value.slice (some ⟨g, 0, none⟩) M c] 29)) (by simp)) hkg (fun x hx hm => unhide HAT2 x hx (hF2a x hm))
      have HT3 : Hid (Texts w3 w.heap.size ts) := ((unhide HT2).kept ((Kept.refl [] w2).alloc (.cells #[Value.slice (some ⟨g, 0, none⟩) M c] 29)) (by simp)).kept hkg (fun t ht hm => apart ((unhide HT2).1 t ht) (unhide HP2) (hF2a _ hm))
      have HL3 : Hid (Lent w3 wr.heap.size g c M p.2) := ((unhide HL2).kept ((Kept.refl [] w2).alloc (.cells #[Value.slice (some ⟨g, 0, none⟩) M c] 29)) (by simp)).kept hkg (fun hm => apart (unhide HL2) (unhide HP2) (hF2a _ hm))
      have HK3 : Hid (Kept [] w w3) := ((unhide HK2).alloc _).grown hg3 (fun x hx => Or.inr ((unhide HP2).lt x hx).1)
      have HDIS3 : Hid (∀ x, (Value.slice a2 (k + 1) c2).ownBlock = some x → (Value.slice a3 (k + 1) c3).ownBlock ≠ some x) := by
        intro x hx hy
        rcases hat3 with h | h
        · rw [h] at hy; exact unhide HAT2 x hx hy
        · rw [h] at hy
          simp at hy
          have := ((unhide HO2).lt x hx).2
          omega
      have HP3 := hide ho3
      clear ho3 hg3 hat3 hkg hF2a hF2 HP2b HN2 HO2 HP2 HT2 HL2 HK2 HAT2
      have hval : (⟨g, c, p.2⟩ : Tx).val = Value.slice (some ⟨g, 0, none⟩) M c := by unfold Tx.val; rw [unhide HM]
      have HVAL := hide hval
      clear hval
      go_wp2
      go_roundw
      case rel =>
        refine ⟨k + 1, ts ++ [⟨g, c, p.2⟩], by omega, by simp, by simp [htl], ?_, ?_, ?_, unhide HDIS3, ?_, unhide HK3⟩
        · rw [List.map_append, unhide HTB, List.take_add_one, unhide HPK, List.map_append]; rfl
        · rw [List.map_append, List.map_singleton, unhide HVAL]; exact unhide HO3
        · rw [List.map_append, List.map_singleton, unhide HVAL]; exact unhide HP3
        · refine (unhide HT3).add ?_ ?_
          · show Lent w3 w.heap.size g c p.2.length p.2
            rw [unhide HM]; exact (unhide HL3).base hszr
          · intro u hu e
            have h6 := ((unhide HTX).lt hu).2
            have h7 := (unhide HL3).caps.2.2.1
            have e2 : u.g = g := e
            omega
      case measure => simp [intOf]; omega
    · obtain rfl : k = n := by omega
      have hfull : ps.take k = ps := by rw [← unhide HL, List.take_length]
      rw [hfull] at HTB
      have hm1 : k + 1 ≤ maxLen := by unfold maxLen; omega
      have hb1 : (k + 1) * 24 ≤ 140737488355328 := by omega
      have hOLlt : ∀ x, (Value.slice la k lc).ownBlock = some x → x < wr.heap.size := fun x hx => ((unhide HOL).lt x hx).2
      have HOLT := hide hOLlt
      clear hOLlt hfull hk hkn
      have HN4 : Hid (∀ j u, [Value.slice (some ⟨wr.heap.size, 0, none⟩) 1 1][j]? = some u → ((wr.alloc (.cells #[.int .u8 9] 5)).alloc (.cells #[Value.slice (some ⟨wr.heap.size, 0, none⟩) 1 1] 29)).cell? ((⟨wr.heap.size + 1, 0, none⟩ : Addr).add j) = some u) := by
        have := news_one (wr.alloc (.cells #[.int .u8 9] 5)) (.slice (some ⟨wr.heap.size, 0, none⟩) 1 1) 29
        unfold Hid
        simpa using this
      have HON4 : Hid (∀ u ∈ [Value.slice (some ⟨wr.heap.size, 0, none⟩) 1 1], u.oneCell' = true) := by intro u hu; simp at hu; subst hu; rfl
      have HOLa := hide (own_kept (unhide HOL) (((Kept.refl [] wr).alloc (.cells #[.int .u8 9] 5)).alloc (.cells #[Value.slice (some ⟨wr.heap.size, 0, none⟩) 1 1] 29)) (by simp))
      go_wp2_with (at_builtin; refine wpList_append_own_at _ rfl _ _ 28 rfl w.heap.size 29 i0 (.slice none 0 0) 1 24 Try.underlying28 (unhide HI).1 (unhide HI).2.1 (unhide HI).2.2.1 (unhide HI).2.2.2 rfl Nat.one_pos _ k _ rfl (unhide HOLa) ⟨wr.heap.size + 1, 0, none⟩ 1 1 [Value.slice (some ⟨wr.heap.size, 0, none⟩) 1 1] rfl rfl (unhide HN4) (unhide HON4) hm1 hb1 ?c4 ?_)
      case c4 => simp; omega
      intro v4 w4 ho4 hg4 _ hat4
      obtain ⟨g4, c4, hv4, hg4b, hg4l, hc4, hcm4⟩ := row_ofV ho4 (by omega)
      subst hv4
      obtain ⟨F1, hF1⟩ : ∃ F, F = (Value.slice la k lc).ownBlock.toList := ⟨_, rfl⟩
      have hkg : Kept F1 ((wr.alloc (.cells #[.int .u8 9] 5)).alloc (.cells #[Value.slice (some ⟨wr.heap.size, 0, none⟩) 1 1] 29)) w4 := (Kept.refl F1 _).grown hg4 (fun x hx => Or.inl (by rw [hF1]; simp [hx]))
      have hF1a : ∀ x, x ∈ F1 → (Value.slice la k lc).ownBlock = some x := fun x hx => by rw [hF1] at hx; simpa using hx
      have kaa : Kept [] wr ((wr.alloc (.cells #[.int .u8 9] 5)).alloc (.cells #[Value.slice (some ⟨wr.heap.size, 0, none⟩) 1 1] 29)) := ((Kept.refl [] wr).alloc _).alloc _
      have HP4 : Hid (w4.ownsRow w.heap.size 29 1 (.slice oa k oc) k (ts.map Tx.val)) :=
        own_kept (own_kept (unhide HOO) kaa (by simp)) hkg (fun x hx hm => unhide HDIS x (hF1a x hm) hx)
      have HT4 : Hid (Texts w4 w.heap.size ts) := ((unhide HTX).kept kaa (by simp)).kept hkg (fun t ht hm => apart ((unhide HTX).1 t ht) (unhide HOL) (hF1a _ hm))
      have HK4 : Hid (Kept [] w w4) := (((unhide HKR).alloc _).alloc _).grown hg4 (fun x hx => Or.inr ((unhide HOL).lt x hx).1)
      have HB4 : Hid (Blk w4 wr.heap.size #[.int .u8 9] 5) := ((Blk.new wr #[.int .u8 9] 5).alloc _).kept hkg (fun hm => by have := unhide HOLT _ (hF1a _ hm); omega)
      have HO4 := hide ho4
      have hDIS4 : ∀ x, (Value.slice oa k oc).ownBlock = some x → x ≠ g4 := by
        intro x hx e
        subst e
        rcases hat4 with h | h
        · exact unhide HDIS x (h.symm) hx
        · simp [Value.ownBlock] at h
          have := ((unhide HOO).lt x hx).2
          omega
      have HDIS4 := hide hDIS4
      clear ho4 hg4 hat4 hkg hF1a hF1 kaa hDIS4 HOLa HN4 HOL HOO HTX HKR HDIS HOLT
      have HPW := hide ((unhide HV).kept (unhide HK4))
      have HRF := hide (rfnv_any (unhide HPW))
      have hvt : (ts.map Tx.val ++ [Value.slice (some ⟨wr.heap.size, 0, none⟩) 1 1]).take k = ts.map Tx.val := by
        rw [List.take_append_of_le_length (by simp [htl]), List.take_of_length_le (by simp [htl])]
      have HF := hide (fnv_any (parts_of_row (unhide HT4) (unhide HO4) htl (by omega) hvt))
      have hcat : catP (asParts ts) = catP ps := by rw [catP_texts, unhide HTB]; rfl
      rw [hcat] at HF
      clear hcat hvt
      generalize marks fnv0 (catP ps) = m at HRF HF
      have t1 : (k : Int) ≤ (c4 : Int) := by omega
      have t2 : k ≤ c4 := by omega
      go_wp2_with fail
      refine (unhide HRF).mono ?_
      rintro e w' ⟨rfl, hq⟩
      have hq' := hq.symm
      subst hq'
      go_wp2_with fail
      refine (unhide HF).mono ?_
      rintro e w' ⟨rfl, hq⟩
      have hq' := hq.symm
      subst hq'
      clear HRF HF
      go_wp2_with fail
      have HEL : Hid (∀ j, j < k → ∃ t p b off go, ts[j]? = some t ∧ ps[j]? = some p ∧ p.2 = t.bs ∧ pa = some ⟨b, off, none⟩ ∧ w4.cell? ⟨b, off + j, none⟩ = some p.1 ∧ Sees w4 p.1 p.2 ∧ w4.cell? ⟨g4, j, none⟩ = some t.val ∧ oa = some ⟨go, 0, none⟩ ∧ w4.cell? ⟨go, j, none⟩ = some t.val ∧ Lent w4 w.heap.size t.g t.cap t.bs.length t.bs) := by
        intro j hj
        obtain ⟨b, off, p, e1, _, e2, e3, e4⟩ := (unhide HPW).at hj
        have hjt : j < ts.length := by omega
        have e5 : ts[j]? = some ts[j] := List.getElem?_eq_getElem hjt
        have e6 : p.2 = ts[j].bs := by
          have h7 := congrArg (·[j]?) (unhide HTB)
          simp only [List.getElem?_map, e5, e2, Option.map_some] at h7
          exact (Option.some.inj h7).symm
        obtain ⟨go, co, e7, _⟩ := row_ofV (unhide HP4) (by omega)
        simp only [Value.slice.injEq] at e7
        obtain ⟨e8, _, _⟩ := e7
        refine ⟨ts[j], p, b, off, go, e5, e2, e6, e1, e3, e4, ?_, e8, ?_, (unhide HT4).1 _ (List.getElem_mem hjt)⟩
        · refine own_cellV (unhide HO4) ?_
          rw [List.getElem?_append_left (by simpa using hjt), List.getElem?_map, e5]; rfl
        · have h8 := unhide HP4
          rw [e8] at h8
          refine own_cellV h8 ?_
          rw [List.getElem?_map, e5]; rfl
      go_loopw [9] (fun vi wx => ∃ (j : Nat), j ≤ k ∧ vi = .int .i64 j ∧ ∃ m', wx = w4.drewN m') (fun vi _ => k - (intOf vi).toNat)
      case atStart => exact ⟨0, by omega, rfl, 0, rfl⟩
      case round =>
        obtain ⟨j, hj, rfl, m', hq⟩ := hrel
        subst hq
        by_cases hjk : j < k
        · obtain ⟨t, p, b, off, go, e1, e2, e3, rfl, e5, e6, e7, rfl, e9, e10⟩ := unhide HEL j hjk
          have HS14 : Hid (∀ q, Calls Try.prog 14 #[t.val, p.1] (w4.drewN (m' + q)) fun e w'' => e = .returned (.bool true) ∧ ∃ m, w'' = w4.drewN (m' + m)) := by
            intro q
            refine (same_any (w := w4.drewN (m' + q)) (bs := t.bs) (e10.sees.kept ((Kept.refl [] w4).drewN (m' + q)) (Or.inr (by simp))) (by rw [← e3]; exact e6.kept ((Kept.refl [] w4).drewN (m' + q)) (Or.inr (by simp)))).mono ?_
            rintro e w'' ⟨rfl, m2, rfl⟩
            exact ⟨rfl, q + m2, by rw [drewN_add, Nat.add_assoc]⟩
          have HS15 : Hid (∀ q, Calls Try.prog 15 #[t.val, p.1] (w4.drewN (m' + q)) fun e w'' => e = .returned (.bool true) ∧ ∃ m, w'' = w4.drewN (m' + m)) := by
            intro q
            refine (kept_drew (w := w4.drewN (m' + q)) (bs := t.bs) (e10.kept ((Kept.refl [] w4).drewN (m' + q)) (by simp)) (by rw [← e3]; exact e6.kept ((Kept.refl [] w4).drewN (m' + q)) (Or.inr (by simp)))).mono ?_
            rintro e w'' ⟨rfl, m2, rfl⟩
            exact ⟨rfl, q + m2, by rw [drewN_add, Nat.add_assoc]⟩
          obtain ⟨xa, xc, hx1, -⟩ := e6
          rw [hx1] at e5 HS14 HS15
          unfold Tx.val at e7 e9 HS14 HS15
          generalize p.2.length = M1 at e5 HS14 HS15
          generalize t.bs.length = M2 at e7 e9 HS14 HS15
          clear e1 e2 e3 e10 hx1
          have t3 : (j : Int) < (k : Int) := by omega
          have t4 : (j : Int) < (k : Int) + 1 := by omega
          go_wp2_with fail
          go_quiet ((first | (go_at_call 14; exact unhide HS14 _) | (go_at_call 15; exact unhide HS15 _)))
          go_wp2
          go_roundw
          case rel => exact ⟨j + 1, by omega, by simp, _, rfl⟩
          case measure => simp [intOf]; omega
        · obtain rfl : j = k := by omega
          have hc9 : w4.cell? ⟨g4, j, none⟩ = some (.slice (some ⟨wr.heap.size, 0, none⟩) 1 1) := own_cellV (unhide HO4) (by rw [List.getElem?_append_right (by simp [htl])]; simp [htl])
          have h9 : w4.cell? ⟨wr.heap.size, 0, none⟩ = some (.int .u8 9) := by rw [(unhide HB4).cell]; rfl
          have t5 : (j : Int) < (j : Int) + 1 := by omega
          clear hjk hj HEL
          generalize wr.heap.size = b9 at *
          go_wp2_with fail
          have HTLT : Hid (∀ t ∈ ts, t.g < w4.heap.size) := fun t ht => ((unhide HT4).lt ht).2
          go_loopw [10, 11] (fun vt vi wx => ∃ (i : Nat) (ts' us : List Tx), i ≤ j ∧ vi = .int .i64 i ∧ ts'.length = j ∧ us.length = i ∧ us.map (·.bs) = (ts'.take i).map (·.bs) ∧ ts'.map Tx.val = ts.map Tx.val ∧ wx.ownsRow w.heap.size 29 1 (.slice (some ⟨g4, 0, none⟩) (j + 1) c4) (j + 1) (ts.map Tx.val ++ [Value.slice (some ⟨b9, 0, none⟩) 1 1]) ∧ wx.ownsRow w.heap.size 29 1 (.slice oa j oc) j (ts.map Tx.val) ∧ Texts wx w.heap.size ts' ∧ wx.ownsRow w4.heap.size 29 1 vt i (us.map Tx.val) ∧ Texts wx w4.heap.size us ∧ (∀ t ∈ ts', t.g < w4.heap.size) ∧ Kept [] w wx ∧ w4.heap.size ≤ wx.heap.size) (fun _ vi _ => j - (intOf vi).toNat)
          case atStart =>
            have kq : Kept [] w4 (w4.drewN m') := (Kept.refl [] w4).drewN m'
            exact ⟨0, ts, [], by omega, rfl, htl, rfl, rfl, rfl, own_kept (unhide HO4) kq (by simp), own_kept (unhide HP4) kq (by simp), (unhide HT4).kept kq (by simp), ⟨rfl, Or.inl ⟨rfl, rfl⟩⟩, Texts.nil _ _, unhide HTLT, (unhide HK4).drewN m', kq.size⟩
          case round =>
            obtain ⟨wx, hwx⟩ : ∃ wx, wx = wr := ⟨_, rfl⟩
            subst hwx
            obtain ⟨i, ts', us, hi, rfl, htl', hul, hub, hvv, hol, hoo, htx, hot, hux, htlt, hkx, hszx⟩ := hrel
            have HOL := hide hol
            have HOO := hide hoo
            have HTX := hide htx
            have HOT := hide hot
            have HUX := hide hux
            have HKX := hide hkx
            have HTL := hide htlt
            have HUB := hide hub
            have HVV := hide hvv
            obtain ⟨ta, tc, hta⟩ := own_len hot
            subst hta
            clear hol hoo htx hot hux hkx htlt hub hvv hc9 h9
            by_cases hij : i < j
            · have hit : i < ts'.length := by omega
              have e5 : ts'[i]? = some ts'[i] := List.getElem?_eq_getElem hit
              have evt : (ts.map Tx.val)[i]? = some ts'[i].val := by rw [← unhide HVV, List.getElem?_map, e5]; rfl
              have hMb : ts'[i].bs.length ≤ 140737488351232 := by
                obtain ⟨t0, h01, h02⟩ := Option.map_eq_some_iff.1 (by rw [List.getElem?_map] at evt; exact evt)
                unfold Tx.val at h02
                simp only [Value.slice.injEq] at h02
                have h03 := congrArg (·[i]?) (unhide HTB)
                simp only [List.getElem?_map, h01, Option.map_some] at h03
                obtain ⟨p0, h04, h05⟩ := Option.map_eq_some_iff.1 h03.symm
                have h06 := unhide HB p0 (List.mem_of_getElem? h04)
                rw [← h02.2.1, ← h05]
                exact h06
              obtain ⟨go, co, e7, hgo1, hgo2, -, -⟩ := row_ofV (unhide HOO) (by omega)
              simp only [Value.slice.injEq] at e7
              obtain ⟨rfl, -, rfl⟩ := e7
              have hoc := own_cellV (unhide HOO) evt
              have hlt0 := (unhide HTX).1 ts'[i] (List.getElem_mem hit)
              have htg := unhide HTL ts'[i] (List.getElem_mem hit)
              have hgw := (unhide HTX).lt (List.getElem_mem hit)
              have hap : go ≠ ts'[i].g := fun e => apart hlt0 (unhide HOO) (by rw [← e]; rfl)
              obtain ⟨t, ht⟩ : ∃ t, t = ts'[i] := ⟨_, rfl⟩
              rw [← ht] at e5 evt hoc hlt0 htg hgw hap hMb
              have HLT0 := hide hlt0
              have HE5 := hide e5
              have hml : t.bs.length ≤ 9223372036854775807 := by have := hlt0.caps; omega
              clear hlt0 ht evt e5
              unfold Tx.val at hoc
              obtain ⟨tg, tcap, tbs⟩ := t
              simp only at hoc htg hgw hap hml HLT0 HE5 hMb
              generalize hM : tbs.length = M at hoc hml hMb
              have HM := hide hM
              have t6 : (i : Int) < (j : Int) := by omega
              go_wp2_with fail
              go_loopw [12] (fun vk wy => ∃ (kk : Nat) (bs' : List Nat), kk ≤ M ∧ vk = .int .i64 kk ∧ bs'.length = M ∧ Lent wy w.heap.size tg tcap M bs' ∧ Kept [tg] wx wy) (fun vk _ => M - (intOf vk).toNat)
              case atStart => exact ⟨0, tbs, by omega, rfl, hM, by have := unhide HLT0; rw [hM] at this; exact this, Kept.refl _ _⟩
              case round =>
                obtain ⟨kk, bs', hkk, rfl, hbl', hlent, hkw⟩ := hrel
                have HLN := hide hlent
                have HKW := hide hkw
                have hoc2 := (hkw.cell (p := ⟨go, i, none⟩) hgo2 (by simpa using hap)).trans hoc
                clear hlent hkw
                by_cases hkM : kk < M
                · have hce := (unhide HLN).cell hkM
                  have hfz := (unhide HLN).frozen kk
                  have hx := getD_lt (unhide HLN).2.1 (show kk < bs'.length by omega)
                  generalize bs'.getD kk 0 = x at hce hx
                  have hy : (x + (1 + i) % 256) % 256 < 256 := Nat.mod_lt _ (by omega)
                  have HLS := hide ((unhide HLN).set hkM hy)
                  have wy1 : IntKind.u8.wrap ((x : Int) + (1 + (i : Int)) % 256) = (((x + (1 + i) % 256) % 256 : Nat) : Int) := by rw [IntKind.wrap_u8']; omega
                  generalize (x + (1 + i) % 256) % 256 = y at hy HLS wy1
                  have t7 : (kk : Int) < (M : Int) := by omega
                  have t8 : (0 : Int) ≤ (kk : Int) := by omega
                  go_wp2_with fail
                  go_region
                  clear hce hfz wy1
                  go_wp2
                  go_roundw
                  case rel => exact ⟨kk + 1, bs'.set kk y, by omega, by simp, by rw [List.length_set]; exact hbl', (unhide HLS).kept ((Kept.refl [] _).drew) (by simp), ((unhide HKW).setCell (Or.inl (by simp)) _).drew⟩
                  case measure => simp [intOf]; omega
                · obtain rfl : kk = M := by omega
                  have hkw := unhide HKW
                  have hszw := hkw.size
                  have hOTap : ∀ x, (Value.slice ta i tc).ownBlock = some x → x ∉ [tg] := fun x hx hm => by simp at hm; subst hm; exact apart (unhide HLT0) (unhide HOT) hx
                  have HOTw := hide (own_kept (unhide HOT) hkw hOTap)
                  have HOLw := hide (own_kept (unhide HOL) hkw (fun x hx hm => by simp at hm; subst hm; exact apart (unhide HLT0) (unhide HOL) hx))
                  have HOOw := hide (own_kept (unhide HOO) hkw (fun x hx hm => by simp at hm; subst hm; exact apart (unhide HLT0) (unhide HOO) hx))
                  have HUXw := hide ((unhide HUX).kept hkw (fun t ht hm => by simp at hm; have := ((unhide HUX).lt ht).1; omega))
                  have HTXw : Hid (Texts wr w.heap.size (ts'.set i ⟨tg, tcap, bs'⟩)) := (unhide HTX).change (unhide HE5) (show bs'.length = tbs.length by rw [hbl', unhide HM]) hkw (show Lent wr w.heap.size tg tcap tbs.length bs' by rw [unhide HM]; exact unhide HLN)
                  have HKXw : Hid (Kept [] w wr) := (unhide HKX).trans hkw (fun x hx => by simp at hx; subst hx; right; exact hgw.1)
                  have hgoB : go < w4.heap.size := ((unhide HP4).lt go rfl).2
                  have HLTN := hide (lent_any (unhide HLN).sees (by rw [hbl']; exact hMb))
                  rw [hbl'] at HLTN
                  clear hkw hOTap
                  go_wp2_with fail
                  refine (unhide HLTN).mono ?_
                  rintro e w7 ⟨g7, c7, rfl, hl7, hk7⟩
                  have hm7 : i + 1 ≤ maxLen := by unfold maxLen; omega
                  have hb7 : (i + 1) * 24 ≤ 140737488355328 := by omega
                  have HL7 := hide hl7
                  have hsz7 := hk7.size
                  have kal : Kept [] wr (w7.alloc (.cells #[Value.slice (some ⟨g7, 0, none⟩) kk c7] 29)) := hk7.alloc _
                  have HN7 := hide (news_one w7 (.slice (some ⟨g7, 0, none⟩) kk c7) 29)
                  have HON7 : Hid (∀ u ∈ [Value.slice (some ⟨g7, 0, none⟩) kk c7], u.oneCell' = true) := by intro u hu; simp at hu; subst hu; rfl
                  have HOTb := hide (own_kept (unhide HOTw) kal (by simp))
                  have HKAL := hide kal
                  have HK7 := hide hk7
                  clear hl7 hk7 kal HLTN
                  go_wp2_with (at_builtin; refine wpList_append_own_at _ rfl _ _ 28 rfl w4.heap.size 29 i0 (.slice none 0 0) 1 24 Try.underlying28 (unhide HI).1 (unhide HI).2.1 (unhide HI).2.2.1 (unhide HI).2.2.2 rfl Nat.one_pos _ i _ rfl (unhide HOTb) ⟨w7.heap.size, 0, none⟩ 1 1 [Value.slice (some ⟨g7, 0, none⟩) kk c7] rfl rfl (unhide HN7) (unhide HON7) hm7 hb7 ?c7 ?_)
                  case c7 => simp; omega
                  intro v8 w8 ho8 hg8 _ hat8
                  obtain ⟨a8, c8, rfl⟩ := own_len ho8
                  obtain ⟨F3, hF3⟩ : ∃ F, F = (Value.slice ta i tc).ownBlock.toList := ⟨_, rfl⟩
                  have hkg : Kept F3 (w7.alloc (.cells #[Value.slice (some ⟨g7, 0, none⟩) kk c7] 29)) w8 := (Kept.refl F3 _).grown hg8 (fun x hx => Or.inl (by rw [hF3]; simp [hx]))
                  have hF3a : ∀ x, x ∈ F3 → (Value.slice ta i tc).ownBlock = some x := fun x hx => by rw [hF3] at hx; simpa using hx
                  have hF3b : ∀ x, x ∈ F3 → w4.heap.size ≤ x := fun x hx => ((unhide HOTw).lt x (hF3a x hx)).1
                  have HOL8 := hide (own_kept (own_kept (unhide HOLw) (unhide HKAL) (by simp)) hkg (fun x hx hm => by have h1 := hF3b x hm; simp [Value.ownBlock] at hx; omega))
                  have HOO8 := hide (own_kept (own_kept (unhide HOOw) (unhide HKAL) (by simp)) hkg (fun x hx hm => by have h1 := hF3b x hm; simp [Value.ownBlock] at hx; omega))
                  have hTLs : ∀ t ∈ ts'.set i ⟨tg, tcap, bs'⟩, t.g < w4.heap.size := by
                    intro t ht
                    rcases List.mem_or_eq_of_mem_set ht with h1 | h1
                    · exact unhide HTL t h1
                    · rw [h1]; exact htg
                  have HTX8 := hide (((unhide HTXw).kept (unhide HKAL) (by simp)).kept hkg (fun t ht hm => by have h1 := hF3b _ hm; have h2 := hTLs t ht; omega))
                  have HUX8 := hide (((unhide HUXw).kept (unhide HKAL) (by simp)).kept hkg (fun t ht hm => apart ((unhide HUXw).1 t ht) (unhide HOTw) (hF3a _ hm)))
                  have HL8 : Hid (Lent w8 wr.heap.size g7 c7 kk bs') := ((unhide HL7).kept ((Kept.refl [] w7).alloc _) (by simp)).kept hkg (fun hm => apart (unhide HL7) (own_kept (unhide HOTw) (unhide HK7) (by simp)) (hF3a _ hm))
                  have HK8 : Hid (Kept [] w w8) := ((unhide HKXw).trans (unhide HKAL) (by simp)).grown hg8 (fun x hx => Or.inr (by have := ((unhide HOTw).lt x hx).1; have h2 := (unhide HK4).size; omega))
                  have HOT8 := hide ho8
                  have hsz8 : w4.heap.size ≤ w8.heap.size := by have h1 := hkg.size; simp at h1; omega
                  have hv7 : (⟨g7, c7, bs'⟩ : Tx).val = Value.slice (some ⟨g7, 0, none⟩) kk c7 := by unfold Tx.val; rw [hbl']
                  have HV7 := hide hv7
                  have HTLS := hide hTLs
                  clear ho8 hg8 hat8 hkg hF3a hF3b hF3 hTLs hv7 HOTb HN7
                  go_wp2
                  go_roundw
                  case rel =>
                    refine ⟨i + 1, ts'.set i ⟨tg, tcap, bs'⟩, us ++ [⟨g7, c7, bs'⟩], by omega, by simp, by rw [List.length_set]; exact htl', by simp [hul], ?_, ?_, unhide HOL8, unhide HOO8, unhide HTX8, ?_, ?_, unhide HTLS, unhide HK8, hsz8⟩
                    · rw [List.map_append, unhide HUB, List.take_add_one, List.take_set_of_le (Nat.le_refl _), List.map_append]
                      simp [hit]
                    · rw [← unhide HVV]
                      apply List.ext_getElem?
                      intro q
                      by_cases hqi : q = i
                      · subst hqi
                        rw [List.getElem?_map, List.getElem?_map, List.getElem?_set_self hit, unhide HE5]
                        simp [Tx.val, hbl', unhide HM]
                      · rw [List.getElem?_map, List.getElem?_map, List.getElem?_set_ne (fun e => hqi e.symm)]
                    · rw [List.map_append, List.map_singleton, unhide HV7]; exact unhide HOT8
                    · refine (unhide HUX8).add ?_ ?_
                      · show Lent w8 w4.heap.size g7 c7 bs'.length bs'
                        rw [hbl']; exact (unhide HL8).base (by omega)
                      · intro u hu e
                        have h6 := ((unhide HUX).lt hu).2
                        have h7 := (unhide HL8).caps.2.2.1
                        have e2 : u.g = g7 := e
                        omega
                  case measure => simp [intOf]; omega
            · obtain rfl : i = j := by omega
              have hfull : ts'.take i = ts' := by rw [← htl', List.take_length]
              rw [hfull] at HUB
              have HRF := hide (rfnv_any (parts_of_row (unhide HUX) (unhide HOT) hul (Nat.le_refl _) (by rw [List.take_of_length_le (by simp [hul])])))
              have hvt : (ts.map Tx.val ++ [Value.slice (some ⟨b9, 0, none⟩) 1 1]).take i = ts'.map Tx.val := by
                rw [unhide HVV, List.take_append_of_le_length (by simp [htl]), List.take_of_length_le (by simp [htl])]
              have HF := hide (fnv_any (parts_of_row (unhide HTX) (unhide HOL) htl' (by omega) hvt))
              have hcat : catP (asParts us) = catP (asParts ts') := by rw [catP_texts, catP_texts, unhide HUB]
              rw [hcat] at HRF
              clear hcat hvt
              generalize marks fnv0 (catP (asParts ts')) = m3 at HRF HF
              go_wp2_with fail
              refine (unhide HRF).mono ?_
              rintro e w' ⟨rfl, hq⟩
              have hq' := hq.symm
              subst hq'
              go_wp2_with fail
              refine (unhide HF).mono ?_
              rintro e w' ⟨rfl, hq⟩
              have hq' := hq.symm
              subst hq'
              go_wp2
              go_ret
              exact ⟨rfl, unhide HKX⟩
end Go.Proofs.Ytlcepoomjnpfpaa
