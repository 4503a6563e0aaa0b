/- TableForm: the walk. -/
import Derived.Test.YtkejpbfbpomjfaaCRdRZ
import Derived.Test.YtkejpbfbpomjfaaCMapKZ
import Derived.Test.YtkejpbfbpomjfaaCSrwZ
namespace Go.Proofs.Ytkejpbfbpomjfaa.tre
open Go.RowKit
set_option linter.unusedVariables false

theorem body_len {L : List (ByteArray × VT)} (h : ∀ e ∈ L, 1 ≤ e.1.size) : L.length ≤ bodyOf L := by
  induction L with
  | nil => simp
  | cons e L ih =>
    have h1 := h e (List.mem_cons_self ..)
    have h2 := ih (fun x hx => h x (List.mem_cons_of_mem _ hx))
    rw [body_cons, List.length_cons]
    unfold rowSz
    omega
theorem Snd.size_le {T : Tb} (h : Snd T) : T.t.size ≤ (tblF T).length := by
  rw [tblF_len, ← Tr.list_length]
  have := body_len h.key
  unfold tSz
  omega
set_option maxRecDepth 100000 in
set_option maxHeartbeats 800000 in
theorem comes_q {w : World} {xv yv : Value} {x y : List UInt8} (h1 : Wide w xv (x.map UInt8.toNat)) (h2 : Wide w yv (y.map UInt8.toNat)) (hlt : Op.bytesLess x y = true) (hlx : x.length ≤ 140737488355328) (hly : y.length ≤ 140737488355328) :
    Calls Try.prog 20 #[xv, yv] w fun e w' => e = .returned (.bool true) ∧ ∃ m, w' = w.drewN m := by
  obtain ⟨xa, xc, rfl⟩ := wide_len h1
  obtain ⟨ya, yc, rfl⟩ := wide_len h2
  rw [List.length_map] at h1 h2 ⊢
  rw [List.length_map]
  obtain ⟨N, hN⟩ : ∃ N, x.length = N := ⟨_, rfl⟩
  obtain ⟨M, hM⟩ : ∃ M, y.length = M := ⟨_, rfl⟩
  rw [hN] at h1 hlx ⊢
  rw [hM] at h2 hly ⊢
  have H1 := hide h1
  have H2 := hide h2
  have HN := hide hN
  have HM := hide hM
  have HLT := hide hlt
  clear h1 h2 hN hM hlt
  go_enter Try.func20, Try.ntmps20
  go_wp2
  go_loopw [5] (fun i wr => ∃ k : Nat, k ≤ N ∧ k ≤ M ∧ i = .int .i64 k ∧ (∃ m, wr = w.drewN m) ∧ Hid (∀ j, j < k → x[j]? = y[j]?)) (fun i _ => N - (intOf i).toNat)
  case atStart => exact ⟨0, by omega, by omega, rfl, ⟨0, rfl⟩, fun j hj => by omega⟩
  case round =>
    obtain ⟨k, hk, hk2, rfl, ⟨m, hq⟩, HP⟩ := hrel
    subst hq
    have hbl : Op.bytesLess (x.drop k) (y.drop k) = true := by rw [← bl_first x y k (unhide HP) (by rw [unhide HN]; exact hk) (by rw [unhide HM]; exact hk2)]; exact unhide HLT
    by_cases hkN : k < N
    · have hkx : k < x.length := by rw [unhide HN]; exact hkN
      have hdx : x.drop k = x[k] :: x.drop (k + 1) := List.drop_eq_getElem_cons hkx
      have hkM : k < M := by
        rcases Nat.lt_or_ge k M with h | h
        · exact h
        · exfalso
          rw [hdx, show y.drop k = [] from List.drop_of_length_le (by rw [unhide HM]; exact h)] at hbl
          cases hbl
      have hky : k < y.length := by rw [unhide HM]; exact hkM
      have hdy : y.drop k = y[k] :: y.drop (k + 1) := List.drop_eq_getElem_cons hky
      rw [hdx, hdy] at hbl
      obtain ⟨xb, xo, rfl, hx⟩ := (unhide H1).at k (by rw [List.length_map]; exact hkx)
      obtain ⟨yb, yo, rfl, hy⟩ := (unhide H2).at k (by rw [List.length_map]; exact hky)
      rw [getD_nat x k hkx] at hx
      rw [getD_nat y k hky] at hy
      have t1 : ((k : Int) < (N : Int)) = True := by simp [hkN]
      have t2 : ((k : Int) < (M : Int)) = True := by simp [hkM]
      by_cases he : x[k] = y[k]
      · rw [← he] at hy
        have HE : Hid (x[k]? = y[k]?) := by show x[k]? = y[k]?; rw [List.getElem?_eq_getElem hkx, List.getElem?_eq_getElem hky, he]
        generalize x[k].toNat = z at hx hy
        clear he hbl hdx hdy hkx hky
        go_wp2
        go_quiet (fail)
        go_wp2
        go_roundw
        case rel =>
          refine ⟨k + 1, by omega, by omega, by go_num, ⟨_, rfl⟩, fun j hj => ?_⟩
          rcases Nat.lt_or_ge j k with h | h
          · exact unhide HP j h
          · rw [show j = k by omega]; exact unhide HE
        case measure => simp [intOf]; omega
      · have hlz : x[k].toNat < y[k].toNat := by
          simp only [Op.bytesLess, Bool.or_eq_true, Bool.and_eq_true, beq_iff_eq, decide_eq_true_eq] at hbl
          rcases hbl with h | ⟨h, -⟩
          · rw [UInt8.lt_iff_toNat_lt] at h; exact h
          · exact absurd h he
        generalize x[k].toNat = z1 at hx hlz
        generalize y[k].toNat = z2 at hy hlz
        have hne2 : ((z1 : Int) == (z2 : Int)) = false := by rw [beq_eq_false_iff_ne]; omega
        have hne3 : ((z1 : Int) != (z2 : Int)) = true := by rw [bne_iff_ne]; omega
        have hlt3 : ((z1 : Int) < (z2 : Int)) = True := by simp; omega
        clear he hbl hdx hdy hkx hky
        go_wp2
        go_quiet (fail)
        go_wp2
        go_quiet (fail)
        go_wp2
        go_ret
        exact ⟨rfl, _, by rw [World.drewN_drewN, World.drewN_drewN]⟩
    · obtain rfl : k = N := by omega
      have t1 : ((k : Int) < (k : Int)) = False := by simp
      have t2 : ((k : Int) < (M : Int)) = True := by
        have : k < M := by
          rcases Nat.lt_or_ge k M with h | h
          · exact h
          · exfalso
            rw [List.drop_of_length_le (by rw [unhide HN]; exact Nat.le_refl _), List.drop_of_length_le (by rw [unhide HM]; exact h)] at hbl
            cases hbl
        simp [this]
      clear hbl
      go_wp2
      go_ret
      exact ⟨rfl, _, rfl⟩
set_option maxRecDepth 100000 in
set_option maxHeartbeats 4000000 in
theorem form_any {w : World} {a : Option Addr} {cap : Nat} {ps : List Nat} (h : Wide w (.slice a ps.length cap) ps) (hb : ∀ x ∈ ps, x < 256) (hl : ps.length ≤ 1048576) :
    Calls Try.prog 6 #[.slice a ps.length cap] w fun e w' => e = .returned (.bool true) ∧ Kept [] w w' := by
  have HAW := hide (awake_any w)
  have HRD := fun W (hk : Kept [] w W) => hide (tread_any (h.kept hk) (by omega) hb)
  have HW := hide h
  obtain ⟨PL, hPL⟩ : ∃ n, ps.length = n := ⟨_, rfl⟩
  rw [hPL] at HRD HW hl ⊢
  have HPL := hide hPL
  have HBB := hide hb
  clear h hb hPL
  cases hT : rdT ps with
  | none =>
    rw [hT] at HRD
    have HT := hide hT
    clear hT
    go_enter Try.func6, Try.ntmps6
    go_wp2_with (first
      | (go_at_call 7; refine (unhide HAW).mono ?_; rintro e w1 ⟨rfl, hk1⟩; have HK1 := hide hk1; clear hk1)
      | (go_at_call 22; refine (unhide (HRD _ (unhide HK1))).mono ?_; rintro e w2 ⟨hk2, ho2⟩
         have he2 : e = .returned (.tuple #[.pointer none, .int .i64 130]) := by
           rcases ho2 with ⟨-, h4⟩ | ⟨T, b, h4, -⟩
           · exact h4
           · cases h4
         subst he2
         have HK2 := hide ((unhide HK1).step hk2)
         clear hk2 ho2)
      | fail)
    go_ret
    exact ⟨rfl, unhide HK2⟩
  | some T =>
    obtain ⟨hsnd, hform⟩ := rd_form (unhide HBB) hT
    rw [hT] at HRD
    have hsz := hsnd.size_le
    rw [hform, unhide HPL] at hsz
    have htS : tSz T = PL := by rw [← tblF_len, hform, unhide HPL]
    have htr := hsnd.tok.rev
    have HTS := hide htS
    have HSND := hide hsnd
    have HFORM := hide hform
    obtain ⟨tr, hTR⟩ : ∃ n, T.rev = n := ⟨_, rfl⟩
    rw [hTR] at htr
    have HTR := hide hTR
    have HBY := fun W b (hT : Tab W b T) => hide (bytes_any hT hsnd.tok (by rw [htS]; omega))
    have HSZ := fun W b (hT : Tab W b T) => hide (size_any hT hsnd.tok.ok (by rw [hTR]; exact htr))
    rw [htS] at HSZ
    have HRV := fun W b (hT : Tab W b T) => hide (trev_any hT)
    rw [hTR] at HRV
    have HRW := fun W b (hT : Tab W b T) => hide (rows_any hT hsnd.tok (by omega))
    have hfl : (tblF T).length = PL := by rw [hform, unhide HPL]
    rw [hfl] at HBY
    clear hsnd hform hT hTR htS hfl
    go_enter Try.func6, Try.ntmps6
    go_wp2_with (first
      | (go_at_call 7; refine (unhide HAW).mono ?_; rintro e w1 ⟨rfl, hk1⟩; have HK1 := hide hk1; clear hk1)
      | (go_at_call 22; refine (unhide (HRD _ (unhide HK1))).mono ?_; rintro e w2 ⟨hk2, ho2⟩
         have he2 : ∃ b, e = .returned (.tuple #[.pointer (some ⟨b, 0, none⟩), .int .i64 0]) ∧ Tab w2 b T := by
           rcases ho2 with ⟨h4, -⟩ | ⟨T', b, h4, h5, h6, -⟩
           · cases h4
           · cases h4; exact ⟨b, h5, h6⟩
         obtain ⟨b, rfl, ht2⟩ := he2
         have HT2 := hide ht2
         have HK2 := hide ((unhide HK1).step hk2)
         clear hk2 ho2 ht2)
      | (go_at_call 18; refine (unhide (HRW _ _ (unhide HT2))).mono ?_; rintro e w5 ⟨v, l, rfl, hl1, hl2, hl3, hk5⟩
         obtain ⟨la, lc, rfl⟩ := own_len hl2
         have HL1 := hide hl1
         have HL2 := hide hl2
         have HL3 := hide hl3
         have HT5 := hide ((unhide HT2).kept hk5)
         have HK5 := hide ((unhide HK2).step hk5)
         clear HRW hl1 hl2 hl3 hk5)
      | fail)
    obtain ⟨N, hN⟩ : ∃ N, l.length = N := ⟨_, rfl⟩
    rw [hN] at HL2 ⊢
    have hN20 : N ≤ 1048576 := by rw [← hN, ← List.length_map (f := fun r : Re => r.e), unhide HL1, Tr.list_length]; omega
    have HN2 := hide hN
    clear hN hsz
    go_loopw [6] (fun i X => ∃ (k : Nat), k ≤ N ∧ i = .int .i64 (k : Int) ∧ Kept [] w5 X) (fun i _ => N - (intOf i).toNat)
    case atStart => exact ⟨0, by omega, rfl, Kept.refl _ _⟩
    case round =>
      obtain ⟨k, hkN, rfl, hkX⟩ := hrel
      have HKX := hide hkX
      by_cases hk : k < N
      · have t1 : ((k : Int) < (N : Int)) = True := by simp [hk]
        obtain ⟨x, hx⟩ : ∃ x, l[k]? = some x := ⟨l[k]'(by rw [unhide HN2]; exact hk), List.getElem?_eq_getElem _⟩
        have hxm := List.mem_of_getElem? hx
        obtain ⟨g, hg, s0, s1, s2⟩ := rrow_at (own_kept (unhide HL2) hkX (by simp)) hx
        cases hg
        have sk := ((unhide HL3) x hxm).1.1.kept hkX (by simp)
        have sv := ((unhide HL3) x hxm).2.1.kept hkX (by simp)
        obtain ⟨ka, kc, hka⟩ := sees_len sk
        obtain ⟨va, vc, hva⟩ := sees_len sv
        rw [hka] at s0 sk
        rw [hva] at s1
        have hxe : x.e ∈ T.t.list := by rw [← unhide HL1]; exact List.mem_map.2 ⟨x, hxm, rfl⟩
        obtain ⟨r1, r2, r3, r4, r5⟩ := (unhide HSND).row hxe
        rw [unhide HTR] at r5
        obtain ⟨n1, hn1⟩ : ∃ n, (byts x.e.1).length = n := ⟨_, rfl⟩
        obtain ⟨n2, hn2⟩ : ∃ n, (byts x.e.2.1).length = n := ⟨_, rfl⟩
        obtain ⟨ar, har⟩ : ∃ n, x.e.2.2 = n := ⟨_, rfl⟩
        rw [hn1] at s0 sk
        rw [hn2] at s1
        rw [har] at s2 r4 r5
        have q1 : 1 ≤ n1 := by rw [← hn1, byts_len]; exact r1
        have q2 : n1 ≤ 64 := by rw [← hn1, byts_len]; exact r2
        have q3 : n2 ≤ 256 := by rw [← hn2, byts_len]; exact r3
        have SK := hide sk
        have HX := hide hx
        have HAR := hide har
        have HN1 := hide hn1
        clear r1 r2 r3 sk sv hka hva hx hxm hxe hn1 hn2 har hkX
        have hka := (Kept.refl [] wr).alloc (.cells #[.slice ka n1 kc, .slice va n2 vc, .int .i64 ar] 44)
        have HBX := hide (Blk.new wr #[.slice ka n1 kc, .slice va n2 vc, .int .i64 ar] 44)
        go_wp2_with fail
        obtain ⟨n7, hn7⟩ : ∃ n, wr.heap.size = n := ⟨_, rfl⟩
        rw [hn7] at HBX ⊢
        obtain ⟨W, hW⟩ : ∃ W, wr.alloc (.cells #[.slice ka n1 kc, .slice va n2 vc, .int .i64 ar] 44) = W := ⟨_, rfl⟩
        rw [hW] at HBX hka ⊢
        have HKW := hide ((unhide HKX).step hka)
        have SKW := hide ((unhide SK).kept hka (by simp))
        clear hn7 hW s0 s1 s2 SK HKX hka
        obtain ⟨b0, b1, b2⟩ := box3 (unhide HBX)
        have t2 : ((n1 : Int) < 1) = False := by simp; omega
        have t3 : ((64 : Int) < (n1 : Int)) = False := by simp; omega
        have t4 : ((256 : Int) < (n2 : Int)) = False := by simp; omega
        have t5 : (ar < 1) = False := by simp; omega
        have t6 : ((tr : Int) < ar) = False := by simp; omega
        have u2 : (n1 = 0) = False := by simp; omega
        have u3 : (64 < n1) = False := by simp; omega
        have u4 : (256 < n2) = False := by simp; omega
        have HRVW := fun W' (hk : Kept [] W W') => hide (HRV W' b ((unhide HT5).kept ((unhide HKW).step hk)))
        go_upto_region 11 with fail
        go_cut [83] (fun t wc => t = .bool false ∧ Hid (Kept [] W wc))
        case first =>
          rcases Nat.eq_zero_or_pos k with hk0 | hk0
          · subst hk0
            go_quiet (first
              | (go_at_call 13; exact Calls.quiet_of_same (unhide (HRVW _ ((Kept.refl [] W).drewN _)))))
            go_wp2_with fail
            go_meet
            exact ⟨rfl, (Kept.refl [] W).drewN _⟩
          · obtain ⟨m, rfl⟩ : ∃ m, k = m + 1 := ⟨k - 1, by omega⟩
            have hwrap : IntKind.i64.wrap ((m : Int) + 1 - 1) = (m : Int) := by rw [IntKind.wrap_i64]; omega
            have v1 : (0 : Int) ≤ (m : Int) := by omega
            have v2 : (m : Int) < (N : Int) := by omega
            have v3 : IntKind.i64.wrap (m : Int) = (m : Int) := by rw [IntKind.wrap_i64]; omega
            have v4 : ((0 : Int) < (m : Int) + 1) = True := by simp only [eq_iff_iff, iff_true]; omega
            have v5 : (0 < m + 1) = True := by simp
            obtain ⟨y, hy⟩ : ∃ y, l[m]? = some y := ⟨l[m]'(by rw [unhide HN2]; omega), List.getElem?_eq_getElem _⟩
            have hym := List.mem_of_getElem? hy
            obtain ⟨g', hg', d0, -, -⟩ := rrow_at (own_kept (unhide HL2) (unhide HKW) (by simp)) hy
            cases hg'
            have sy := ((unhide HL3) y hym).1.1.kept (unhide HKW) (by simp)
            obtain ⟨ya, yc, hya⟩ := sees_len sy
            rw [hya] at d0 sy
            have hord : Op.bytesLess y.e.1.data.toList x.e.1.data.toList = true := by
              have hr := (unhide HSND).tok.ok.rise
              rw [← unhide HL1] at hr
              have hx := unhide HX
              have := List.pairwise_iff_getElem.1 hr m (m + 1) (by rw [List.length_map, unhide HN2]; omega) (by rw [List.length_map, unhide HN2]; omega) (by omega)
              rw [List.getElem_map, List.getElem_map] at this
              have h1 : l[m]'(by rw [unhide HN2]; omega) = y := by rw [List.getElem?_eq_getElem (by rw [unhide HN2]; omega)] at hy; exact Option.some.inj hy
              have h2 : l[m + 1]'(by rw [unhide HN2]; omega) = x := by rw [List.getElem?_eq_getElem (by rw [unhide HN2]; omega)] at hx; exact Option.some.inj hx
              rw [h1, h2] at this
              have h3 : KOrd.lt y.e.1 x.e.1 = true := this
              rw [klt_str, ByteArray.toList_eq, ByteArray.toList_eq] at h3
              exact h3
            have hz : ∀ z, z ∈ l → z.e.1.data.toList.length ≤ 140737488355328 := fun z hz => by
              have hm2 : z.e ∈ T.t.list := by rw [← unhide HL1]; exact List.mem_map.2 ⟨z, hz, rfl⟩
              have h1 := ((unhide HSND).row hm2).2.1
              have h2 : z.e.1.data.toList.length = z.e.1.size := by rw [Array.length_toList]; rfl
              omega
            have hz1 := hz y hym
            have hz2 := hz x (List.mem_of_getElem? (unhide HX))
            have HCM : ∀ n, Hid (Calls Try.prog 20 #[.slice ya (byts y.e.1).length yc, .slice ka n1 kc] (W.drewN n) fun e w' => e = .returned (.bool true) ∧ ∃ m, w' = (W.drewN n).drewN m) := fun n => by
              have h1 := (unhide SKW).kept ((Kept.refl [] W).drewN n) (by simp)
              have h2 := sy.kept ((Kept.refl [] W).drewN n) (by simp)
              have h3 := comes_q (x := y.e.1.data.toList) (y := x.e.1.data.toList) (Or.inl h2) (Or.inl h1) hord hz1 hz2
              exact h3
            obtain ⟨n3, hn3⟩ : ∃ n, (byts y.e.1).length = n := ⟨_, rfl⟩
            rw [hn3] at d0 HCM
            clear hy hym sy hya hord hz hz1 hz2 hn3 hk0
            go_quiet (first
              | (go_at_call 13; exact Calls.quiet_of_same (unhide (HRVW _ ((Kept.refl [] W).drewN _))))
              | (go_at_call 20; exact Calls.quiet_of (unhide (HCM _))))
            go_wp2_with fail
            go_meet
            exact ⟨rfl, (Kept.refl [] W).drewN _⟩
        case rest =>
        obtain ⟨rfl, HKC⟩ := hcut
        have HBC := hide ((unhide HBX).kept (unhide HKC) (by simp))
        have HKWC := hide ((unhide HKW).step (unhide HKC))
        clear b0 b1 b2 HRVW
        go_wp2_with fail
        go_loopw [8] (fun i X => ∃ (j : Nat), j ≤ k ∧ i = .int .i64 (j : Int) ∧ Kept [] wc X) (fun i _ => k - (intOf i).toNat)
        case atStart => exact ⟨0, by omega, rfl, Kept.refl _ _⟩
        case round =>
          obtain ⟨j, hjk, rfl, hkY⟩ := hrel
          have HKY := hide hkY
          by_cases hj : j < k
          · have t7 : ((j : Int) < (k : Int)) = True := by simp [hj]
            have t8 : (j : Int) < (N : Int) := by omega
            obtain ⟨y, hy⟩ : ∃ y, l[j]? = some y := ⟨l[j]'(by rw [unhide HN2]; omega), List.getElem?_eq_getElem _⟩
            obtain ⟨g', hg', -, -, d2⟩ := rrow_at (own_kept (unhide HL2) ((unhide HKWC).step hkY) (by simp)) hy
            cases hg'
            obtain ⟨-, -, b2⟩ := box3 ((unhide HBC).kept hkY (by simp))
            have hne : y.e.2.2 ≠ ar := fun he => by
              have hnd := (unhide HSND).nd
              rw [← unhide HL1, List.map_map] at hnd
              have hx := unhide HX
              have := List.pairwise_iff_getElem.1 hnd j k (by rw [List.length_map, unhide HN2]; omega) (by rw [List.length_map, unhide HN2]; omega) hj
              rw [List.getElem_map, List.getElem_map] at this
              have h1 : l[j]'(by rw [unhide HN2]; omega) = y := by rw [List.getElem?_eq_getElem (by rw [unhide HN2]; omega)] at hy; exact Option.some.inj hy
              have h2 : l[k]'(by rw [unhide HN2]; omega) = x := by rw [List.getElem?_eq_getElem (by rw [unhide HN2]; omega)] at hx; exact Option.some.inj hx
              rw [h1, h2] at this
              simp only [Function.comp] at this
              rw [he, unhide HAR] at this
              exact this rfl
            obtain ⟨yr, hyr⟩ : ∃ n, y.e.2.2 = n := ⟨_, rfl⟩
            rw [hyr] at d2 hne
            have t9 : (yr == ar) = false := by simpa using hne
            clear hy hyr hne hkY
            go_wp2_with fail
            go_quiet (fail)
            go_wp2_with fail
            refine ⟨⟨j + 1, by omega, by simp, (unhide HKY).step ((Kept.refl [] wr).drewN _)⟩, by simp [intOf]; omega⟩
          · obtain rfl : j = k := by omega
            have t7 : ((j : Int) < (j : Int)) = False := by simp
            go_wp2_with fail
            refine ⟨⟨j + 1, by omega, by simp, (unhide HKWC).step (unhide HKY)⟩, by simp [intOf]; omega⟩
      · obtain rfl : k = N := by omega
        have t1 : ((k : Int) < (k : Int)) = False := by simp
        have t2 : ((tr : Int) ≤ 1099511627776) = True := by simp; omega
        have u2 : (tr ≤ 1099511627776) = True := by simp; omega
        have HSM := fun W v (hk : Kept [] w W) (hv : Sees W v (tblF T)) => hide (same_full (Or.inl hv) ((unhide HW).kept hk) (by rw [unhide HFORM, unhide HPL]; omega))
        have hdd : decide (tblF T = ps) = true := by rw [unhide HFORM]; simp
        rw [hdd] at HSM
        clear hdd
        go_wp2_with (first
          | (go_at_call 21; refine (unhide (HBY _ _ ((unhide HT5).kept (unhide HKX)))).mono ?_; rintro e w6 ⟨ba, bc, rfl, hown, hk6⟩
             have HS6 := hide (Sees.of_own (bs := tblF T) (by rw [unhide HFORM, unhide HPL]; rw [unhide HFORM] at hown; exact hown))
             have HK6 := hide ((unhide HKX).step hk6)
             clear hown hk6)
          | (go_at_call 17; refine (unhide (HSM _ _ ((unhide HK5).step (unhide HK6)) (unhide HS6))).mono ?_; rintro e w7 ⟨rfl, hk7⟩; have HK7 := hide ((unhide HK6).step hk7); clear hk7)
          | (go_at_call 23; refine (unhide (HSZ _ _ ((unhide HT5).kept (unhide HK7)))).mono ?_; rintro e w8 ⟨rfl, hk8⟩; have HK8 := hide ((unhide HK7).step hk8); clear hk8)
          | (go_at_call 13; refine (unhide (HRV _ _ ((unhide HT5).kept (unhide HK8)))).mono ?_; rintro e w9 ⟨rfl, hq⟩; have hq2 := hq.symm; subst hq2)
          | fail)
        go_ret
        exact ⟨rfl, (unhide HK5).step (unhide HK8)⟩
end Go.Proofs.Ytkejpbfbpomjfaa.tre
