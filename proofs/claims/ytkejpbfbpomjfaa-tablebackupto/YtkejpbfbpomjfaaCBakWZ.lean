/- TableBack: the walk. -/
import Derived.Test.YtkejpbfbpomjfaaCRdRZ
import Derived.Test.YtkejpbfbpomjfaaCBakPZ
import Derived.Test.YtkejpbfbpomjfaaCAftZ
import Derived.Test.YtkejpbfbpomjfaaCTw8Z
import Derived.Test.YtkejpbfbpomjfaaCPlcCZ
namespace Go.Proofs.Ytkejpbfbpomjfaa.tre
open Go.RowKit
set_option linter.unusedVariables false

/-- two tables in two places -/
structure BkS (w X : World) (b1 b2 : Nat) (T U : Tb) : Prop where
  t : Tab X b1 T
  u : Tab X b2 U
  ne : b1 ≠ b2
  kp : Kept [] w X
  l1 : w.heap.size ≤ b1
  l2 : w.heap.size ≤ b2
theorem BkS.kept {w X Y : World} {b1 b2 : Nat} {T U : Tb} (h : BkS w X b1 b2 T U) (hk : Kept [] X Y) : BkS w Y b1 b2 T U := ⟨h.t.kept hk, h.u.kept hk, h.ne, h.kp.step hk, h.l1, h.l2⟩
theorem BkS.d1 {w X Y : World} {b1 b2 : Nat} {T U T' : Tb} (h : BkS w X b1 b2 T U) (hk : Kept [b1] X Y) (ht : Tab Y b1 T') : BkS w Y b1 b2 T' U := ⟨ht, h.u.keep hk (by simpa using h.ne.symm) h.t.off, h.ne, h.kp.trans hk (by simp; exact h.l1), h.l1, h.l2⟩
theorem BkS.d2 {w X Y : World} {b1 b2 : Nat} {T U U' : Tb} (h : BkS w X b1 b2 T U) (hk : Kept [b2] X Y) (ht : Tab Y b2 U') : BkS w Y b1 b2 T U' := ⟨h.t.keep hk (by simpa using h.ne) h.u.off, ht, h.ne, h.kp.trans hk (by simp; exact h.l2), h.l1, h.l2⟩
theorem sees_take {w : World} {b off n cap : Nat} {bs : List Nat} (h : Sees w (.slice (some ⟨b, off, none⟩) n cap) bs) {k : Nat} (hk : k ≤ n) : Sees w (.slice (some ⟨b, off, none⟩) k cap) (bs.take k) := by
  rcases h with ⟨h, -⟩ | ⟨b', off', cap', h, h1, h2, h3, h4⟩
  · cases h
  · cases h
    have hl : (bs.take k).length = k := by rw [List.length_take]; omega
    refine Or.inr ⟨b, off, cap, by rw [hl], by omega, h2, h3, fun j hj => ?_⟩
    rw [hl] at hj
    rw [h4 j (by omega), List.getD_eq_getElem?_getD, List.getD_eq_getElem?_getD, List.getElem?_take_of_lt hj]
theorem sees_n {w : World} {base : Nat} {a : Option Addr} {n cap : Nat} {bs : List Nat} (hn : bs.length = n) (h : w.ownsRow base 5 1 (.slice a n cap) n (u8s bs)) : Sees w (.slice a n cap) bs := by
  subst hn
  exact Sees.of_own h
theorem size_tok {T : Tb} (h : Tok T) (hr : T.rev ≤ 2097152) : tSz T ≤ 900000000000 := size_le_tok h hr
theorem akey_le2 {T : Tb} (h : Tok T) {o : Opm} : (akey T o).length ≤ 140737488355328 := by
  unfold akey
  cases hf : fnd T o with
  | none => simp
  | some e =>
    have := (h.ok.rows e (fnd_mem h.ok.rise hf)).1
    simp only [Option.isSome_some, if_true, fk, Option.getD_some, byts_len]
    omega
theorem aval_le2 {T : Tb} (h : Tok T) {o : Opm} : (aval T o).length ≤ 140737488355328 := by
  unfold aval
  cases hf : fnd T o with
  | none => simp
  | some e =>
    have := (h.ok.rows e (fnd_mem h.ok.rise hf)).2.1
    simp only [Option.isSome_some, if_true, fv, Option.getD_some, byts_len]
    omega
theorem sameAnswer_n {w : World} {k1 v1 k2 v2 : Value} {a c : List Nat} {n m : Nat} (d : Bool) (r t : Int) (hn : a.length = n) (hm : c.length = m) (h1 : Wide w k1 a) (h2 : Wide w v1 c) (h3 : Wide w k2 a) (h4 : Wide w v2 c) (la : a.length ≤ 140737488355328) (lc : c.length ≤ 140737488355328) :
    Calls Try.prog 11 #[.agg #[.bool d, k1, v1, .int .i64 r, .int .i64 t], .agg #[.bool d, k2, v2, .int .i64 r, .int .i64 t]] w fun e w' => e = .returned (.bool true) ∧ Kept [] w w' := sameAnswer_yes d r t h1 h2 h3 h4 la lc
theorem Do_no2 {w : World} {b : Nat} {T V : Tb} (h : Tab w b V) (ha : Alk T V) {o : Opm} {ks vs : Value} (ho : OpAt w o ks vs) (hr : rfs T o ≠ 0) :
    Calls Try.prog 9 #[.pointer (some ⟨b, 0, none⟩), opv o ks vs] w fun e w' => e = .returned (.tuple #[.agg #[.bool false, .slice none 0 0, .slice none 0 0, .int .i64 0, .int .i64 0], .int .i64 (rfs T o)]) ∧ Kept [] w w' := by
  have h1 := Do_no h ho (by rw [ha.rfs]; exact hr)
  rw [ha.rfs] at h1
  exact h1
theorem Alk.refl {T : Tb} (h : Snd T) : Alk T T := ⟨h, h, rfl, rfl⟩
theorem Do_both {w : World} {b : Nat} {T V : Tb} (h : Tab w b V) (ha : Alk T V) {o : Opm} {ks vs : Value} (ho : OpAt w o ks vs) (hkb : Free b ks) (hvb : Free b vs) (hr : rfs T o = 0) :
    Calls Try.prog 9 #[.pointer (some ⟨b, 0, none⟩), opv o ks vs] w fun e w' => ∃ ka kc va vc, e = .returned (.tuple #[.agg #[.bool (dn T o), .slice ka (akey T o).length kc, .slice va (aval T o).length vc, .int .i64 (arev T o), .int .i64 (rvn T o : Int)], .int .i64 0]) ∧ NewS w (.slice ka (akey T o).length kc) (akey T o) w' ∧ NewS w (.slice va (aval T o).length vc) (aval T o) w' ∧ Tab w' b (nxt V o) ∧ Kept [b] w w' := by
  refine (Do_yes h ha.u.tok ho hkb hvb (by rw [ha.rfs]; exact hr)).mono ?_
  rintro e w' ⟨ka, kn, kc, va, vn, vc, rfl, hA⟩
  have h1 : NewS w (.slice ka kn kc) (akey V o) w' := hA.k
  have h2 : NewS w (.slice va vn vc) (aval V o) w' := hA.v
  rw [ha.akey] at h1
  rw [ha.aval] at h2
  obtain ⟨q1, q2, q3⟩ := sees_len h1.1
  obtain ⟨r1, r2, r3⟩ := sees_len h2.1
  simp only [Value.slice.injEq] at q3 r3
  obtain ⟨-, rfl, -⟩ := q3
  obtain ⟨-, rfl, -⟩ := r3
  have har : (if (fnd V o).isSome = true then (fv (fnd V o)).2 else 0) = arev T o := ha.arev o
  rw [har, ha.dn, ha.rvn]
  exact ⟨ka, kc, va, vc, rfl, h1, h2, hA.t, hA.kp⟩
set_option maxRecDepth 100000 in
set_option maxHeartbeats 8000000 in
theorem back_any {w : World} {av mv : Value} {ops more : List Opm} {x : Nat} (ha : OpsIn w av ops) (hm : OpsIn w mv more) (hlen : ops.length + more.length ≤ 1048576) (hx : x < 256) :
    Calls Try.prog 5 #[av, mv, .int .u8 (x : Int)] w fun e w' => e = .returned (.bool true) ∧ Kept [] w w' := by
  have HAW := hide (awake_any w)
  have HMD := fun W (hq : Kept [] w W) => hide (made_any ha hq)
  have hsnd := mkT_snd ops
  have hrev := mkT_rev ops
  obtain ⟨aa, ac, rfl, -, -⟩ := ha
  obtain ⟨ma, mc, rfl, -, hall⟩ := hm
  have HALL := hide hall
  clear hall
  generalize mkT ops = T at *
  obtain ⟨L, hL⟩ : ∃ L, ops.length = L := ⟨_, rfl⟩
  obtain ⟨ML, hML⟩ : ∃ L, more.length = L := ⟨_, rfl⟩
  rw [hL] at hlen hrev HMD ⊢
  rw [hML] at hlen ⊢
  have HML := hide hML
  clear hL hML
  obtain ⟨U, hU, hUl, hUr⟩ := rd_there hsnd
  have hal : Alk T U := ⟨hsnd, (rd_form (tblF_lt T) hU).1, hUl, hUr⟩
  obtain ⟨PL, hPL⟩ : ∃ n, (tblF T).length = n := ⟨_, rfl⟩
  have htz : tSz T = PL := by rw [← tblF_len, hPL]
  have hPLb : PL ≤ 900000000000 := by rw [← htz]; exact size_tok hsnd.tok (by omega)
  have hPL1 : 1 ≤ PL := by rw [← htz]; unfold tSz; have := form_pos T.rev; omega
  have HBY := fun W b (hT : Tab W b T) => hide (bytes_any hT hsnd.tok (by rw [htz]; omega))
  rw [hPL] at HBY
  have HSZ := fun W b (hT : Tab W b T) => hide (size_any hT hsnd.tok.ok hsnd.tok.rev)
  rw [htz] at HSZ
  have HSU := fun W b (hT : Tab W b U) => hide (size_any hT hal.u.tok.ok hal.u.tok.rev)
  rw [hal.tsz, htz] at HSU
  have HAL := hide hal
  have HU := hide hU
  have HPL := hide hPL
  clear hal hU hUl hUr hPL htz hsnd
  go_enter Try.func5, Try.ntmps5
  go_wp2_with (first
    | (go_at_call 7; refine (unhide HAW).mono ?_; rintro e w1 ⟨rfl, hk1⟩; have HK1 := hide hk1; clear hk1)
    | (go_at_call 16; refine (unhide (HMD _ (unhide HK1))).mono ?_; rintro e w2 ⟨b1, rfl, ht2, hb2, hk2⟩
       have HT2 := hide ht2
       have HB2 : Hid (w.heap.size ≤ b1) := Nat.le_trans (unhide HK1).size hb2
       have HK2 := hide ((unhide HK1).step hk2)
       clear ht2 hb2 hk2 HMD)
    | (go_at_call 21; refine (unhide (HBY _ _ (unhide HT2))).mono ?_; rintro e w3 ⟨pa, pc, rfl, hown, hk3⟩
       have HO3 := hide hown
       have HT3 := hide ((unhide HT2).kept hk3)
       have HK3 := hide ((unhide HK2).step hk3)
       have HS3 : Hid (Sees w3 (.slice pa PL pc) (tblF T)) := hide (sees_n (unhide HPL) hown)
       clear hown hk3 HBY)
    | (go_at_call 22; refine (tread_any (Or.inl (unhide HS3)) (by rw [unhide HPL]; omega) (tblF_lt T)).mono ?_; rw [unhide HU]; rintro e w4 ⟨hk4, ho4⟩
       have h4 : ∃ b2, e = .returned (.tuple #[.pointer (some ⟨b2, 0, none⟩), .int .i64 0]) ∧ Tab w4 b2 U ∧ w3.heap.size ≤ b2 := by
         rcases ho4 with ⟨h4, -⟩ | ⟨T', b, h4, h5, h6, h7⟩
         · cases h4
         · cases h4; exact ⟨b, h5, h6, h7⟩
       obtain ⟨b2, rfl, ht4, hb4⟩ := h4
       have hl1 : b1 < w3.heap.size := by obtain ⟨q0, hbb, -⟩ := unhide HT3; exact hbb.lt
       have HBS := hide (BkS.mk (w := w) ((unhide HT3).kept hk4) ht4 (show b1 ≠ b2 by omega) ((unhide HK3).step hk4) (unhide HB2) (Nat.le_trans (unhide HK3).size hb4))
       have HS4 := hide ((unhide HS3).kept hk4 (by simp))
       clear hk4 ho4 ht4 hb4 hl1)
    | (go_at_call 23; refine (unhide (HSZ _ _ (unhide HBS).t)).mono ?_; rintro e w5 ⟨rfl, hk5⟩
       have HBS5 := hide ((unhide HBS).kept hk5)
       have HS5 := hide ((unhide HS4).kept hk5 (by simp))
       clear hk5 HSZ)
    | (go_at_call 23; refine (unhide (HSU _ _ (unhide HBS5).u)).mono ?_; rintro e w6 ⟨rfl, hk6⟩
       have HBS6 := hide ((unhide HBS5).kept hk6)
       have HS6 := hide ((unhide HS5).kept hk6 (by simp))
       clear hk6 HSU)
    | fail)
  obtain ⟨⟨g, hg⟩, hcap⟩ : (∃ g, pa = some ⟨g, 0, none⟩) ∧ PL ≤ pc := by
    rcases (unhide HO3).2 with ⟨e1, h0⟩ | ⟨g, cap, cur, e1, h1, h2, h3, -⟩
    · omega
    · cases e1; exact ⟨⟨g, rfl⟩, h3⟩
  subst hg
  have HCUT : ∀ W k, Kept [] w6 W → k < PL → Hid (Calls Try.prog 22 #[.slice (some ⟨g, 0, none⟩) k pc] W (RdOut W none)) := fun W k hW hk => by
    have h1 := tread_any (Or.inl (sees_take ((unhide HS6).kept hW (by simp)) (k := k) (by omega))) (by rw [List.length_take, unhide HPL]; omega) (fun y hy => tblF_lt T y (List.mem_of_mem_take hy))
    rw [rd_cut (unhide HAL).t (by rw [unhide HPL]; exact hk)] at h1
    exact hide h1
  go_loopw [11] (fun i X => ∃ (k : Nat), k ≤ PL ∧ k ≤ 40 ∧ i = .int .i64 (k : Int) ∧ Kept [] w6 X) (fun i _ => 40 - (intOf i).toNat)
  case atStart => exact ⟨0, by omega, by omega, rfl, Kept.refl _ _⟩
  case round =>
    obtain ⟨k, hk1, hk2, rfl, hkX⟩ := hrel
    have HKX := hide hkX
    clear hkX
    by_cases hc : k < PL ∧ k < 40
    · obtain ⟨hc1, hc2⟩ := hc
      have t1 : ((k : Int) < (PL : Int)) = True := by simp [hc1]
      have t2 : ((k : Int) < 40) = True := by simp; omega
      have u2 : (k < 40) = True := by simp; omega
      have v1 : (0 : Int) ≤ (k : Int) := by omega
      have v2 : (k : Int) ≤ (pc : Int) := by omega
      go_wp2_with (first
        | (go_at_call 22; refine (unhide (HCUT _ k (unhide HKX) hc1)).mono ?_; rintro e w7 ⟨hk7, ho7⟩
           have he7 : e = .returned (.tuple #[.pointer none, .int .i64 130]) := by
             rcases ho7 with ⟨-, h4⟩ | ⟨T, b, h4, -⟩
             · exact h4
             · cases h4
           subst he7
           have HK7 := hide hk7
           clear hk7 ho7)
        | fail)
      refine ⟨⟨k + 1, by omega, by omega, by simp, (unhide HKX).step (unhide HK7)⟩, by simp [intOf]; omega⟩
    · go_upto_region 9 with fail
      go_cut [61] (fun t wc => t = .bool false ∧ Hid (wc = wr))
      case first =>
        by_cases h : k < PL
        · have t1 : ((k : Int) < (PL : Int)) = True := by simp [h]
          obtain rfl : k = 40 := by omega
          go_wp2_with fail
          go_meet
          exact ⟨rfl, rfl⟩
        · have t1 : ((k : Int) < (PL : Int)) = False := by simp; omega
          go_wp2_with fail
          go_meet
          exact ⟨rfl, rfl⟩
      case rest =>
      obtain ⟨rfl, HWC⟩ := hcut
      obtain rfl : wc = wr := unhide HWC
      clear HWC hc
      have HBS7 := hide ((unhide HBS6).kept (unhide HKX))
      have HS7 := hide ((unhide HS6).kept (unhide HKX) (by simp))
      have HRX : ∀ W v, Sees W v (tblF T ++ [x]) → Hid (Calls Try.prog 22 #[v] W (RdOut W none)) := fun W v hv => by
        have h1 := tread_any (Or.inl hv) (by rw [List.length_append, unhide HPL]; simp; omega) (fun y hy => by
          rcases List.mem_append.1 hy with hy | hy
          · exact tblF_lt T y hy
          · simp at hy; subst hy; exact hx)
        rw [rd_back (unhide HAL).t [x] (by simp; exact hx), if_neg (by simp)] at h1
        exact hide h1
      go_wp2_with (first
        | (at_builtin; refine wpList_twin8 rfl (.tmp 78) (.tmp 79) rfl rfl _ _ rfl (unhide HS7) PL (unhide HPL) (by omega) ?_
           intro a7 c7 w7 ho7 hk7
           have HO7 := hide ho7
           have HK7 := hide hk7
           have hz7 := hk7.size
           clear ho7 hk7)
        | (at_builtin; refine wpList_more8 rfl (.tmp 80) (.tmp 82) rfl PL (tblF T) rfl (unhide HPL) HO7 x rfl (by omega) hz7 ?_
           intro a8 c8 w8 ho8 hk8
           have HS8 := hide (sees_n (bs := tblF T ++ [x]) (by rw [List.length_append, unhide HPL]; rfl) ho8)
           have HK8 := hide (hk8 _ (unhide HK7) (Nat.le_refl _))
           clear ho8 hk8)
        | (go_at_call 22; refine (unhide (HRX _ _ (unhide HS8))).mono ?_; rintro e w9 ⟨hk9, ho9⟩
           have he9 : e = .returned (.tuple #[.pointer none, .int .i64 130]) := by
             rcases ho9 with ⟨-, h4⟩ | ⟨T, b, h4, -⟩
             · exact h4
             · cases h4
           subst he9
           have HBS9 := hide (((unhide HBS7).kept (unhide HK8)).kept hk9)
           clear hk9 ho9)
        | fail)
      clear HRX HS7 HS6 HCUT HO3 HS3 HS4 HS5 HBS7
      go_loopw [16] (fun i X => ∃ (k : Nat) (T' U' : Tb), k ≤ ML ∧ i = .int .i64 (k : Int) ∧ Hid (BkS w X b1 b2 T' U') ∧ Hid (Alk T' U') ∧ T'.rev ≤ L + k) (fun i _ => ML - (intOf i).toNat)
      case atStart => exact ⟨0, T, U, by omega, rfl, HBS9, HAL, by omega⟩
      case round =>
        obtain ⟨k, T', U', hk, rfl, HB, HA, hrv⟩ := hrel
        by_cases hlt : k < ML
        · have t1 : ((k : Int) < (ML : Int)) = True := by simp [hlt]
          have hko : k < more.length := by rw [unhide HML]; exact hlt
          obtain ⟨o, ho⟩ : ∃ o, more[k]? = some o := ⟨more[k], List.getElem?_eq_getElem hko⟩
          obtain ⟨sb, off, ks, vs, hsa, hsb, hrg, hoa, hlk, hlv⟩ := unhide HALL k o ho
          subst hsa
          have HC : ∀ W, Kept [] w W → Hid (W.cell? ⟨sb, off + k * 4, none⟩ = some (.int .i64 o.kind) ∧ W.cell? ⟨sb, off + k * 4 + 1, none⟩ = some ks ∧ W.cell? ⟨sb, off + k * 4 + 2, none⟩ = some vs ∧ W.cell? ⟨sb, off + k * 4 + 3, none⟩ = some (.int .i64 o.rev)) := fun W hW => by
            have cc : ∀ (j : Nat) (u : Value), [Value.int .i64 o.kind, ks, vs, .int .i64 o.rev][j]? = some u → W.cell? ⟨sb, off + k * 4 + j, none⟩ = some u := fun j u hj => (hW.cell (p := ⟨sb, off + k * 4 + j, none⟩) hsb (by simp)).trans (hrg j u hj)
            exact ⟨cc 0 _ rfl, cc 1 _ rfl, cc 2 _ rfl, cc 3 _ rfl⟩
          obtain ⟨oka, okc, rfl⟩ := wide_len hoa.k
          obtain ⟨ova, ovc, rfl⟩ := wide_len hoa.v
          obtain ⟨s0, s1, s2, s3⟩ := unhide (HC _ (unhide HB).kp)
          have hkz := (unhide HB).kp.size
          by_cases hr : rfs T' o = 0
          · have HAF := hide (After_yes (unhide HB).t (unhide HA).t.tok (hoa.kept (unhide HB).kp) (fun y hy => hlk.free (by omega)) (fun y hy => hlv.free (by omega)) hr)
            have HDO := fun W b V (ht : Tab W b V) (ha : Alk T' V) (hk : Kept [] w W) (hb : w.heap.size ≤ b) => hide (Do_both ht ha (hoa.kept hk) (hlk.free hb) (hlv.free hb) hr)
            have hN := ((unhide HA).t.nxt hr).tok
            have HSN := fun W b (hT : Tab W b (nxt T' o)) => hide (size_any hT hN.ok hN.rev)
            have hlk1 := akey_le2 (unhide HA).t.tok (o := o)
            have hlv1 := aval_le2 (unhide HA).t.tok (o := o)
            have hnr : (nxt T' o).rev ≤ T'.rev + 1 := by
              show rvn T' o ≤ _
              unfold rvn
              split <;> omega
            have HNA := hide ((unhide HA).nxt hr)
            unfold opv at HAF HDO
            obtain ⟨z, hz⟩ : ∃ n, tSz (nxt T' o) = n := ⟨_, rfl⟩
            rw [hz] at HAF HSN
            obtain ⟨dd, hdd⟩ : ∃ n, dn T' o = n := ⟨_, rfl⟩
            obtain ⟨ar, har⟩ : ∃ n, arev T' o = n := ⟨_, rfl⟩
            obtain ⟨rv, hrvv⟩ : ∃ n, (rvn T' o : Int) = n := ⟨_, rfl⟩
            obtain ⟨AK, hAK⟩ : ∃ n, akey T' o = n := ⟨_, rfl⟩
            obtain ⟨AV, hAV⟩ : ∃ n, aval T' o = n := ⟨_, rfl⟩
            rw [hdd, har, hrvv, hAK, hAV] at HDO
            rw [hAK] at hlk1
            rw [hAV] at hlv1
            obtain ⟨kn, hkn⟩ : ∃ n, AK.length = n := ⟨_, rfl⟩
            obtain ⟨vn, hvn⟩ : ∃ n, AV.length = n := ⟨_, rfl⟩
            rw [hkn, hvn] at HDO
            have HKN := hide hkn
            have HVN := hide hvn
            clear hz hdd har hrvv hAK hAV hkn hvn hN hoa hlk hlv hrg
            go_wp2_with (first
              | (go_at_call 24; refine (unhide HAF).mono ?_; rintro e w4 ⟨rfl, hk4⟩
                 have HB4 := hide ((unhide HB).kept hk4)
                 obtain ⟨y0, y1, y2, y3⟩ := unhide (HC _ (unhide HB4).kp)
                 clear hk4 HAF)
              | (go_at_call 9; refine (unhide (HDO _ _ _ (unhide HB4).t (Alk.refl (unhide HA).t) (unhide HB4).kp (unhide HB4).l1)).mono ?_; rintro e w5 ⟨ka, kc, va, vc, rfl, n1, n2, n3, n4⟩
                 have hkq := (Kept.refl [] w5).alloc (.cells #[.bool dd, .slice ka kn kc, .slice va vn vc, .int .i64 ar, .int .i64 rv] 29)
                 have hb2l : b2 < w4.heap.size := by obtain ⟨q0, hbb, -⟩ := (unhide HB4).u; exact hbb.lt
                 have HB5 := hide (((unhide HB4).d1 n4 n3).kept hkq)
                 have HX5 := hide (Blk.new w5 #[.bool dd, .slice ka kn kc, .slice va vn vc, .int .i64 ar, .int .i64 rv] 29)
                 have HK5 := hide (n1.1.kept hkq (by simp))
                 have HV5 := hide (n2.1.kept hkq (by simp))
                 have HNK : Hid (∀ y, (Value.slice ka kn kc).ownBlock = some y → y ≠ b2) := fun y hy => by have := n1.2 y hy; omega
                 have HNV : Hid (∀ y, (Value.slice va vn vc).ownBlock = some y → y ≠ b2) := fun y hy => by have := n2.2 y hy; omega
                 have hx5 : b2 ≠ w5.heap.size := by have := n4.size; omega
                 have HXB := hide hx5
                 obtain ⟨x0, x1, x2, x3⟩ := unhide (HC _ (unhide HB5).kp)
                 clear n1 n2 n3 n4 hkq hx5 HB4)
              | (go_at_call 9; refine (unhide (HDO _ _ _ (unhide HB5).u (unhide HA) (unhide HB5).kp (unhide HB5).l2)).mono ?_; rintro e w6 ⟨ka2, kc2, va2, vc2, rfl, n1, n2, n3, n4⟩
                 have hkq := (Kept.refl [] w6).alloc (.cells #[.bool dd, .slice ka2 kn kc2, .slice va2 vn vc2, .int .i64 ar, .int .i64 rv] 29)
                 have HB6 := hide (((unhide HB5).d2 n4 n3).kept hkq)
                 have HY6 := hide (Blk.new w6 #[.bool dd, .slice ka2 kn kc2, .slice va2 vn vc2, .int .i64 ar, .int .i64 rv] 29)
                 have HX6 := hide (((unhide HX5).kept n4 (by simpa using (unhide HXB).symm)).kept hkq (by simp))
                 have HK6 := hide (((unhide HK5).kept n4 (fun y hy => by simpa using unhide HNK y hy)).kept hkq (by simp))
                 have HV6 := hide (((unhide HV5).kept n4 (fun y hy => by simpa using unhide HNV y hy)).kept hkq (by simp))
                 have HL6 := hide (n1.1.kept hkq (by simp))
                 have HW6 := hide (n2.1.kept hkq (by simp))
                 obtain ⟨⟨p0, p1, p2, p3, p4⟩, -⟩ := box5 (unhide HX6)
                 obtain ⟨⟨q0, q1, q2, q3, q4⟩, -⟩ := box5 (unhide HY6)
                 clear n1 n2 n3 n4 hkq HDO HB5)
              | (go_at_call 11; refine (sameAnswer_n dd ar rv (unhide HKN) (unhide HVN) (Or.inl (unhide HK6)) (Or.inl (unhide HV6)) (Or.inl (unhide HL6)) (Or.inl (unhide HW6)) hlk1 hlv1).mono ?_; rintro e w7 ⟨rfl, hk7⟩
                 have HB7 := hide ((unhide HB6).kept hk7)
                 clear hk7)
              | (go_at_call 23; refine (unhide (HSN _ _ (unhide HB7).t)).mono ?_; rintro e w8 ⟨rfl, hk8⟩
                 have HB8 := hide ((unhide HB7).kept hk8)
                 clear hk8 HSN)
              | fail)
            refine ⟨⟨k + 1, nxt T' o, nxt U' o, by omega, by simp, HB8, HNA, by omega⟩, by simp [intOf]; omega⟩
          · have HAF := hide (After_no (unhide HB).t (hoa.kept (unhide HB).kp) hr)
            have HDO := fun W b V (ht : Tab W b V) (ha : Alk T' V) (hk : Kept [] w W) => hide (Do_no2 ht ha (hoa.kept hk) hr)
            unfold opv at HAF HDO
            obtain ⟨R, hR⟩ : ∃ n, rfs T' o = n := ⟨_, rfl⟩
            rw [hR] at HAF HDO hr
            have hrb : (R == 0) = false := by simpa using hr
            have hrb2 : (R != 0) = true := by simpa using hr
            have hrb3 : (R = 0) = False := by simpa using hr
            clear hR hoa hlk hlv hrg hr
            have HN0 := fun W => hide (sameAnswer_n (w := W) (a := []) (c := []) false 0 0 rfl rfl (Or.inl (Or.inl ⟨rfl, rfl⟩)) (Or.inl (Or.inl ⟨rfl, rfl⟩)) (Or.inl (Or.inl ⟨rfl, rfl⟩)) (Or.inl (Or.inl ⟨rfl, rfl⟩)) (by simp) (by simp))
            go_wp2_with (first
              | (go_at_call 24; refine (unhide HAF).mono ?_; rintro e w4 ⟨rfl, hk4⟩
                 have HB4 := hide ((unhide HB).kept hk4)
                 obtain ⟨y0, y1, y2, y3⟩ := unhide (HC _ (unhide HB4).kp)
                 clear hk4 HAF)
              | (go_at_call 9; refine (unhide (HDO _ _ _ (unhide HB4).t (Alk.refl (unhide HA).t) (unhide HB4).kp)).mono ?_; rintro e w5 ⟨rfl, hk5⟩
                 have hkq := (Kept.refl [] w5).alloc (.cells #[.bool false, .slice none 0 0, .slice none 0 0, .int .i64 0, .int .i64 0] 29)
                 have HB5 := hide (((unhide HB4).kept hk5).kept hkq)
                 have HX5 := hide (Blk.new w5 #[.bool false, .slice none 0 0, .slice none 0 0, .int .i64 0, .int .i64 0] 29)
                 obtain ⟨x0, x1, x2, x3⟩ := unhide (HC _ (unhide HB5).kp)
                 clear hk5 hkq HB4)
              | (go_at_call 9; refine (unhide (HDO _ _ _ (unhide HB5).u (unhide HA) (unhide HB5).kp)).mono ?_; rintro e w6 ⟨rfl, hk6⟩
                 have hkq := (Kept.refl [] w6).alloc (.cells #[.bool false, .slice none 0 0, .slice none 0 0, .int .i64 0, .int .i64 0] 29)
                 have HB6 := hide (((unhide HB5).kept hk6).kept hkq)
                 have HY6 := hide (Blk.new w6 #[.bool false, .slice none 0 0, .slice none 0 0, .int .i64 0, .int .i64 0] 29)
                 have HX6 := hide (((unhide HX5).kept hk6 (by simp)).kept hkq (by simp))
                 obtain ⟨⟨p0, p1, p2, p3, p4⟩, -⟩ := box5 (unhide HX6)
                 obtain ⟨⟨q0, q1, q2, q3, q4⟩, -⟩ := box5 (unhide HY6)
                 clear hk6 hkq HDO HB5)
              | (go_at_call 11; refine (unhide (HN0 _)).mono ?_; rintro e w7 ⟨rfl, hk7⟩
                 have HB7 := hide ((unhide HB6).kept hk7)
                 clear hk7)
              | fail)
            refine ⟨⟨k + 1, T', U', by omega, by simp, HB7, HA, by omega⟩, by simp [intOf]; omega⟩
        · obtain rfl : k = ML := by omega
          have t1 : ((k : Int) < (k : Int)) = False := by simp
          have hz1 := size_tok (unhide HA).t.tok (by omega)
          have HY1 := fun W b (hT : Tab W b T') => hide (bytes_any hT (unhide HA).t.tok hz1)
          have HY2 := fun W b (hU : Tab W b U') => hide (bytes_any hU (unhide HA).u.tok (by rw [(unhide HA).tsz]; exact hz1))
          rw [(unhide HA).form] at HY2
          obtain ⟨N, hN⟩ : ∃ n, (tblF T').length = n := ⟨_, rfl⟩
          rw [hN] at HY1 HY2
          have hN2 : N ≤ 900000000000 := by rw [← hN, tblF_len]; exact hz1
          have HN := hide hN
          have HSM := fun W p q (hp : Sees W p (tblF T')) (hq : Sees W q (tblF T')) => hide (same_full (Or.inl hp) (Or.inl hq) (by rw [hN]; omega))
          simp only [decide_true] at HSM
          clear hN hz1
          go_wp2_with (first
            | (go_at_call 21; refine (unhide (HY1 _ _ (unhide HB).t)).mono ?_; rintro e w4 ⟨pa4, pc4, rfl, hown, hk4⟩
               have HB4 := hide ((unhide HB).kept hk4)
               have HS4 := hide (sees_n (unhide HN) hown)
               clear hown hk4 HB)
            | (go_at_call 21; refine (unhide (HY2 _ _ (unhide HB4).u)).mono ?_; rintro e w5 ⟨pa5, pc5, rfl, hown, hk5⟩
               have HB5 := hide ((unhide HB4).kept hk5)
               have HS5 := hide (sees_n (unhide HN) hown)
               have HS45 := hide ((unhide HS4).kept hk5 (by simp))
               clear hown hk5 HB4)
            | (go_at_call 17; refine (unhide (HSM _ _ _ (unhide HS45) (unhide HS5))).mono ?_; rintro e w6 ⟨rfl, hk6⟩
               have HK6 := hide ((unhide HB5).kp.step hk6)
               clear hk6)
            | fail)
          go_ret
          exact ⟨rfl, unhide HK6⟩
end Go.Proofs.Ytkejpbfbpomjfaa.tre
