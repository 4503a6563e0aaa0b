/- TableWalk. -/
import Derived.Test.YtkejpbfbpomjfabCWlkPZ
import Derived.Test.YtkejpbfbpomjfabCCopPZ
namespace Go.Proofs.Ytkejpbfbpomjfab.tre
open Go.RowKit

theorem flatR_get : ∀ {l : List Re} {k j : Nat} {e : Re}, l[k]? = some e → j < 3 → (flatR l)[k * 3 + j]? = (rec3 e)[j]?
  | x :: l, 0, j, e, h, hj => by
    simp at h
    subst h
    have hf : flatR (x :: l) = rec3 x ++ flatR l := rfl
    rw [hf, Nat.zero_mul, Nat.zero_add, List.getElem?_append_left (by simp [rec3]; omega)]
  | x :: l, k + 1, j, e, h, hj => by
    have hf : flatR (x :: l) = rec3 x ++ flatR l := rfl
    have hl : (rec3 x).length = 3 := rfl
    rw [hf, List.getElem?_append_right (by rw [hl]; omega), hl, show (k + 1) * 3 + j - 3 = k * 3 + j by omega]
    exact flatR_get (by simpa using h) hj
/-- rows that were answered, as they lie -/
structure Rd (B : Nat) (X : World) (v : Value) (l : List Re) : Prop where
  own : X.ownsRow B 32 3 v l.length (flatR l)
  txt : ∀ r ∈ l, ReP B X r
theorem Rd.kept {B : Nat} {X Y : World} {v : Value} {l : List Re} (h : Rd B X v l) (hk : Kept [] X Y) : Rd B Y v l := ⟨own_kept h.own hk (by simp), fun r hr => ⟨(h.txt r hr).1.kept hk, (h.txt r hr).2.kept hk⟩⟩
theorem Rd.keep {B b : Nat} {X Y : World} {v : Value} {l : List Re} {T : Tb} (h : Rd B X v l) (hk : Kept [b] X Y) (hb : Tab X b T) : Rd B Y v l := by
  obtain ⟨q, hbb, -⟩ := hb
  have hn : ∀ k, v.ownBlock = some k → k ∉ [b] := fun k hv hm => by
    obtain ⟨-, cs, fr, hc⟩ := own_typed h.own hv
    simp at hm
    subst hm
    unfold Blk at hbb
    rw [hbb] at hc
    cases hc
  have hF : ∀ x ∈ [b], ∀ cs fr, X.heap[x]? ≠ some (.cells cs 5 fr) := fun x hx cs fr e => by
    simp at hx
    subst hx
    unfold Blk at hbb
    rw [hbb] at e
    cases e
  exact ⟨own_kept h.own hk hn, fun r hr => ⟨(h.txt r hr).1.keep hk hF, (h.txt r hr).2.keep hk hF⟩⟩
theorem Rd.at {B : Nat} {X : World} {a : Option Addr} {n cap : Nat} {l : List Re} (h : Rd B X (.slice a n cap) l) {k : Nat} {r : Re} (hr : l[k]? = some r) : ∃ g, a = some ⟨g, 0, none⟩ ∧ X.cell? ⟨g, k * 3, none⟩ = some r.ks ∧ X.cell? ⟨g, k * 3 + 1, none⟩ = some r.vs ∧ X.cell? ⟨g, k * 3 + 2, none⟩ = some (.int .i64 r.e.2.2) := by
  have hk : k < l.length := (List.getElem?_eq_some_iff.1 hr).1
  rcases h.own.2 with ⟨e1, h0⟩ | ⟨g, cap', cur, e1, hb, hh, _⟩
  · omega
  · cases e1
    have hc : ∀ j u, j < 3 → (rec3 r)[j]? = some u → X.cell? ⟨g, k * 3 + j, none⟩ = some u := fun j u hj hu => by
      have := h.own.cells (g := g) rfl (k * 3 + j) u (by rw [flatR_get hr hj]; exact hu)
      rw [addN] at this
      simpa using this
    exact ⟨g, rfl, hc 0 _ (by omega) rfl, hc 1 _ (by omega) rfl, hc 2 _ (by omega) rfl⟩
/-- 'append([]byte{}, x...)': a twin in new memory. -/
theorem wpList_twin8 {wx : World} {ops : Array Oper} {rest : List Oper} {o : Oper} {a : Act} {Q : Exit → Act → World → Prop} (hgd : o.guard = none) (s x : Operand)
    (ho : o.op = .call { callee := .builtin .append, args := #[s, x], argTypes := #[22, 22] })
    (hs : a.eval s = .slice (some ⟨wx.heap.size, 0, none⟩) 0 0) (xv : Value) (ys : List Nat) (hxv : a.eval x = xv) (hx : Sees wx xv ys) (L : Nat) (hL : ys.length = L) (hl : L ≤ 1000000000000)
    (h : ∀ a' c' w', w'.ownsRow wx.heap.size 5 1 (.slice a' L c') L (u8s ys) → Kept [] wx w' → wpList Try.prog ops Q rest (a.put o.dst (.slice a' L c')) w') :
    wpList Try.prog ops Q (o :: rest) a (wx.alloc (.cells #[] 5)) := by
  obtain ⟨i0, hi, hz0, hz1, hz2⟩ := info_parts Try.info5
  refine wpList_append_sees (wx.alloc (.cells #[] 5)) hgd s x 22 ho wx.heap.size 5 i0 (.int .u8 0) Try.underlying22 hi hz0 hz1 hz2 rfl _ [] hs (World.ownsRow_made wx #[] 0 (Nat.le_refl _) (Nat.zero_le _) rfl) xv ys hxv (hx.kept ((Kept.refl [] wx).alloc _) (by simp)) (by simp; omega) (by simp) ?_
  intro v' w' hown hg hat
  rw [List.nil_append, hL] at hown
  obtain ⟨a', c', hv⟩ := own_len hown
  subst hv
  exact h a' c' w' hown (((Kept.refl [] wx).alloc _).grown hg (fun k hk => by simp [Value.ownBlock] at hk; right; omega))
/-- a byte more -/
theorem wpList_more8 {B : Nat} {wx : World} {ops : Array Oper} {rest : List Oper} {o : Oper} {a : Act} {Q : Exit → Act → World → Prop} (hgd : o.guard = none) (s x : Operand)
    (ho : o.op = .call { callee := .builtin .append, args := #[s, x], argTypes := #[22, 22] })
    {va : Option Addr} {vc : Nat} (L : Nat) (xs : List Nat) (hs : a.eval s = .slice va L vc) (hL : xs.length = L) (hown : Hid (wx.ownsRow B 5 1 (.slice va L vc) L (u8s xs))) (y : Nat) (hxv : a.eval x = .slice (some ⟨wx.heap.size, 0, none⟩) 1 1) (hl : L ≤ 1000000000000) (hB : B ≤ wx.heap.size)
    (h : ∀ a' c' w', w'.ownsRow B 5 1 (.slice a' (L + 1) c') (L + 1) (u8s (xs ++ [y])) → (∀ W, Kept [] W wx → W.heap.size ≤ B → Kept [] W w') → wpList Try.prog ops Q rest (a.put o.dst (.slice a' (L + 1) c')) w') :
    wpList Try.prog ops Q (o :: rest) a (wx.alloc (.cells #[.int .u8 (y : Int)] 5)) := by
  obtain ⟨i0, hi, hz0, hz1, hz2⟩ := info_parts Try.info5
  have ho' : wx.ownsRow B 5 1 (.slice va L vc) L (u8s xs) := hown
  refine wpList_append_sees (wx.alloc (.cells #[.int .u8 (y : Int)] 5)) hgd s x 22 ho B 5 i0 (.int .u8 0) Try.underlying22 hi hz0 hz1 hz2 rfl _ xs hs (by rw [hL]; exact own_kept ho' ((Kept.refl [] wx).alloc _) (by simp)) _ [y] hxv (lit1 wx y) (by simp; omega) (by simp; omega) ?_
  intro v' w' hown' hg hat
  rw [List.length_append, hL] at hown'
  obtain ⟨a', c', hv⟩ := own_len hown'
  subst hv
  refine h a' c' w' hown' (fun W hW hWB => (hW.alloc _).grown hg (fun k hk => ?_))
  right
  have := (ho'.lt k hk).1
  omega
set_option maxRecDepth 100000 in
set_option maxHeartbeats 2000000 in
theorem walk_any {w : World} {av : Value} {ops : List Opm} (ha : OpsIn w av ops) (hlen : ops.length ≤ 1048576) :
    Calls Try.prog 5 #[av] w fun e w' => e = .returned (.bool true) ∧ Kept [] w w' := by
  have HAW := hide (awake_any w)
  have HMD := fun W (hq : Kept [] w W) => hide (made_any ha hq)
  obtain ⟨aa, ac, rfl, -, -⟩ := ha
  have hT := mkT_tok ops
  have hrv := mkT_rev ops
  generalize mkT ops = T at *
  have hsz : T.t.size ≤ 1048576 := by have := hT.size; omega
  have hlist : T.t.list.length = T.t.size := Tr.list_length _
  have HR := fun W b (h : Tab W b T) => hide (rows_any h hT hsz)
  obtain ⟨L, hL⟩ : ∃ L, T.t.list.length = L := ⟨_, rfl⟩
  have HL := hide hL
  have hL2 : L ≤ 1048576 := by omega
  go_enter Try.func5, Try.ntmps5
  go_wp2_with (first
    | (go_at_call 8; refine (unhide HAW).mono ?_; rintro e w1 ⟨rfl, hk1⟩; have HK1 := hide hk1; clear hk1)
    | (go_at_call 17; refine (unhide (HMD _ (unhide HK1))).mono ?_; rintro e w2 ⟨b, rfl, ht2, hb2, hk2⟩
       have hb0 : w.heap.size ≤ b := Nat.le_trans (unhide HK1).size hb2
       have HT2 := hide ht2
       have HK2 := hide ((unhide HK1).step hk2)
       clear ht2 hk2 hb2)
    | (go_at_call 11; refine (unhide (HR _ _ (unhide HT2))).mono ?_; rintro e w3 ⟨v3, l, rfl, hl, ho3, hx3, hk3⟩
       have hll : l.length = L := by rw [← unhide HL, ← hl, List.length_map]
       obtain ⟨ra, rc, rfl⟩ := own_len ho3
       have hbl2 : b < w2.heap.size := by obtain ⟨q0, hbb, -⟩ := unhide HT2; exact hbb.lt
       have HT3 := hide ((unhide HT2).kept (hk3.alloc (.cells #[] 5)))
       have HD3 : Hid (Rd w2.heap.size (w3.alloc (.cells #[] 5)) (.slice ra l.length rc) l) := hide (Rd.kept ⟨ho3, hx3⟩ ((Kept.refl [] w3).alloc _))
       have HK3 := hide ((unhide HK2).step (hk3.alloc (.cells #[] 5)))
       have hz3 := hk3.size
       have HLE := hide hl
       rw [hll] at HD3 ⊢
       have HLL := hide hll
       clear ho3 hx3 hk3 HT2 HK2 hl hll))
  have hok := hT.ok
  go_loopw [5, 6] (fun f i wr => ∃ (k N : Nat) (fa : Option Addr) (fc : Nat), k ≤ L ∧ f = .slice fa N fc ∧ i = .int .i64 (k : Int) ∧ Hid ((fromK T.t.list k).length = N) ∧ Wide wr (.slice fa N fc) (fromK T.t.list k) ∧ Free b (.slice fa N fc) ∧ Tab wr b T ∧ Rd w2.heap.size wr (.slice ra L rc) l ∧ Kept [] w wr) (fun _ i _ => L + 1 - (intOf i).toNat)
  case atStart => exact ⟨0, 0, _, _, by omega, rfl, rfl, rfl, Or.inr ⟨_, rfl, rfl⟩, Or.inl ⟨_, rfl⟩, unhide HT3, unhide HD3, unhide HK3⟩
  case round =>
    obtain ⟨k, N, fa, fc, hkL, rfl, rfl, hN, hwd, hfr, ht, hrd, hkr⟩ := hrel
    have HT := hide ht
    have HRD := hide hrd
    have HKR := hide hkr
    have hle : ((k : Int) ≤ (L : Int)) = True := by simp [hkL]
    by_cases hlt : k < L
    · have hlt1 : ((k : Int) < (L : Int)) = True := by simp [hlt]
      have hne : ((k : Int) == (L : Int)) = false := by rw [beq_eq_false_iff_ne]; omega
      have hkl : k < T.t.list.length := by rw [unhide HL]; exact hlt
      have HS := hide (seek_hit ht hT hkl hwd hfr)
      obtain ⟨e, he⟩ : ∃ e, T.t.list[k] = e := ⟨_, rfl⟩
      have HE := hide he
      rw [he] at HS
      obtain ⟨hk64, hv256, hr0, hr1⟩ := hok.rows e (he ▸ List.getElem_mem hkl)
      obtain ⟨kn, hkn⟩ : ∃ n, e.1.size = n := ⟨_, rfl⟩
      obtain ⟨vn, hvn⟩ : ∃ n, e.2.1.size = n := ⟨_, rfl⟩
      obtain ⟨rv, hrv⟩ : ∃ n, e.2.2 = n := ⟨_, rfl⟩
      rw [hkn, hvn, hrv] at HS
      obtain ⟨r, hlr, hre⟩ : ∃ r, l[k]? = some r ∧ r.e = e := by
        have h9 : (l.map (·.e))[k]? = some e := by rw [unhide HLE, List.getElem?_eq_getElem hkl, he]
        rw [List.getElem?_map, Option.map_eq_some_iff] at h9
        exact h9
      have hmem : r ∈ l := List.mem_of_getElem? hlr
      obtain ⟨ya, yc, hyk⟩ := wide_len (Or.inl (hrd.txt r hmem).1.1)
      obtain ⟨za, zc, hyv⟩ := wide_len (Or.inl (hrd.txt r hmem).2.1)
      rw [hre, byts_len, hkn] at hyk
      rw [hre, byts_len, hvn] at hyv
      have HRT : ∀ W, Rd w2.heap.size W (.slice ra L rc) l → Hid (Wide W (.slice ya kn yc) (byts e.1) ∧ Wide W (.slice za vn zc) (byts e.2.1)) := fun W h => by
        have h1 := (h.txt r hmem).1.1
        have h2 := (h.txt r hmem).2.1
        rw [hyk, hre] at h1
        rw [hyv, hre] at h2
        exact ⟨Or.inl h1, Or.inl h2⟩
      have HRC : ∀ W, Rd w2.heap.size W (.slice ra L rc) l → Hid (∃ g, ra = some ⟨g, 0, none⟩ ∧ W.cell? ⟨g, k * 3, none⟩ = some (.slice ya kn yc) ∧ W.cell? ⟨g, k * 3 + 1, none⟩ = some (.slice za vn zc) ∧ W.cell? ⟨g, k * 3 + 2, none⟩ = some (.int .i64 rv)) := fun W h => by
        have h1 := h.at hlr
        rw [hyk, hyv, hre, hrv] at h1
        exact h1
      clear ht hrd hkr hwd hyk hyv
      go_wp2_with (first
        | (go_at_call 15; refine (unhide HS).mono ?_; rintro e' w4 ⟨ka, kc, va, vc, rfl, hk4, hv4, ht4, hkp4⟩
           have hbb4 : b < w4.heap.size := by obtain ⟨q0, hbb, -⟩ := ht4; exact hbb.lt
           have hkq := (Kept.refl [] w4).alloc (.cells #[.bool true, .slice ka kn kc, .slice va vn vc, .int .i64 rv, .int .i64 (T.rev : Int)] 39)
           have HB4 := hide (Blk.new w4 #[.bool true, .slice ka kn kc, .slice va vn vc, .int .i64 rv, .int .i64 (T.rev : Int)] 39)
           have HT4 := hide (ht4.kept hkq)
           have HD4 := hide (((unhide HRD).keep hkp4 (unhide HT)).kept hkq)
           have HK4 := hide (((unhide HKR).trans hkp4 (by simp; exact hb0)).step hkq)
           have HX4 := hide (hk4.1.kept hkq (by simp))
           have HY4 := hide (hv4.1.kept hkq (by simp))
           clear HS hk4 hv4 ht4 hkp4 hkq HRD HT HKR)
        | fail)
      obtain ⟨W4, hW4⟩ : ∃ W, w4.alloc (.cells #[.bool true, .slice ka kn kc, .slice va vn vc, .int .i64 rv, .int .i64 (T.rev : Int)] 39) = W := ⟨_, rfl⟩
      rw [hW4] at HB4 HT4 HD4 HK4 HX4 HY4 ⊢
      have hz4 : b < W4.heap.size := by rw [← hW4, World.size_alloc]; omega
      obtain ⟨n4, hn4⟩ : ∃ n, w4.heap.size = n := ⟨_, rfl⟩
      rw [hn4] at HB4 ⊢
      clear hW4 hn4 hbb4
      obtain ⟨⟨a0, a1, a2, a3, a4⟩, -⟩ := box5 (unhide HB4)
      obtain ⟨g, rfl, s0, s1, s2⟩ := unhide (HRC _ (unhide HD4))
      have HV4 := fun W (hk : Kept [] W4 W) => hide (trev_any ((unhide HT4).kept hk))
      generalize (T.rev : Int) = tr at *
      go_region_held3 (fun w' => w'.cell? ⟨n4, 0, none⟩ = some (.bool true) ∧ w'.cell? ⟨n4, 4, none⟩ = some (.int .i64 tr)) (go_keep) (first
        | (go_at_call 10; refine (unhide (HV4 _ (by first | exact Kept.refl _ _ | exact (Kept.refl _ _).drew | exact (Kept.refl _ _).drew.drew))).mono ?_; rintro e' w5 ⟨rfl, hq⟩; have hq' := hq.symm; subst hq'))
      have hd4 : Kept [] W4 W4.drew := (Kept.refl [] W4).drew
      have HB5 := hide ((unhide HB4).kept hd4 (by simp))
      have HT5 := hide ((unhide HT4).kept hd4)
      have HD5 := hide ((unhide HD4).kept hd4)
      have HK5 := hide ((unhide HK4).step hd4)
      have HX5 := hide ((unhide HX4).kept hd4 (by simp))
      have HY5 := hide ((unhide HY4).kept hd4 (by simp))
      obtain ⟨W5, hW5⟩ : ∃ W, W4.drew = W := ⟨_, rfl⟩
      rw [hW5] at HB5 HT5 HD5 HK5 HX5 HY5 ⊢
      clear a0 a1 a2 a3 a4 s0 s1 s2 HB4 HT4 HD4 HK4 HX4 HY4 HV4 hd4
      obtain ⟨⟨a0, a1, a2, a3, a4⟩, -⟩ := box5 (unhide HB5)
      obtain ⟨g', hg', s0, s1, s2⟩ := unhide (HRC _ (unhide HD5))
      cases hg'
      have HSR : ∀ W, Kept [] W5 W → Hid (Calls Try.prog 21 #[.agg #[.slice ka kn kc, .slice va vn vc, .int .i64 rv], .agg #[.slice ya kn yc, .slice za vn zc, .int .i64 rv]] W fun e w' => e = .returned (.bool true) ∧ Kept [] W5 w') := fun W hk => by
        refine hide ((sameRow_any rv rv (Or.inl ((unhide HX5).kept hk (by simp))) (Or.inl ((unhide HY5).kept hk (by simp))) (unhide (HRT _ ((unhide HD5).kept hk))).1 (unhide (HRT _ ((unhide HD5).kept hk))).2 (by rw [byts_len]; omega) (by rw [byts_len]; omega)).mono ?_)
        rintro e' w' ⟨h1, h2⟩
        simp only [and_self, decide_true] at h1
        exact ⟨h1, hk.step h2⟩
      go_wp2_with fail
      go_region_held3 (fun w' => (w'.cell? ⟨n4, 1, none⟩ = some (.slice ka kn kc) ∧ w'.cell? ⟨n4, 2, none⟩ = some (.slice va vn vc) ∧ w'.cell? ⟨n4, 3, none⟩ = some (.int .i64 rv)) ∧ w'.cell? ⟨g, k * 3, none⟩ = some (.slice ya kn yc) ∧ w'.cell? ⟨g, k * 3 + 1, none⟩ = some (.slice za vn zc) ∧ w'.cell? ⟨g, k * 3 + 2, none⟩ = some (.int .i64 rv)) (first | go_keep | (exact ⟨⟨(unhide HK6).cell' a1, (unhide HK6).cell' a2, (unhide HK6).cell' a3⟩, (unhide HK6).cell' s0, (unhide HK6).cell' s1, (unhide HK6).cell' s2⟩)) (first
        | (go_at_call 21; refine (unhide (HSR _ (by first | exact Kept.refl _ _ | exact (Kept.refl _ _).drew | exact (Kept.refl _ _).drew.drew))).mono ?_; rintro e' w6 ⟨rfl, hk6⟩; have HK6 := hide hk6; clear hk6))
      have HB6 := hide ((unhide HB5).kept (unhide HK6) (by simp))
      have HT6 := hide ((unhide HT5).kept (unhide HK6))
      have HD6 := hide ((unhide HD5).kept (unhide HK6))
      have HQ6 := hide ((unhide HK5).step (unhide HK6))
      have HX6 := hide ((unhide HX5).kept (unhide HK6) (by simp))
      obtain ⟨⟨z0, z1, z2, z3, z4⟩, -⟩ := box5 (unhide HB6)
      have hz6 := (unhide HK6).size
      clear a0 a1 a2 a3 a4 s0 s1 s2 HB5 HT5 HD5 HK5 HX5 HY5 HSR HK6
      have y1 : (w6.alloc (.cells #[] 5)).cell? ⟨n4, 1, none⟩ = some (.slice ka kn kc) := ((unhide HB6).alloc _).cell 1
      have hle6 : b < w6.heap.size := by have := hW5 ▸ ((Kept.refl [] W4).drew).size; omega
      go_wp2_with (first
        | (at_builtin; refine wpList_twin8 rfl (.tmp 79) (.tmp 81) rfl rfl _ _ rfl (unhide HX6) kn (by rw [byts_len]; exact hkn) (by omega) ?_
           intro a7 c7 w7 ho7 hk7
           have HO7 := hide ho7
           have HK7 := hide hk7
           have hz7 := hk7.size
           clear ho7 hk7)
        | (at_builtin; refine wpList_more8 rfl (.tmp 82) (.tmp 83) rfl kn (byts e.1) rfl (by rw [byts_len]; exact hkn) HO7 0 rfl (by omega) hz7 ?_
           intro a8 c8 w8 ho8 hk8
           have HO8 := hide ho8
           have HK8 := hide (hk8 _ (unhide HK7) (Nat.le_refl _))
           clear ho8 hk8)
        | fail)
      have hfk : fromK T.t.list (k + 1) = byts e.1 ++ [0] := by
        show byts (fk T.t.list[k]?) ++ [0] = _
        rw [List.getElem?_eq_getElem hkl, unhide HE]; rfl
      have hln : (byts e.1 ++ [0]).length = kn + 1 := by rw [List.length_append, byts_len, hkn]; rfl
      refine ⟨⟨k + 1, kn + 1, a8, c8, by omega, rfl, by simp, hide (by rw [hfk]; exact hln), ?_, Or.inr fun x hx => ?_, (unhide HT6).kept (unhide HK8), (unhide HD6).kept (unhide HK8), (unhide HQ6).step (unhide HK8)⟩, by simp [intOf]; omega⟩
      · rw [hfk]
        refine Or.inl (Sees.of_own (base := w6.heap.size) ?_)
        rw [hln]
        exact unhide HO8
      · have := (own_lt (unhide HO8) hx).1
        omega
    · obtain rfl : k = L := by omega
      have hlt1 : ((k : Int) < (k : Int)) = False := by simp
      have HS : Hid _ := hide (seek_miss ht hT (by rw [unhide HL]; exact hwd) hfr)
      clear ht hrd hkr hwd
      go_wp2_with (first
        | (go_at_call 15; refine (unhide HS).mono ?_; rintro e' w4 ⟨ka, kc, va, vc, rfl, ht4, hkp4⟩
           have hkq := (Kept.refl [] w4).alloc (.cells #[.bool false, .slice ka 0 kc, .slice va 0 vc, .int .i64 0, .int .i64 (T.rev : Int)] 39)
           have HB4 := hide (Blk.new w4 #[.bool false, .slice ka 0 kc, .slice va 0 vc, .int .i64 0, .int .i64 (T.rev : Int)] 39)
           have HT4 := hide (ht4.kept hkq)
           have HK4 := hide (((unhide HKR).trans hkp4 (by simp; exact hb0)).step hkq)
           clear HS ht4 hkp4 hkq HRD HT HKR)
        | fail)
      obtain ⟨W4, hW4⟩ : ∃ W, w4.alloc (.cells #[.bool false, .slice ka 0 kc, .slice va 0 vc, .int .i64 0, .int .i64 (T.rev : Int)] 39) = W := ⟨_, rfl⟩
      rw [hW4] at HB4 HT4 HK4 ⊢
      obtain ⟨n4, hn4⟩ : ∃ n, w4.heap.size = n := ⟨_, rfl⟩
      rw [hn4] at HB4 ⊢
      clear hW4 hn4
      obtain ⟨⟨a0, a1, a2, a3, a4⟩, -⟩ := box5 (unhide HB4)
      have HV4 := fun W (hk : Kept [] W4 W) => hide (trev_any ((unhide HT4).kept hk))
      generalize (T.rev : Int) = tr at *
      go_region_held3 (fun w' => w'.cell? ⟨n4, 0, none⟩ = some (.bool false) ∧ w'.cell? ⟨n4, 4, none⟩ = some (.int .i64 tr)) (go_keep) (first
        | (go_at_call 10; refine (unhide (HV4 _ (by first | exact Kept.refl _ _ | exact (Kept.refl _ _).drew | exact (Kept.refl _ _).drew.drew))).mono ?_; rintro e' w5 ⟨rfl, hq⟩; have hq' := hq.symm; subst hq'))
      go_wp2_with fail
      go_ret
      exact ⟨rfl, (unhide HK4).drew⟩
end Go.Proofs.Ytkejpbfbpomjfab.tre
