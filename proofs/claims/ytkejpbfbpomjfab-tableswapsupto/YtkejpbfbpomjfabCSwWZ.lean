/- TableSwaps. -/
import Derived.Test.YtkejpbfbpomjfabCSwPZ
namespace Go.Proofs.Ytkejpbfbpomjfab.tre
open Go.RowKit

theorem fv_if (f : Option (ByteArray × VT)) : (if f.isSome = true then (fv f).2 else 0) = (fv f).2 := by cases f <;> rfl
def bv (f : Option (ByteArray × VT)) : List Nat := if f.isSome = true then byts (fv f).1 else []
/-- a Get that is right -/
theorem get_yes {W : World} {b : Nat} {T : Tb} {key : List Nat} {ks : Value} (h : Tab W b T) (hT : Tok T) (ho : Wide W ks key) (hb : ∀ x ∈ key, x < 256) (hf : Free b ks) (hk : 1 ≤ key.length ∧ key.length ≤ 64) :
    Calls Try.prog 15 #[.pointer (some ⟨b, 0, none⟩), .agg #[.int .i64 1, ks, .slice none 0 0, .int .i64 0]] W fun e w' => ∃ ka kn kc va vn vc, e = .returned (.tuple #[.agg #[.bool (T.t.find (strB key)).isSome, .slice ka kn kc, .slice va vn vc, .int .i64 (fv (T.t.find (strB key))).2, .int .i64 (T.rev : Int)], .int .i64 0]) ∧ NewS W (.slice va vn vc) (bv (T.t.find (strB key))) w' ∧ Tab w' b T ∧ Kept [b] W w' := by
  have hr : rfs T ⟨1, key, [], 0⟩ = 0 := by rw [get_rfs, if_pos hk]
  refine (Do_yes h hT (o := ⟨1, key, [], 0⟩) (vs := .slice none 0 0) ⟨ho, Or.inl (Or.inl ⟨rfl, rfl⟩), hb, (fun x hx => by cases hx)⟩ hf (Or.inr fun x hx => by cases hx) hr).mono ?_
  rintro e w' ⟨ka, kn, kc, va, vn, vc, he, ha⟩
  have ht := ha.t
  have hv := ha.v
  rw [get_nxt] at ht
  rw [get_fnd] at hv
  rw [get_fnd, get_dn, get_rvn, fv_if] at he
  exact ⟨ka, kn, kc, va, vn, vc, he, hv, ht, ha.kp⟩
theorem get_no {W : World} {b : Nat} {T : Tb} {key : List Nat} {ks : Value} (h : Tab W b T) (ho : Wide W ks key) (hb : ∀ x ∈ key, x < 256) (hk : ¬ (1 ≤ key.length ∧ key.length ≤ 64)) :
    Calls Try.prog 15 #[.pointer (some ⟨b, 0, none⟩), .agg #[.int .i64 1, ks, .slice none 0 0, .int .i64 0]] W fun e w' => e = .returned (.tuple #[.agg #[.bool false, .slice none 0 0, .slice none 0 0, .int .i64 0, .int .i64 0], .int .i64 131]) ∧ Kept [] W w' := by
  have hr : rfs T ⟨1, key, [], 0⟩ = 131 := by rw [get_rfs, if_neg hk]
  refine (Do_no h (o := ⟨1, key, [], 0⟩) (vs := .slice none 0 0) ⟨ho, Or.inl (Or.inl ⟨rfl, rfl⟩), hb, (fun x hx => by cases hx)⟩ (by rw [hr]; decide)).mono ?_
  rintro e w' ⟨he, hq⟩
  rw [hr] at he
  exact ⟨he, hq⟩
theorem right_no {W : World} {key : List Nat} {ks : Value} (ho : Wide W ks key) (hb : ∀ x ∈ key, x < 256) (hk : ¬ (1 ≤ key.length ∧ key.length ≤ 64)) :
    Calls Try.prog 19 #[.agg #[.int .i64 1, ks, .slice none 0 0, .int .i64 0]] W fun e w' => e = .returned (.bool false) ∧ Kept [] W w' := by
  refine (right_any (o := ⟨1, key, [], 0⟩) (vs := .slice none 0 0) ⟨ho, Or.inl (Or.inl ⟨rfl, rfl⟩), hb, (fun x hx => by cases hx)⟩).mono ?_
  rintro e w' ⟨he, hq⟩
  have : rgt ⟨1, key, [], 0⟩ = false := by
    unfold rgt
    simp only [true_or, if_true, decide_eq_false_iff_not]
    intro z; exact hk ⟨z.1, z.2.1⟩
  rw [this] at he
  exact ⟨he, hq⟩
/-- a swap that is right -/
theorem swap_yes {W : World} {b : Nat} {T : Tb} {key value : List Nat} {ks vs : Value} {r : Int} (h : Tab W b T) (hT : Tok T) (ho : Wide W ks key) (hv : Wide W vs value) (hb : ∀ x ∈ key, x < 256) (hvb : ∀ x ∈ value, x < 256) (hf : Free b ks) (hg : Free b vs) (hk : 1 ≤ key.length ∧ key.length ≤ 64) (h0 : 0 ≤ r ∧ r ≤ 1099511627776) (hl : T.rev < 1099511627776) (hvl : value.length ≤ 256) :
    Calls Try.prog 15 #[.pointer (some ⟨b, 0, none⟩), .agg #[.int .i64 4, ks, vs, .int .i64 r]] W fun e w' => ∃ ka kn kc va vn vc, e = .returned (.tuple #[.agg #[.bool ((fv (T.t.find (strB key))).2 == r), .slice ka kn kc, .slice va vn vc, .int .i64 (fv (T.t.find (strB key))).2, .int .i64 ((T.rev : Int) + 1)], .int .i64 0]) ∧ NewS W (.slice va vn vc) (bv (T.t.find (strB key))) w' ∧ Tab w' b (nxt T ⟨4, key, value, r⟩) ∧ Kept [b] W w' := by
  have hr : rfs T ⟨4, key, value, r⟩ = 0 := by rw [swap_rfs hk h0 hl, if_pos hvl]
  refine (Do_yes h hT (o := ⟨4, key, value, r⟩) ⟨ho, hv, hb, hvb⟩ hf hg hr).mono ?_
  rintro e w' ⟨ka, kn, kc, va, vn, vc, he, ha⟩
  have hvv := ha.v
  rw [swap_fnd] at hvv
  rw [swap_fnd, swap_dn, swap_rvn, fv_if] at he
  exact ⟨ka, kn, kc, va, vn, vc, he, hvv, ha.t, ha.kp⟩
theorem swap_no {W : World} {b : Nat} {T : Tb} {key value : List Nat} {ks vs : Value} {r : Int} (h : Tab W b T) (ho : Wide W ks key) (hv : Wide W vs value) (hb : ∀ x ∈ key, x < 256) (hvb : ∀ x ∈ value, x < 256) (hk : 1 ≤ key.length ∧ key.length ≤ 64) (h0 : 0 ≤ r ∧ r ≤ 1099511627776) (hl : T.rev < 1099511627776) (hvl : ¬ value.length ≤ 256) :
    Calls Try.prog 15 #[.pointer (some ⟨b, 0, none⟩), .agg #[.int .i64 4, ks, vs, .int .i64 r]] W fun e w' => e = .returned (.tuple #[.agg #[.bool false, .slice none 0 0, .slice none 0 0, .int .i64 0, .int .i64 0], .int .i64 131]) ∧ Kept [] W w' := by
  have hr : rfs T ⟨4, key, value, r⟩ = 131 := by rw [swap_rfs hk h0 hl, if_neg hvl]
  refine (Do_no h (o := ⟨4, key, value, r⟩) ⟨ho, hv, hb, hvb⟩ (by rw [hr]; decide)).mono ?_
  rintro e w' ⟨he, hq⟩
  rw [hr] at he
  exact ⟨he, hq⟩
/-- the key's row behind the swap -/
theorem swap_find {T : Tb} (hT : Tok T) {key value : List Nat} {r : Int} (hr : rfs T ⟨4, key, value, r⟩ = 0) : (nxt T ⟨4, key, value, r⟩).t.find (strB key) = if (fv (T.t.find (strB key))).2 == r then some (strB key, strB value, ((T.rev : Int) + 1)) else T.t.find (strB key) := by
  rw [find_nxt hT hr, swap_dn, swap_rvn]
  cases h : ((fv (T.t.find (strB key))).2 == r) <;> simp
theorem Btw.done {K : ByteArray} {fa : Option (ByteArray × VT)} {R : Nat} {T : Tb} (h : Btw K fa R T true) (hfa : ∀ e, fa = some e → 1 ≤ e.2.2 ∧ e.2.2 ≤ (R : Int)) (hd : (fv (T.t.find K)).2 = (fv fa).2) : fa.isSome = false ∧ (fv fa).2 = 0 := by
  cases hf : T.t.find K with
  | some e =>
    exfalso
    have h1 := h.yes rfl e hf
    rw [hf] at hd
    cases hq : fa with
    | none => rw [hq] at hd; simp only [fv, Option.getD_some, Option.getD_none] at hd; omega
    | some e2 => have := hfa e2 hq; rw [hq] at hd; simp only [fv, Option.getD_some] at hd; omega
  | none =>
    rw [hf] at hd
    cases hq : fa with
    | none => exact ⟨rfl, rfl⟩
    | some e2 => have := hfa e2 hq; rw [hq] at hd; simp only [fv, Option.getD_some, Option.getD_none] at hd; omega
set_option maxRecDepth 100000 in
set_option maxHeartbeats 8000000 in
theorem swaps_any {w : World} {av bv' kv vv : Value} {ahead between : List Opm} {key value : List Nat} (ha : OpsIn w av ahead) (hb : OpsIn w bv' between) (hk : Wide w kv key) (hv : Wide w vv value) (kl : Low w kv) (vl : Low w vv) (kb : ∀ x ∈ key, x < 256) (vb : ∀ x ∈ value, x < 256) (hlen : ahead.length + between.length ≤ 1048576) (hvl : value.length ≤ 1048576) :
    Calls Try.prog 4 #[av, kv, vv, bv'] w fun e w' => e = .returned (.bool true) ∧ Kept [] w w' := by
  obtain ⟨ka, kc, rfl⟩ := wide_len hk
  obtain ⟨va, vc, rfl⟩ := wide_len hv
  have HAW := hide (awake_any w)
  have HMD := fun W (hq : Kept [] w W) => hide (made_any ha hq)
  have HG := fun W => hide (lget_any W ka key.length kc)
  obtain ⟨aa, ac, rfl, -, -⟩ := id ha
  have HB := hide hb
  obtain ⟨ba, bc, rfl, hbl, hball⟩ := hb
  have HBALL := hide hball
  have hTa := mkT_tok ahead
  have hra := fold_rev ahead ⟨.nil, 0⟩
  have hra' : (mkT ahead).rev ≤ ahead.length := by unfold mkT; simpa using hra
  generalize mkT ahead = Ta at *
  have HWK := hide hk
  have HWV := hide hv
  clear hball ha hk hv hra
  by_cases hkey : 1 ≤ key.length ∧ key.length ≤ 64
  · have HK0 : Hid (strB key = strB key) := rfl
    obtain ⟨fa, hfa⟩ : ∃ fa, Ta.t.find (strB key) = fa := ⟨_, rfl⟩
    obtain ⟨K, hK⟩ : ∃ K, strB key = K := ⟨_, rfl⟩
    have hfa0 : ∀ e, fa = some e → 1 ≤ e.2.2 ∧ e.2.2 ≤ (Ta.rev : Int) := fun e he => hTa.up e (mem_find hTa.ok.rise |>.1 (hfa.trans he)).1
    have HD3 : ∀ W b, Tab W b Ta → Wide W (.slice ka key.length kc) key → Free b (.slice ka key.length kc) → Hid _ := fun W b h1 h2 h3 => hide (get_yes h1 hTa h2 kb h3 hkey)
    rw [hfa] at HD3
    have hs0 : Btw K fa Ta.rev Ta false := ⟨hTa, Nat.le_refl _, fun _ => by rw [← hK]; exact hfa, fun hc => by cases hc⟩
    have HS0 := hide hs0
    have HFA0 := hide hfa0
    have HKK := hide hK
    obtain ⟨ar, har⟩ : ∃ ar, (fv fa).2 = ar := ⟨_, rfl⟩
    obtain ⟨ad, had⟩ : ∃ ad, fa.isSome = ad := ⟨_, rfl⟩
    rw [har, had] at HD3
    have HAR := hide har
    have HAD := hide had
    clear hs0 hfa0 hfa hK har had HK0
    go_enter Try.func4, Try.ntmps4
    go_wp2_with (first
      | (go_at_call 8; refine (unhide HAW).mono ?_; rintro e w1 ⟨rfl, hk1⟩; have HK1 := hide hk1; clear hk1)
      | (go_at_call 17; refine (unhide (HMD _ (unhide HK1))).mono ?_; rintro e w2 ⟨b, rfl, ht2, hb2, hk2⟩
         have hb0 : w.heap.size ≤ b := Nat.le_trans (unhide HK1).size hb2
         have HT2 := hide ht2
         have HK2 := hide ((unhide HK1).step hk2)
         clear ht2 hk2 hb2)
      | (go_at_call 18; refine (unhide (HG _)).mono ?_; rintro e w3 ⟨rfl, hk3⟩
         have HK3 := hide ((unhide HK2).step hk3)
         have HE3 := hide (HD3 w3 b ((unhide HT2).kept hk3) ((unhide HWK).kept (unhide HK3)) (kl.free hb0))
         clear hk3 HT2)
      | (go_at_call 15; refine (unhide (unhide HE3)).mono ?_; rintro e w4 ⟨ka4, kn4, kc4, va4, vn4, vc4, rfl, -, ht4, hk4⟩
         have hbl4 : b < w4.heap.size := by obtain ⟨q0, hbb, -⟩ := ht4; exact hbb.lt
         have HT4 := hide (ht4.kept ((Kept.refl [] w4).alloc (.cells #[.bool ad, .slice ka4 kn4 kc4, .slice va4 vn4 vc4, .int .i64 ar, .int .i64 (Ta.rev : Int)] 39)))
         have HK4 := hide (((unhide HK3).trans hk4 (by simp; exact hb0)).alloc (.cells #[.bool ad, .slice ka4 kn4 kc4, .slice va4 vn4 vc4, .int .i64 ar, .int .i64 (Ta.rev : Int)] 39))
         have HA4 := hide (Blk.new w4 #[.bool ad, .slice ka4 kn4 kc4, .slice va4 vn4 vc4, .int .i64 ar, .int .i64 (Ta.rev : Int)] 39)
         clear ht4 hk4 HE3 HD3))
    obtain ⟨L, hL⟩ : ∃ L, between.length = L := ⟨_, rfl⟩
    have HL := hide hL
    rw [hL] at hlen hbl ⊢
    clear hL
    have hnb : w4.heap.size ≠ b := by omega
    go_loopw [12, 13] (fun c i wr => ∃ (k : Nat) (ch : Bool), k ≤ L ∧ c = .bool ch ∧ i = .int .i64 (k : Int) ∧ Tab wr b ((between.take k).foldl stp Ta) ∧ Btw K fa Ta.rev ((between.take k).foldl stp Ta) ch ∧ Kept [] w wr ∧ Blk wr w4.heap.size #[.bool ad, .slice ka4 kn4 kc4, .slice va4 vn4 vc4, .int .i64 ar, .int .i64 (Ta.rev : Int)] 39) (fun _ i _ => L - (intOf i).toNat)
    case atStart => exact ⟨0, false, by omega, rfl, rfl, unhide HT4, unhide HS0, unhide HK4, unhide HA4⟩
    case round =>
      obtain ⟨k, ch, hkL, rfl, rfl, ht, hbt, hkr, hab⟩ := hrel
      have HAX := hide hab
      have HKR := hide hkr
      have HBT := hide hbt
      by_cases hlt : k < L
      · have hko : k < between.length := by rw [unhide HL]; exact hlt
        obtain ⟨o, ho⟩ : ∃ o, between[k]? = some o := ⟨between[k], List.getElem?_eq_getElem hko⟩
        obtain ⟨sb, off, ks, vs, hsa, hsb, hrg, hoa, hlk, hlv⟩ := unhide HBALL k o ho
        subst hsa
        have htk : (between.take (k + 1)).foldl stp Ta = stp ((between.take k).foldl stp Ta) o := by
          rw [List.take_add_one, ho]
          simp [List.foldl_append]
        have HTK := hide htk
        have hTk : Tok ((between.take k).foldl stp Ta) := fold_tok _ _ hTa
        obtain ⟨T, hTe⟩ : ∃ T, (between.take k).foldl stp Ta = T := ⟨_, rfl⟩
        rw [hTe] at ht HTK hTk HBT
        have HSB := hide hsb
        have HRG := hide hrg
        have cc : ∀ (j : Nat) (u : Value), [Value.int .i64 o.kind, ks, vs, .int .i64 o.rev][j]? = some u → wr.cell? ⟨sb, off + k * 4 + j, none⟩ = some u := fun j u hj => (hkr.cell (p := ⟨sb, off + k * 4 + j, none⟩) hsb (by simp)).trans (hrg j u hj)
        have s0 : wr.cell? ⟨sb, off + k * 4, none⟩ = some (.int .i64 o.kind) := cc 0 _ rfl
        have s1 : wr.cell? ⟨sb, off + k * 4 + 1, none⟩ = some ks := cc 1 _ rfl
        have s2 : wr.cell? ⟨sb, off + k * 4 + 2, none⟩ = some vs := cc 2 _ rfl
        have s3 : wr.cell? ⟨sb, off + k * 4 + 3, none⟩ = some (.int .i64 o.rev) := cc 3 _ rfl
        have hki : (k : Int) < (L : Int) := by omega
        have hoar := hoa.kept hkr
        by_cases hr : rfs T o = 0
        · have hst : stp T o = nxt T o := by unfold stp; rw [if_pos hr]
          rw [hst] at HTK
          have HDO := hide (Do_yes ht hTk hoar (hlk.free hb0) (hlv.free hb0) hr)
          unfold opv at HDO
          obtain ⟨R6, hR6⟩ : ∃ R6, (if (fnd T o).isSome = true then (fv (fnd T o)).2 else 0) = R6 := ⟨_, rfl⟩
          rw [hR6] at HDO
          have HOK := hide hoa.k
          have hlen1 := right_len hr
          have HOL := hide hlen1.2.2.1
          have hkeyb := hoa.kb
          clear ht hbt hkr hab cc hrg hsb hoa hlk hlv htk hst hR6 hoar hlen1 hTe ho hko
          by_cases hw : o.kind = 2 ∨ o.kind = 3 ∨ o.kind = 4
          · have HWD : Hid (decide (o.kind = 2 ∨ o.kind = 3 ∨ o.kind = 4) = true) := decide_eq_true hw
            by_cases he : o.key = key
            · have HSD : Hid (decide (o.key = key) = true) := decide_eq_true he
              have HNX := hide ((unhide HBT).step hr hw (by rw [he]; exact unhide HKK))
              cases ch
              · simp only [Bool.false_or] at HNX
                go_wp2_with (first
      | (go_at_call 15; refine (unhide HDO).mono ?_; rintro e w6 ⟨k6a, k6n, k6c, v6a, v6n, v6c, rfl, ha6⟩
         have hk6 := (unhide HKR).trans ha6.kp (by simp; exact hb0)
         have hkc := hk6.alloc (.cells #[.bool (dn T o), .slice k6a k6n k6c, .slice v6a v6n v6c, .int .i64 R6, .int .i64 (rvn T o : Int)] 39)
         have cc6 : ∀ (j : Nat) (u : Value), [Value.int .i64 o.kind, ks, vs, .int .i64 o.rev][j]? = some u → (w6.alloc (.cells #[.bool (dn T o), .slice k6a k6n k6c, .slice v6a v6n v6c, .int .i64 R6, .int .i64 (rvn T o : Int)] 39)).cell? ⟨sb, off + k * 4 + j, none⟩ = some u := fun j u hj => (hkc.cell (p := ⟨sb, off + k * 4 + j, none⟩) (unhide HSB) (by simp)).trans (unhide HRG j u hj)
         have q0 : (w6.alloc (.cells #[.bool (dn T o), .slice k6a k6n k6c, .slice v6a v6n v6c, .int .i64 R6, .int .i64 (rvn T o : Int)] 39)).cell? ⟨sb, off + k * 4, none⟩ = some (.int .i64 o.kind) := cc6 0 _ rfl
         have q1 : (w6.alloc (.cells #[.bool (dn T o), .slice k6a k6n k6c, .slice v6a v6n v6c, .int .i64 R6, .int .i64 (rvn T o : Int)] 39)).cell? ⟨sb, off + k * 4 + 1, none⟩ = some ks := cc6 1 _ rfl
         have q2 : (w6.alloc (.cells #[.bool (dn T o), .slice k6a k6n k6c, .slice v6a v6n v6c, .int .i64 R6, .int .i64 (rvn T o : Int)] 39)).cell? ⟨sb, off + k * 4 + 2, none⟩ = some vs := cc6 2 _ rfl
         have q3 : (w6.alloc (.cells #[.bool (dn T o), .slice k6a k6n k6c, .slice v6a v6n v6c, .int .i64 R6, .int .i64 (rvn T o : Int)] 39)).cell? ⟨sb, off + k * 4 + 3, none⟩ = some (.int .i64 o.rev) := cc6 3 _ rfl
         have HT6 := hide (ha6.t.kept ((Kept.refl [] w6).alloc (.cells #[.bool (dn T o), .slice k6a k6n k6c, .slice v6a v6n v6c, .int .i64 R6, .int .i64 (rvn T o : Int)] 39)))
         have HK6 := hide hkc
         have HA6 := hide (((unhide HAX).kept ha6.kp (by simp; omega)).alloc (.cells #[.bool (dn T o), .slice k6a k6n k6c, .slice v6a v6n v6c, .int .i64 R6, .int .i64 (rvn T o : Int)] 39))
         have HB6 := hide (Blk.new w6 #[.bool (dn T o), .slice k6a k6n k6c, .slice v6a v6n v6c, .int .i64 R6, .int .i64 (rvn T o : Int)] 39)
         have HW6 := hide (writes_any (w6.alloc (.cells #[.bool (dn T o), .slice k6a k6n k6c, .slice v6a v6n v6c, .int .i64 R6, .int .i64 (rvn T o : Int)] 39)) o ks vs)
         unfold opv at HW6
         clear ha6 hk6 hkc cc6 HDO)
      | (go_at_call 20; refine (unhide HW6).mono ?_; rw [unhide HWD]; rintro e w7 ⟨rfl, hk7⟩
         have hkc := (unhide HK6).step hk7
         have cc6 : ∀ (j : Nat) (u : Value), [Value.int .i64 o.kind, ks, vs, .int .i64 o.rev][j]? = some u → w7.cell? ⟨sb, off + k * 4 + j, none⟩ = some u := fun j u hj => (hkc.cell (p := ⟨sb, off + k * 4 + j, none⟩) (unhide HSB) (by simp)).trans (unhide HRG j u hj)
         have r0 : w7.cell? ⟨sb, off + k * 4, none⟩ = some (.int .i64 o.kind) := cc6 0 _ rfl
         have r1 : w7.cell? ⟨sb, off + k * 4 + 1, none⟩ = some ks := cc6 1 _ rfl
         have r2 : w7.cell? ⟨sb, off + k * 4 + 2, none⟩ = some vs := cc6 2 _ rfl
         have r3 : w7.cell? ⟨sb, off + k * 4 + 3, none⟩ = some (.int .i64 o.rev) := cc6 3 _ rfl
         have HT7 := hide ((unhide HT6).kept hk7)
         have HA7 := hide ((unhide HA6).kept hk7 (by simp))
         have HB7 := hide ((unhide HB6).kept hk7 (by simp))
         have HK7 := hide hkc
         have HSA := hide (same_full ((unhide HOK).kept hkc) ((unhide HWK).kept hkc) (by have := unhide HOL; omega))
         clear hk7 hkc cc6 HW6)
      | (go_at_call 12; refine (unhide HSA).mono ?_; rw [unhide HSD]; rintro e w8 ⟨rfl, hk8⟩
         have HT8 := hide ((unhide HT7).kept hk8)
         have HA8 := hide ((unhide HA7).kept hk8 (by simp))
         have HK8 := hide ((unhide HK7).step hk8)
         obtain ⟨⟨u0, u1, u2, u3, u4⟩, -⟩ := box5 ((unhide HB7).kept hk8 (by simp))
         clear hk8 HSA))
                refine ⟨⟨k + 1, _, by omega, rfl, by simp, by rw [unhide HTK]; exact unhide HT8, by rw [unhide HTK]; exact unhide HNX, unhide HK8, unhide HA8⟩, by simp [intOf]; omega⟩
              · simp only [Bool.true_or] at HNX
                go_wp2_with (first
      | (go_at_call 15; refine (unhide HDO).mono ?_; rintro e w6 ⟨k6a, k6n, k6c, v6a, v6n, v6c, rfl, ha6⟩
         have hk6 := (unhide HKR).trans ha6.kp (by simp; exact hb0)
         have hkc := hk6.alloc (.cells #[.bool (dn T o), .slice k6a k6n k6c, .slice v6a v6n v6c, .int .i64 R6, .int .i64 (rvn T o : Int)] 39)
         have cc6 : ∀ (j : Nat) (u : Value), [Value.int .i64 o.kind, ks, vs, .int .i64 o.rev][j]? = some u → (w6.alloc (.cells #[.bool (dn T o), .slice k6a k6n k6c, .slice v6a v6n v6c, .int .i64 R6, .int .i64 (rvn T o : Int)] 39)).cell? ⟨sb, off + k * 4 + j, none⟩ = some u := fun j u hj => (hkc.cell (p := ⟨sb, off + k * 4 + j, none⟩) (unhide HSB) (by simp)).trans (unhide HRG j u hj)
         have q0 : (w6.alloc (.cells #[.bool (dn T o), .slice k6a k6n k6c, .slice v6a v6n v6c, .int .i64 R6, .int .i64 (rvn T o : Int)] 39)).cell? ⟨sb, off + k * 4, none⟩ = some (.int .i64 o.kind) := cc6 0 _ rfl
         have q1 : (w6.alloc (.cells #[.bool (dn T o), .slice k6a k6n k6c, .slice v6a v6n v6c, .int .i64 R6, .int .i64 (rvn T o : Int)] 39)).cell? ⟨sb, off + k * 4 + 1, none⟩ = some ks := cc6 1 _ rfl
         have q2 : (w6.alloc (.cells #[.bool (dn T o), .slice k6a k6n k6c, .slice v6a v6n v6c, .int .i64 R6, .int .i64 (rvn T o : Int)] 39)).cell? ⟨sb, off + k * 4 + 2, none⟩ = some vs := cc6 2 _ rfl
         have q3 : (w6.alloc (.cells #[.bool (dn T o), .slice k6a k6n k6c, .slice v6a v6n v6c, .int .i64 R6, .int .i64 (rvn T o : Int)] 39)).cell? ⟨sb, off + k * 4 + 3, none⟩ = some (.int .i64 o.rev) := cc6 3 _ rfl
         have HT6 := hide (ha6.t.kept ((Kept.refl [] w6).alloc (.cells #[.bool (dn T o), .slice k6a k6n k6c, .slice v6a v6n v6c, .int .i64 R6, .int .i64 (rvn T o : Int)] 39)))
         have HK6 := hide hkc
         have HA6 := hide (((unhide HAX).kept ha6.kp (by simp; omega)).alloc (.cells #[.bool (dn T o), .slice k6a k6n k6c, .slice v6a v6n v6c, .int .i64 R6, .int .i64 (rvn T o : Int)] 39))
         have HB6 := hide (Blk.new w6 #[.bool (dn T o), .slice k6a k6n k6c, .slice v6a v6n v6c, .int .i64 R6, .int .i64 (rvn T o : Int)] 39)
         have HW6 := hide (writes_any (w6.alloc (.cells #[.bool (dn T o), .slice k6a k6n k6c, .slice v6a v6n v6c, .int .i64 R6, .int .i64 (rvn T o : Int)] 39)) o ks vs)
         unfold opv at HW6
         clear ha6 hk6 hkc cc6 HDO)
      | (go_at_call 20; refine (unhide HW6).mono ?_; rw [unhide HWD]; rintro e w7 ⟨rfl, hk7⟩
         have hkc := (unhide HK6).step hk7
         have cc6 : ∀ (j : Nat) (u : Value), [Value.int .i64 o.kind, ks, vs, .int .i64 o.rev][j]? = some u → w7.cell? ⟨sb, off + k * 4 + j, none⟩ = some u := fun j u hj => (hkc.cell (p := ⟨sb, off + k * 4 + j, none⟩) (unhide HSB) (by simp)).trans (unhide HRG j u hj)
         have r0 : w7.cell? ⟨sb, off + k * 4, none⟩ = some (.int .i64 o.kind) := cc6 0 _ rfl
         have r1 : w7.cell? ⟨sb, off + k * 4 + 1, none⟩ = some ks := cc6 1 _ rfl
         have r2 : w7.cell? ⟨sb, off + k * 4 + 2, none⟩ = some vs := cc6 2 _ rfl
         have r3 : w7.cell? ⟨sb, off + k * 4 + 3, none⟩ = some (.int .i64 o.rev) := cc6 3 _ rfl
         have HT7 := hide ((unhide HT6).kept hk7)
         have HA7 := hide ((unhide HA6).kept hk7 (by simp))
         have HB7 := hide ((unhide HB6).kept hk7 (by simp))
         have HK7 := hide hkc
         have HSA := hide (same_full ((unhide HOK).kept hkc) ((unhide HWK).kept hkc) (by have := unhide HOL; omega))
         clear hk7 hkc cc6 HW6)
      | (go_at_call 12; refine (unhide HSA).mono ?_; rw [unhide HSD]; rintro e w8 ⟨rfl, hk8⟩
         have HT8 := hide ((unhide HT7).kept hk8)
         have HA8 := hide ((unhide HA7).kept hk8 (by simp))
         have HK8 := hide ((unhide HK7).step hk8)
         obtain ⟨⟨u0, u1, u2, u3, u4⟩, -⟩ := box5 ((unhide HB7).kept hk8 (by simp))
         clear hk8 HSA))
                refine ⟨⟨k + 1, true, by omega, rfl, by simp, by rw [unhide HTK]; exact unhide HT8, by rw [unhide HTK]; exact unhide HNX, unhide HK8, unhide HA8⟩, by simp [intOf]; omega⟩
            · have HSD : Hid (decide (o.key = key) = false) := decide_eq_false he
              have HNX := hide ((unhide HBT).skip hr (fun z => he (strB_inj hkeyb kb (z.2.1.trans (unhide HKK).symm))))
              go_wp2_with (first
      | (go_at_call 15; refine (unhide HDO).mono ?_; rintro e w6 ⟨k6a, k6n, k6c, v6a, v6n, v6c, rfl, ha6⟩
         have hk6 := (unhide HKR).trans ha6.kp (by simp; exact hb0)
         have hkc := hk6.alloc (.cells #[.bool (dn T o), .slice k6a k6n k6c, .slice v6a v6n v6c, .int .i64 R6, .int .i64 (rvn T o : Int)] 39)
         have cc6 : ∀ (j : Nat) (u : Value), [Value.int .i64 o.kind, ks, vs, .int .i64 o.rev][j]? = some u → (w6.alloc (.cells #[.bool (dn T o), .slice k6a k6n k6c, .slice v6a v6n v6c, .int .i64 R6, .int .i64 (rvn T o : Int)] 39)).cell? ⟨sb, off + k * 4 + j, none⟩ = some u := fun j u hj => (hkc.cell (p := ⟨sb, off + k * 4 + j, none⟩) (unhide HSB) (by simp)).trans (unhide HRG j u hj)
         have q0 : (w6.alloc (.cells #[.bool (dn T o), .slice k6a k6n k6c, .slice v6a v6n v6c, .int .i64 R6, .int .i64 (rvn T o : Int)] 39)).cell? ⟨sb, off + k * 4, none⟩ = some (.int .i64 o.kind) := cc6 0 _ rfl
         have q1 : (w6.alloc (.cells #[.bool (dn T o), .slice k6a k6n k6c, .slice v6a v6n v6c, .int .i64 R6, .int .i64 (rvn T o : Int)] 39)).cell? ⟨sb, off + k * 4 + 1, none⟩ = some ks := cc6 1 _ rfl
         have q2 : (w6.alloc (.cells #[.bool (dn T o), .slice k6a k6n k6c, .slice v6a v6n v6c, .int .i64 R6, .int .i64 (rvn T o : Int)] 39)).cell? ⟨sb, off + k * 4 + 2, none⟩ = some vs := cc6 2 _ rfl
         have q3 : (w6.alloc (.cells #[.bool (dn T o), .slice k6a k6n k6c, .slice v6a v6n v6c, .int .i64 R6, .int .i64 (rvn T o : Int)] 39)).cell? ⟨sb, off + k * 4 + 3, none⟩ = some (.int .i64 o.rev) := cc6 3 _ rfl
         have HT6 := hide (ha6.t.kept ((Kept.refl [] w6).alloc (.cells #[.bool (dn T o), .slice k6a k6n k6c, .slice v6a v6n v6c, .int .i64 R6, .int .i64 (rvn T o : Int)] 39)))
         have HK6 := hide hkc
         have HA6 := hide (((unhide HAX).kept ha6.kp (by simp; omega)).alloc (.cells #[.bool (dn T o), .slice k6a k6n k6c, .slice v6a v6n v6c, .int .i64 R6, .int .i64 (rvn T o : Int)] 39))
         have HB6 := hide (Blk.new w6 #[.bool (dn T o), .slice k6a k6n k6c, .slice v6a v6n v6c, .int .i64 R6, .int .i64 (rvn T o : Int)] 39)
         have HW6 := hide (writes_any (w6.alloc (.cells #[.bool (dn T o), .slice k6a k6n k6c, .slice v6a v6n v6c, .int .i64 R6, .int .i64 (rvn T o : Int)] 39)) o ks vs)
         unfold opv at HW6
         clear ha6 hk6 hkc cc6 HDO)
      | (go_at_call 20; refine (unhide HW6).mono ?_; rw [unhide HWD]; rintro e w7 ⟨rfl, hk7⟩
         have hkc := (unhide HK6).step hk7
         have cc6 : ∀ (j : Nat) (u : Value), [Value.int .i64 o.kind, ks, vs, .int .i64 o.rev][j]? = some u → w7.cell? ⟨sb, off + k * 4 + j, none⟩ = some u := fun j u hj => (hkc.cell (p := ⟨sb, off + k * 4 + j, none⟩) (unhide HSB) (by simp)).trans (unhide HRG j u hj)
         have r0 : w7.cell? ⟨sb, off + k * 4, none⟩ = some (.int .i64 o.kind) := cc6 0 _ rfl
         have r1 : w7.cell? ⟨sb, off + k * 4 + 1, none⟩ = some ks := cc6 1 _ rfl
         have r2 : w7.cell? ⟨sb, off + k * 4 + 2, none⟩ = some vs := cc6 2 _ rfl
         have r3 : w7.cell? ⟨sb, off + k * 4 + 3, none⟩ = some (.int .i64 o.rev) := cc6 3 _ rfl
         have HT7 := hide ((unhide HT6).kept hk7)
         have HA7 := hide ((unhide HA6).kept hk7 (by simp))
         have HB7 := hide ((unhide HB6).kept hk7 (by simp))
         have HK7 := hide hkc
         have HSA := hide (same_full ((unhide HOK).kept hkc) ((unhide HWK).kept hkc) (by have := unhide HOL; omega))
         clear hk7 hkc cc6 HW6)
      | (go_at_call 12; refine (unhide HSA).mono ?_; rw [unhide HSD]; rintro e w8 ⟨rfl, hk8⟩
         have HT8 := hide ((unhide HT7).kept hk8)
         have HA8 := hide ((unhide HA7).kept hk8 (by simp))
         have HK8 := hide ((unhide HK7).step hk8)
         obtain ⟨⟨u0, u1, u2, u3, u4⟩, -⟩ := box5 ((unhide HB7).kept hk8 (by simp))
         clear hk8 HSA))
              refine ⟨⟨k + 1, ch, by omega, rfl, by simp, by rw [unhide HTK]; exact unhide HT8, by rw [unhide HTK]; exact unhide HNX, unhide HK8, unhide HA8⟩, by simp [intOf]; omega⟩
          · have HWD : Hid (decide (o.kind = 2 ∨ o.kind = 3 ∨ o.kind = 4) = false) := decide_eq_false hw
            have HNX := hide ((unhide HBT).skip hr (fun z => hw z.1))
            go_wp2_with (first
      | (go_at_call 15; refine (unhide HDO).mono ?_; rintro e w6 ⟨k6a, k6n, k6c, v6a, v6n, v6c, rfl, ha6⟩
         have hk6 := (unhide HKR).trans ha6.kp (by simp; exact hb0)
         have hkc := hk6.alloc (.cells #[.bool (dn T o), .slice k6a k6n k6c, .slice v6a v6n v6c, .int .i64 R6, .int .i64 (rvn T o : Int)] 39)
         have cc6 : ∀ (j : Nat) (u : Value), [Value.int .i64 o.kind, ks, vs, .int .i64 o.rev][j]? = some u → (w6.alloc (.cells #[.bool (dn T o), .slice k6a k6n k6c, .slice v6a v6n v6c, .int .i64 R6, .int .i64 (rvn T o : Int)] 39)).cell? ⟨sb, off + k * 4 + j, none⟩ = some u := fun j u hj => (hkc.cell (p := ⟨sb, off + k * 4 + j, none⟩) (unhide HSB) (by simp)).trans (unhide HRG j u hj)
         have q0 : (w6.alloc (.cells #[.bool (dn T o), .slice k6a k6n k6c, .slice v6a v6n v6c, .int .i64 R6, .int .i64 (rvn T o : Int)] 39)).cell? ⟨sb, off + k * 4, none⟩ = some (.int .i64 o.kind) := cc6 0 _ rfl
         have q1 : (w6.alloc (.cells #[.bool (dn T o), .slice k6a k6n k6c, .slice v6a v6n v6c, .int .i64 R6, .int .i64 (rvn T o : Int)] 39)).cell? ⟨sb, off + k * 4 + 1, none⟩ = some ks := cc6 1 _ rfl
         have q2 : (w6.alloc (.cells #[.bool (dn T o), .slice k6a k6n k6c, .slice v6a v6n v6c, .int .i64 R6, .int .i64 (rvn T o : Int)] 39)).cell? ⟨sb, off + k * 4 + 2, none⟩ = some vs := cc6 2 _ rfl
         have q3 : (w6.alloc (.cells #[.bool (dn T o), .slice k6a k6n k6c, .slice v6a v6n v6c, .int .i64 R6, .int .i64 (rvn T o : Int)] 39)).cell? ⟨sb, off + k * 4 + 3, none⟩ = some (.int .i64 o.rev) := cc6 3 _ rfl
         have HT6 := hide (ha6.t.kept ((Kept.refl [] w6).alloc (.cells #[.bool (dn T o), .slice k6a k6n k6c, .slice v6a v6n v6c, .int .i64 R6, .int .i64 (rvn T o : Int)] 39)))
         have HK6 := hide hkc
         have HA6 := hide (((unhide HAX).kept ha6.kp (by simp; omega)).alloc (.cells #[.bool (dn T o), .slice k6a k6n k6c, .slice v6a v6n v6c, .int .i64 R6, .int .i64 (rvn T o : Int)] 39))
         have HB6 := hide (Blk.new w6 #[.bool (dn T o), .slice k6a k6n k6c, .slice v6a v6n v6c, .int .i64 R6, .int .i64 (rvn T o : Int)] 39)
         have HW6 := hide (writes_any (w6.alloc (.cells #[.bool (dn T o), .slice k6a k6n k6c, .slice v6a v6n v6c, .int .i64 R6, .int .i64 (rvn T o : Int)] 39)) o ks vs)
         unfold opv at HW6
         clear ha6 hk6 hkc cc6 HDO)
      | (go_at_call 20; refine (unhide HW6).mono ?_; rw [unhide HWD]; rintro e w7 ⟨rfl, hk7⟩
         have hkc := (unhide HK6).step hk7
         have cc6 : ∀ (j : Nat) (u : Value), [Value.int .i64 o.kind, ks, vs, .int .i64 o.rev][j]? = some u → w7.cell? ⟨sb, off + k * 4 + j, none⟩ = some u := fun j u hj => (hkc.cell (p := ⟨sb, off + k * 4 + j, none⟩) (unhide HSB) (by simp)).trans (unhide HRG j u hj)
         have r0 : w7.cell? ⟨sb, off + k * 4, none⟩ = some (.int .i64 o.kind) := cc6 0 _ rfl
         have r1 : w7.cell? ⟨sb, off + k * 4 + 1, none⟩ = some ks := cc6 1 _ rfl
         have r2 : w7.cell? ⟨sb, off + k * 4 + 2, none⟩ = some vs := cc6 2 _ rfl
         have r3 : w7.cell? ⟨sb, off + k * 4 + 3, none⟩ = some (.int .i64 o.rev) := cc6 3 _ rfl
         have HT7 := hide ((unhide HT6).kept hk7)
         have HA7 := hide ((unhide HA6).kept hk7 (by simp))
         have HB7 := hide ((unhide HB6).kept hk7 (by simp))
         have HK7 := hide hkc
         have HSA := hide (same_full ((unhide HOK).kept hkc) ((unhide HWK).kept hkc) (by have := unhide HOL; omega))
         clear hk7 hkc cc6 HW6))
            refine ⟨⟨k + 1, ch, by omega, rfl, by simp, by rw [unhide HTK]; exact unhide HT7, by rw [unhide HTK]; exact unhide HNX, unhide HK7, unhide HA7⟩, by simp [intOf]; omega⟩
        · have hst : stp T o = T := by unfold stp; rw [if_neg hr]
          rw [hst] at HTK
          have HDO := hide (Do_no ht hoar hr)
          unfold opv at HDO
          have hrb : (rfs T o == 0) = false := by simp; exact hr
          have hrc : (rfs T o != 0) = true := by simp; exact hr
          generalize rfs T o = er at *
          have HTT := hide ht
          clear ht hbt hkr hab cc hrg hsb hoa hlk hlv htk hst hoar hTe ho hko
          go_wp2_with (first
            | (go_at_call 15; refine (unhide HDO).mono ?_; rintro e w6 ⟨rfl, hk6⟩
               replace hk6 := hk6.alloc (.cells #[.bool false, .slice none 0 0, .slice none 0 0, .int .i64 0, .int .i64 0] 39)
               have HT6 := hide ((unhide HTT).kept hk6)
               have HA6 := hide ((unhide HAX).kept hk6 (by simp))
               have HK6 := hide ((unhide HKR).step hk6)
               clear hk6 HDO))
          refine ⟨⟨k + 1, ch, by omega, rfl, by simp, by rw [unhide HTK]; exact unhide HT6, by rw [unhide HTK]; exact unhide HBT, unhide HK6, unhide HA6⟩, by simp [intOf]; omega⟩
      · obtain rfl : k = L := by omega
        have htl : between.take k = between := List.take_of_length_le (by rw [unhide HL]; exact Nat.le_refl _)
        rw [htl] at ht HBT
        have hTk := fold_tok between Ta hTa
        have hrT := fold_rev between Ta
        rw [unhide HL] at hrT
        obtain ⟨T, hTe⟩ : ∃ T, between.foldl stp Ta = T := ⟨_, rfl⟩
        rw [hTe] at ht HBT hTk hrT
        have hl40 : T.rev < 1099511627776 := by omega
        have har0 : 0 ≤ ar ∧ ar ≤ 1099511627776 := by
          have e1 := unhide HAR
          cases hq : fa with
          | none => rw [hq] at e1; simp only [fv, Option.getD_none] at e1; omega
          | some e2 => have := unhide HFA0 e2 hq; rw [hq] at e1; simp only [fv, Option.getD_some] at e1; omega
        obtain ⟨⟨a0, a1, a2, a3, a4⟩, -⟩ := box5 hab
        have HTT := hide ht
        clear ht hbt hkr hab htl hTe
        have hki : ((k : Int) < (k : Int)) = False := by simp
        by_cases hvv : value.length ≤ 256
        · have hr6 : rfs T ⟨4, key, value, ar⟩ = 0 := by rw [swap_rfs hkey har0 hl40, if_pos hvv]
          have hT2 := hTk.nxt hr6
          have hf2 := swap_find hTk hr6
          obtain ⟨T2, hT2e⟩ : ∃ T2, nxt T ⟨4, key, value, ar⟩ = T2 := ⟨_, rfl⟩
          have HSW : ∀ W, Tab W b T → Kept [] w W → Hid _ := fun W (h1 : Tab W b T) (h2 : Kept [] w W) => hide (swap_yes (r := ar) h1 hTk ((unhide HWK).kept h2) ((unhide HWV).kept h2) kb vb (kl.free hb0) (vl.free hb0) hkey har0 hl40 hvv)
          have HD8 : ∀ W, Tab W b T2 → Wide W (.slice ka key.length kc) key → Free b (.slice ka key.length kc) → Hid _ := fun W h1 h2 h3 => hide (get_yes h1 (hT2e ▸ hT2) h2 kb h3 hkey)
          rw [hT2e] at HSW hf2
          rw [hf2] at HD8
          have hab : b < wr.heap.size := by obtain ⟨q0, hbb, -⟩ := unhide HTT; exact hbb.lt
          obtain ⟨fr, hfr⟩ : ∃ fr, (fv (T.t.find (strB key))).2 = fr := ⟨_, rfl⟩
          rw [hfr] at HSW HD8
          have hsv : byts (strB value) = value := byts_strB vb
          by_cases hcd : fr = ar
          · have hcb : (fr == ar) = true := by simp; exact hcd
            rw [hcb] at HSW HD8
            simp only [if_true, bv, Option.isSome_some, fv, Option.getD_some, hsv] at HD8
            have hch : ch = false ∨ (ch = true ∧ ad = false ∧ ar = 0) := by
              cases hc : ch with
              | false => exact Or.inl rfl
              | true =>
                right
                have h1 := unhide HBT
                rw [hc] at h1
                have h2 := h1.done (unhide HFA0) (by rw [← unhide HKK, hfr, hcd]; exact (unhide HAR).symm)
                exact ⟨rfl, (unhide HAD) ▸ h2.1, (unhide HAR) ▸ h2.2⟩
            have hcd2 := hcd.symm
            clear hf2 hT2 hTk hfr hcb hr6 hT2e hcd
            subst hcd2
            rcases hch with rfl | ⟨rfl, rfl, rfl⟩
            · go_wp2_with (first
              | (go_at_call 15; refine (unhide (HSW _ ((unhide HTT).kept ((Kept.refl [] wr).alloc _)) ((unhide HKR).alloc _))).mono ?_; rintro e w6 ⟨k6a, k6n, k6c, v6a, v6n, v6c, rfl, nv6, ht6, hk6⟩
                 have hK6 := (((unhide HKR).alloc _).trans hk6 (by simp; exact hb0)).alloc (.cells #[.bool true, .slice k6a k6n k6c, .slice v6a v6n v6c, .int .i64 ar, .int .i64 ((T.rev : Int) + 1)] 39)
                 have HK6 := hide hK6
                 have hbl6 : b < w6.heap.size := by obtain ⟨q0, hbb, -⟩ := ht6; exact hbb.lt
                 have hz6 := ((Kept.refl [] wr).alloc (.cells #[.int .i64 4, .slice ka key.length kc, .slice va value.length vc, .int .i64 ar] 36)).size
                 have HT6 := hide (ht6.kept ((Kept.refl [] w6).alloc (.cells #[.bool true, .slice k6a k6n k6c, .slice v6a v6n v6c, .int .i64 ar, .int .i64 ((T.rev : Int) + 1)] 39)))
                 have HA6 := hide (((((unhide HAX).alloc (.cells #[.int .i64 4, .slice ka key.length kc, .slice va value.length vc, .int .i64 ar] 36)).kept hk6 (by simp; omega))).alloc (.cells #[.bool true, .slice k6a k6n k6c, .slice v6a v6n v6c, .int .i64 ar, .int .i64 ((T.rev : Int) + 1)] 39))
                 have HC6 := hide (Blk.new w6 #[.bool true, .slice k6a k6n k6c, .slice v6a v6n v6c, .int .i64 ar, .int .i64 ((T.rev : Int) + 1)] 39)
                 have HN6 := hide (nv6.kept ((Kept.refl [] w6).alloc (.cells #[.bool true, .slice k6a k6n k6c, .slice v6a v6n v6c, .int .i64 ar, .int .i64 ((T.rev : Int) + 1)] 39)) (by simp))
                 clear nv6 ht6 hk6 hK6 HSW)
              | (go_at_call 18; refine (unhide (HG _)).mono ?_; rintro e w7 ⟨rfl, hk7⟩
                 have HK7 := hide ((unhide HK6).step hk7)
                 have HE7 := hide (HD8 w7 ((unhide HT6).kept hk7) ((unhide HWK).kept (unhide HK7)) (kl.free hb0))
                 have HA7 := hide ((unhide HA6).kept hk7 (by simp))
                 have HC7 := hide ((unhide HC6).kept hk7 (by simp))
                 have HN7 := hide ((unhide HN6).kept hk7 (by simp))
                 clear hk7 HT6 HA6 HC6 HN6)
              | (go_at_call 15; refine (unhide (unhide HE7)).mono ?_; rintro e w8 ⟨k8a, k8n, k8c, v8a, v8n, v8c, rfl, nv8, -, hk8⟩
                 have hK8 := ((unhide HK7).trans hk8 (by simp; exact hb0)).alloc (.cells #[.bool true, .slice k8a k8n k8c, .slice v8a v8n v8c, .int .i64 ((T.rev : Int) + 1), .int .i64 (T2.rev : Int)] 39)
                 have hA8 := ((unhide HA7).kept hk8 (by simp; omega)).alloc (.cells #[.bool true, .slice k8a k8n k8c, .slice v8a v8n v8c, .int .i64 ((T.rev : Int) + 1), .int .i64 (T2.rev : Int)] 39)
                 have hC8 := ((unhide HC7).kept hk8 (by simp; omega)).alloc (.cells #[.bool true, .slice k8a k8n k8c, .slice v8a v8n v8c, .int .i64 ((T.rev : Int) + 1), .int .i64 (T2.rev : Int)] 39)
                 have hDD := Blk.new w8 #[.bool true, .slice k8a k8n k8c, .slice v8a v8n v8c, .int .i64 ((T.rev : Int) + 1), .int .i64 (T2.rev : Int)] 39
                 have hnv8 := nv8.kept ((Kept.refl [] w8).alloc (.cells #[.bool true, .slice k8a k8n k8c, .slice v8a v8n v8c, .int .i64 ((T.rev : Int) + 1), .int .i64 (T2.rev : Int)] 39)) (by simp)
                 have hnv6 := ((unhide HN7).kept hk8 (fun x hx => by have := (unhide HN7).2 x hx; have := (unhide HKR).size; have := hab; simp; omega)).kept ((Kept.refl [] w8).alloc (.cells #[.bool true, .slice k8a k8n k8c, .slice v8a v8n v8c, .int .i64 ((T.rev : Int) + 1), .int .i64 (T2.rev : Int)] 39)) (by simp)
                 obtain ⟨⟨a0', a1', a2', a3', a4'⟩, -⟩ := box5 hA8
                 obtain ⟨⟨c0', c1', c2', c3', c4'⟩, -⟩ := box5 hC8
                 obtain ⟨⟨d0', d1', d2', d3', d4'⟩, -⟩ := box5 hDD
                 have HSA := hide (same_full (Or.inl hnv8.1) ((unhide HWV).kept hK8) (by omega))
                 have HK8 := hide hK8
                 have HA8 := hide hA8
                 have HC8 := hide hC8
                 have HD8' := hide hDD
                 clear nv8 hk8 HE7 hnv8 hnv6 hK8 hA8 hC8 hDD HA7 HC7 HN7)
              | (go_at_call 12; refine (unhide HSA).mono ?_; simp only [decide_true]; rintro e w9 ⟨rfl, hk9⟩
                 have HK9 := hide ((unhide HK8).step hk9)
                 obtain ⟨⟨a0x, a1x, a2x, a3x, a4x⟩, -⟩ := box5 ((unhide HA8).kept hk9 (by simp))
                 obtain ⟨⟨c0x, c1x, c2x, c3x, c4x⟩, -⟩ := box5 ((unhide HC8).kept hk9 (by simp))
                 obtain ⟨⟨d0x, d1x, d2x, d3x, d4x⟩, -⟩ := box5 ((unhide HD8').kept hk9 (by simp))
                 clear hk9 HSA))
              go_ret
              exact ⟨rfl, unhide HK9⟩
            · go_wp2_with (first
              | (go_at_call 15; refine (unhide (HSW _ ((unhide HTT).kept ((Kept.refl [] wr).alloc _)) ((unhide HKR).alloc _))).mono ?_; rintro e w6 ⟨k6a, k6n, k6c, v6a, v6n, v6c, rfl, nv6, ht6, hk6⟩
                 have hK6 := (((unhide HKR).alloc _).trans hk6 (by simp; exact hb0)).alloc (.cells #[.bool true, .slice k6a k6n k6c, .slice v6a v6n v6c, .int .i64 0, .int .i64 ((T.rev : Int) + 1)] 39)
                 have HK6 := hide hK6
                 have hbl6 : b < w6.heap.size := by obtain ⟨q0, hbb, -⟩ := ht6; exact hbb.lt
                 have hz6 := ((Kept.refl [] wr).alloc (.cells #[.int .i64 4, .slice ka key.length kc, .slice va value.length vc, .int .i64 0] 36)).size
                 have HT6 := hide (ht6.kept ((Kept.refl [] w6).alloc (.cells #[.bool true, .slice k6a k6n k6c, .slice v6a v6n v6c, .int .i64 0, .int .i64 ((T.rev : Int) + 1)] 39)))
                 have HA6 := hide (((((unhide HAX).alloc (.cells #[.int .i64 4, .slice ka key.length kc, .slice va value.length vc, .int .i64 0] 36)).kept hk6 (by simp; omega))).alloc (.cells #[.bool true, .slice k6a k6n k6c, .slice v6a v6n v6c, .int .i64 0, .int .i64 ((T.rev : Int) + 1)] 39))
                 have HC6 := hide (Blk.new w6 #[.bool true, .slice k6a k6n k6c, .slice v6a v6n v6c, .int .i64 0, .int .i64 ((T.rev : Int) + 1)] 39)
                 have HN6 := hide (nv6.kept ((Kept.refl [] w6).alloc (.cells #[.bool true, .slice k6a k6n k6c, .slice v6a v6n v6c, .int .i64 0, .int .i64 ((T.rev : Int) + 1)] 39)) (by simp))
                 clear nv6 ht6 hk6 hK6 HSW)
              | (go_at_call 18; refine (unhide (HG _)).mono ?_; rintro e w7 ⟨rfl, hk7⟩
                 have HK7 := hide ((unhide HK6).step hk7)
                 have HE7 := hide (HD8 w7 ((unhide HT6).kept hk7) ((unhide HWK).kept (unhide HK7)) (kl.free hb0))
                 have HA7 := hide ((unhide HA6).kept hk7 (by simp))
                 have HC7 := hide ((unhide HC6).kept hk7 (by simp))
                 have HN7 := hide ((unhide HN6).kept hk7 (by simp))
                 clear hk7 HT6 HA6 HC6 HN6)
              | (go_at_call 15; refine (unhide (unhide HE7)).mono ?_; rintro e w8 ⟨k8a, k8n, k8c, v8a, v8n, v8c, rfl, nv8, -, hk8⟩
                 have hK8 := ((unhide HK7).trans hk8 (by simp; exact hb0)).alloc (.cells #[.bool true, .slice k8a k8n k8c, .slice v8a v8n v8c, .int .i64 ((T.rev : Int) + 1), .int .i64 (T2.rev : Int)] 39)
                 have hA8 := ((unhide HA7).kept hk8 (by simp; omega)).alloc (.cells #[.bool true, .slice k8a k8n k8c, .slice v8a v8n v8c, .int .i64 ((T.rev : Int) + 1), .int .i64 (T2.rev : Int)] 39)
                 have hC8 := ((unhide HC7).kept hk8 (by simp; omega)).alloc (.cells #[.bool true, .slice k8a k8n k8c, .slice v8a v8n v8c, .int .i64 ((T.rev : Int) + 1), .int .i64 (T2.rev : Int)] 39)
                 have hDD := Blk.new w8 #[.bool true, .slice k8a k8n k8c, .slice v8a v8n v8c, .int .i64 ((T.rev : Int) + 1), .int .i64 (T2.rev : Int)] 39
                 have hnv8 := nv8.kept ((Kept.refl [] w8).alloc (.cells #[.bool true, .slice k8a k8n k8c, .slice v8a v8n v8c, .int .i64 ((T.rev : Int) + 1), .int .i64 (T2.rev : Int)] 39)) (by simp)
                 have hnv6 := ((unhide HN7).kept hk8 (fun x hx => by have := (unhide HN7).2 x hx; have := (unhide HKR).size; have := hab; simp; omega)).kept ((Kept.refl [] w8).alloc (.cells #[.bool true, .slice k8a k8n k8c, .slice v8a v8n v8c, .int .i64 ((T.rev : Int) + 1), .int .i64 (T2.rev : Int)] 39)) (by simp)
                 obtain ⟨⟨a0', a1', a2', a3', a4'⟩, -⟩ := box5 hA8
                 obtain ⟨⟨c0', c1', c2', c3', c4'⟩, -⟩ := box5 hC8
                 obtain ⟨⟨d0', d1', d2', d3', d4'⟩, -⟩ := box5 hDD
                 have HSA := hide (same_full (Or.inl hnv8.1) ((unhide HWV).kept hK8) (by omega))
                 have HK8 := hide hK8
                 have HA8 := hide hA8
                 have HC8 := hide hC8
                 have HD8' := hide hDD
                 clear nv8 hk8 HE7 hnv8 hnv6 hK8 hA8 hC8 hDD HA7 HC7 HN7)
              | (go_at_call 12; refine (unhide HSA).mono ?_; simp only [decide_true]; rintro e w9 ⟨rfl, hk9⟩
                 have HK9 := hide ((unhide HK8).step hk9)
                 obtain ⟨⟨a0x, a1x, a2x, a3x, a4x⟩, -⟩ := box5 ((unhide HA8).kept hk9 (by simp))
                 obtain ⟨⟨c0x, c1x, c2x, c3x, c4x⟩, -⟩ := box5 ((unhide HC8).kept hk9 (by simp))
                 obtain ⟨⟨d0x, d1x, d2x, d3x, d4x⟩, -⟩ := box5 ((unhide HD8').kept hk9 (by simp))
                 clear hk9 HSA))
              go_ret
              exact ⟨rfl, unhide HK9⟩
          · have hcb : (fr == ar) = false := by simp; exact hcd
            rw [hcb] at HSW HD8
            simp only [Bool.false_eq_true, if_false, hfr] at HD8
            have hch : ch = true := by
              cases hc : ch with
              | true => rfl
              | false =>
                exfalso
                have h1 := (unhide HBT).no hc
                rw [← unhide HKK] at h1
                exact hcd (by rw [← hfr, h1]; exact unhide HAR)
            subst hch
            obtain ⟨LV, hLV⟩ : ∃ LV, bv (T.t.find (strB key)) = LV := ⟨_, rfl⟩
            obtain ⟨fs, hfs⟩ : ∃ fs, (T.t.find (strB key)).isSome = fs := ⟨_, rfl⟩
            have hor : fs = true ∨ 0 < ar := by
              cases hq : T.t.find (strB key) with
              | some e2 => left; rw [← hfs, hq]; rfl
              | none =>
                right
                have : fr = 0 := by rw [← hfr, hq]; rfl
                have := har0.1
                omega
            have hLVl : LV.length ≤ 1048576 := by
              rw [← hLV]
              unfold bv
              cases hq : T.t.find (strB key) with
              | none => simp
              | some e2 =>
                have := (hTk.ok.rows e2 ((mem_find hTk.ok.rise).1 hq).1).2.1
                simp only [Option.isSome_some, if_true, byts_len, fv, Option.getD_some]; omega
            rw [hLV] at HSW HD8
            rw [hfs] at HD8
            clear hf2 hT2 hTk hfr hcb hr6 hT2e hLV hfs
            rcases hor with rfl | hor
            · by_cases hap : 0 < ar
              · have hap' : ((0 : Int) < ar) = True := by simp; exact hap
                go_wp2_with (first
              | (go_at_call 15; refine (unhide (HSW _ ((unhide HTT).kept ((Kept.refl [] wr).alloc _)) ((unhide HKR).alloc _))).mono ?_; rintro e w6 ⟨k6a, k6n, k6c, v6a, v6n, v6c, rfl, nv6, ht6, hk6⟩
                 have hK6 := (((unhide HKR).alloc _).trans hk6 (by simp; exact hb0)).alloc (.cells #[.bool false, .slice k6a k6n k6c, .slice v6a v6n v6c, .int .i64 fr, .int .i64 ((T.rev : Int) + 1)] 39)
                 have HK6 := hide hK6
                 have hbl6 : b < w6.heap.size := by obtain ⟨q0, hbb, -⟩ := ht6; exact hbb.lt
                 have hz6 := ((Kept.refl [] wr).alloc (.cells #[.int .i64 4, .slice ka key.length kc, .slice va value.length vc, .int .i64 ar] 36)).size
                 have HT6 := hide (ht6.kept ((Kept.refl [] w6).alloc (.cells #[.bool false, .slice k6a k6n k6c, .slice v6a v6n v6c, .int .i64 fr, .int .i64 ((T.rev : Int) + 1)] 39)))
                 have HA6 := hide (((((unhide HAX).alloc (.cells #[.int .i64 4, .slice ka key.length kc, .slice va value.length vc, .int .i64 ar] 36)).kept hk6 (by simp; omega))).alloc (.cells #[.bool false, .slice k6a k6n k6c, .slice v6a v6n v6c, .int .i64 fr, .int .i64 ((T.rev : Int) + 1)] 39))
                 have HC6 := hide (Blk.new w6 #[.bool false, .slice k6a k6n k6c, .slice v6a v6n v6c, .int .i64 fr, .int .i64 ((T.rev : Int) + 1)] 39)
                 have HN6 := hide (nv6.kept ((Kept.refl [] w6).alloc (.cells #[.bool false, .slice k6a k6n k6c, .slice v6a v6n v6c, .int .i64 fr, .int .i64 ((T.rev : Int) + 1)] 39)) (by simp))
                 clear nv6 ht6 hk6 hK6 HSW)
              | (go_at_call 18; refine (unhide (HG _)).mono ?_; rintro e w7 ⟨rfl, hk7⟩
                 have HK7 := hide ((unhide HK6).step hk7)
                 have HE7 := hide (HD8 w7 ((unhide HT6).kept hk7) ((unhide HWK).kept (unhide HK7)) (kl.free hb0))
                 have HA7 := hide ((unhide HA6).kept hk7 (by simp))
                 have HC7 := hide ((unhide HC6).kept hk7 (by simp))
                 have HN7 := hide ((unhide HN6).kept hk7 (by simp))
                 clear hk7 HT6 HA6 HC6 HN6)
              | (go_at_call 15; refine (unhide (unhide HE7)).mono ?_; rintro e w8 ⟨k8a, k8n, k8c, v8a, v8n, v8c, rfl, nv8, -, hk8⟩
                 have hK8 := ((unhide HK7).trans hk8 (by simp; exact hb0)).alloc (.cells #[.bool true, .slice k8a k8n k8c, .slice v8a v8n v8c, .int .i64 fr, .int .i64 (T2.rev : Int)] 39)
                 have hA8 := ((unhide HA7).kept hk8 (by simp; omega)).alloc (.cells #[.bool true, .slice k8a k8n k8c, .slice v8a v8n v8c, .int .i64 fr, .int .i64 (T2.rev : Int)] 39)
                 have hC8 := ((unhide HC7).kept hk8 (by simp; omega)).alloc (.cells #[.bool true, .slice k8a k8n k8c, .slice v8a v8n v8c, .int .i64 fr, .int .i64 (T2.rev : Int)] 39)
                 have hDD := Blk.new w8 #[.bool true, .slice k8a k8n k8c, .slice v8a v8n v8c, .int .i64 fr, .int .i64 (T2.rev : Int)] 39
                 have hnv8 := nv8.kept ((Kept.refl [] w8).alloc (.cells #[.bool true, .slice k8a k8n k8c, .slice v8a v8n v8c, .int .i64 fr, .int .i64 (T2.rev : Int)] 39)) (by simp)
                 have hnv6 := ((unhide HN7).kept hk8 (fun x hx => by have := (unhide HN7).2 x hx; have := (unhide HKR).size; have := hab; simp; omega)).kept ((Kept.refl [] w8).alloc (.cells #[.bool true, .slice k8a k8n k8c, .slice v8a v8n v8c, .int .i64 fr, .int .i64 (T2.rev : Int)] 39)) (by simp)
                 obtain ⟨⟨a0', a1', a2', a3', a4'⟩, -⟩ := box5 hA8
                 obtain ⟨⟨c0', c1', c2', c3', c4'⟩, -⟩ := box5 hC8
                 obtain ⟨⟨d0', d1', d2', d3', d4'⟩, -⟩ := box5 hDD
                 have HSA := hide (same_full (Or.inl hnv8.1) (Or.inl hnv6.1) (by omega))
                 have HK8 := hide hK8
                 have HA8 := hide hA8
                 have HC8 := hide hC8
                 have HD8' := hide hDD
                 clear nv8 hk8 HE7 hnv8 hnv6 hK8 hA8 hC8 hDD HA7 HC7 HN7)
              | (go_at_call 12; refine (unhide HSA).mono ?_; simp only [decide_true]; rintro e w9 ⟨rfl, hk9⟩
                 have HK9 := hide ((unhide HK8).step hk9)
                 obtain ⟨⟨a0x, a1x, a2x, a3x, a4x⟩, -⟩ := box5 ((unhide HA8).kept hk9 (by simp))
                 obtain ⟨⟨c0x, c1x, c2x, c3x, c4x⟩, -⟩ := box5 ((unhide HC8).kept hk9 (by simp))
                 obtain ⟨⟨d0x, d1x, d2x, d3x, d4x⟩, -⟩ := box5 ((unhide HD8').kept hk9 (by simp))
                 clear hk9 HSA))
                go_ret
                exact ⟨rfl, unhide HK9⟩
              · have hap' : ((0 : Int) < ar) = False := by simp; omega
                go_wp2_with (first
              | (go_at_call 15; refine (unhide (HSW _ ((unhide HTT).kept ((Kept.refl [] wr).alloc _)) ((unhide HKR).alloc _))).mono ?_; rintro e w6 ⟨k6a, k6n, k6c, v6a, v6n, v6c, rfl, nv6, ht6, hk6⟩
                 have hK6 := (((unhide HKR).alloc _).trans hk6 (by simp; exact hb0)).alloc (.cells #[.bool false, .slice k6a k6n k6c, .slice v6a v6n v6c, .int .i64 fr, .int .i64 ((T.rev : Int) + 1)] 39)
                 have HK6 := hide hK6
                 have hbl6 : b < w6.heap.size := by obtain ⟨q0, hbb, -⟩ := ht6; exact hbb.lt
                 have hz6 := ((Kept.refl [] wr).alloc (.cells #[.int .i64 4, .slice ka key.length kc, .slice va value.length vc, .int .i64 ar] 36)).size
                 have HT6 := hide (ht6.kept ((Kept.refl [] w6).alloc (.cells #[.bool false, .slice k6a k6n k6c, .slice v6a v6n v6c, .int .i64 fr, .int .i64 ((T.rev : Int) + 1)] 39)))
                 have HA6 := hide (((((unhide HAX).alloc (.cells #[.int .i64 4, .slice ka key.length kc, .slice va value.length vc, .int .i64 ar] 36)).kept hk6 (by simp; omega))).alloc (.cells #[.bool false, .slice k6a k6n k6c, .slice v6a v6n v6c, .int .i64 fr, .int .i64 ((T.rev : Int) + 1)] 39))
                 have HC6 := hide (Blk.new w6 #[.bool false, .slice k6a k6n k6c, .slice v6a v6n v6c, .int .i64 fr, .int .i64 ((T.rev : Int) + 1)] 39)
                 have HN6 := hide (nv6.kept ((Kept.refl [] w6).alloc (.cells #[.bool false, .slice k6a k6n k6c, .slice v6a v6n v6c, .int .i64 fr, .int .i64 ((T.rev : Int) + 1)] 39)) (by simp))
                 clear nv6 ht6 hk6 hK6 HSW)
              | (go_at_call 18; refine (unhide (HG _)).mono ?_; rintro e w7 ⟨rfl, hk7⟩
                 have HK7 := hide ((unhide HK6).step hk7)
                 have HE7 := hide (HD8 w7 ((unhide HT6).kept hk7) ((unhide HWK).kept (unhide HK7)) (kl.free hb0))
                 have HA7 := hide ((unhide HA6).kept hk7 (by simp))
                 have HC7 := hide ((unhide HC6).kept hk7 (by simp))
                 have HN7 := hide ((unhide HN6).kept hk7 (by simp))
                 clear hk7 HT6 HA6 HC6 HN6)
              | (go_at_call 15; refine (unhide (unhide HE7)).mono ?_; rintro e w8 ⟨k8a, k8n, k8c, v8a, v8n, v8c, rfl, nv8, -, hk8⟩
                 have hK8 := ((unhide HK7).trans hk8 (by simp; exact hb0)).alloc (.cells #[.bool true, .slice k8a k8n k8c, .slice v8a v8n v8c, .int .i64 fr, .int .i64 (T2.rev : Int)] 39)
                 have hA8 := ((unhide HA7).kept hk8 (by simp; omega)).alloc (.cells #[.bool true, .slice k8a k8n k8c, .slice v8a v8n v8c, .int .i64 fr, .int .i64 (T2.rev : Int)] 39)
                 have hC8 := ((unhide HC7).kept hk8 (by simp; omega)).alloc (.cells #[.bool true, .slice k8a k8n k8c, .slice v8a v8n v8c, .int .i64 fr, .int .i64 (T2.rev : Int)] 39)
                 have hDD := Blk.new w8 #[.bool true, .slice k8a k8n k8c, .slice v8a v8n v8c, .int .i64 fr, .int .i64 (T2.rev : Int)] 39
                 have hnv8 := nv8.kept ((Kept.refl [] w8).alloc (.cells #[.bool true, .slice k8a k8n k8c, .slice v8a v8n v8c, .int .i64 fr, .int .i64 (T2.rev : Int)] 39)) (by simp)
                 have hnv6 := ((unhide HN7).kept hk8 (fun x hx => by have := (unhide HN7).2 x hx; have := (unhide HKR).size; have := hab; simp; omega)).kept ((Kept.refl [] w8).alloc (.cells #[.bool true, .slice k8a k8n k8c, .slice v8a v8n v8c, .int .i64 fr, .int .i64 (T2.rev : Int)] 39)) (by simp)
                 obtain ⟨⟨a0', a1', a2', a3', a4'⟩, -⟩ := box5 hA8
                 obtain ⟨⟨c0', c1', c2', c3', c4'⟩, -⟩ := box5 hC8
                 obtain ⟨⟨d0', d1', d2', d3', d4'⟩, -⟩ := box5 hDD
                 have HSA := hide (same_full (Or.inl hnv8.1) (Or.inl hnv6.1) (by omega))
                 have HK8 := hide hK8
                 have HA8 := hide hA8
                 have HC8 := hide hC8
                 have HD8' := hide hDD
                 clear nv8 hk8 HE7 hnv8 hnv6 hK8 hA8 hC8 hDD HA7 HC7 HN7)
              | (go_at_call 12; refine (unhide HSA).mono ?_; simp only [decide_true]; rintro e w9 ⟨rfl, hk9⟩
                 have HK9 := hide ((unhide HK8).step hk9)
                 obtain ⟨⟨a0x, a1x, a2x, a3x, a4x⟩, -⟩ := box5 ((unhide HA8).kept hk9 (by simp))
                 obtain ⟨⟨c0x, c1x, c2x, c3x, c4x⟩, -⟩ := box5 ((unhide HC8).kept hk9 (by simp))
                 obtain ⟨⟨d0x, d1x, d2x, d3x, d4x⟩, -⟩ := box5 ((unhide HD8').kept hk9 (by simp))
                 clear hk9 HSA))
                go_ret
                exact ⟨rfl, unhide HK9⟩
            · have hap' : ((0 : Int) < ar) = True := by simp; exact hor
              go_wp2_with (first
              | (go_at_call 15; refine (unhide (HSW _ ((unhide HTT).kept ((Kept.refl [] wr).alloc _)) ((unhide HKR).alloc _))).mono ?_; rintro e w6 ⟨k6a, k6n, k6c, v6a, v6n, v6c, rfl, nv6, ht6, hk6⟩
                 have hK6 := (((unhide HKR).alloc _).trans hk6 (by simp; exact hb0)).alloc (.cells #[.bool false, .slice k6a k6n k6c, .slice v6a v6n v6c, .int .i64 fr, .int .i64 ((T.rev : Int) + 1)] 39)
                 have HK6 := hide hK6
                 have hbl6 : b < w6.heap.size := by obtain ⟨q0, hbb, -⟩ := ht6; exact hbb.lt
                 have hz6 := ((Kept.refl [] wr).alloc (.cells #[.int .i64 4, .slice ka key.length kc, .slice va value.length vc, .int .i64 ar] 36)).size
                 have HT6 := hide (ht6.kept ((Kept.refl [] w6).alloc (.cells #[.bool false, .slice k6a k6n k6c, .slice v6a v6n v6c, .int .i64 fr, .int .i64 ((T.rev : Int) + 1)] 39)))
                 have HA6 := hide (((((unhide HAX).alloc (.cells #[.int .i64 4, .slice ka key.length kc, .slice va value.length vc, .int .i64 ar] 36)).kept hk6 (by simp; omega))).alloc (.cells #[.bool false, .slice k6a k6n k6c, .slice v6a v6n v6c, .int .i64 fr, .int .i64 ((T.rev : Int) + 1)] 39))
                 have HC6 := hide (Blk.new w6 #[.bool false, .slice k6a k6n k6c, .slice v6a v6n v6c, .int .i64 fr, .int .i64 ((T.rev : Int) + 1)] 39)
                 have HN6 := hide (nv6.kept ((Kept.refl [] w6).alloc (.cells #[.bool false, .slice k6a k6n k6c, .slice v6a v6n v6c, .int .i64 fr, .int .i64 ((T.rev : Int) + 1)] 39)) (by simp))
                 clear nv6 ht6 hk6 hK6 HSW)
              | (go_at_call 18; refine (unhide (HG _)).mono ?_; rintro e w7 ⟨rfl, hk7⟩
                 have HK7 := hide ((unhide HK6).step hk7)
                 have HE7 := hide (HD8 w7 ((unhide HT6).kept hk7) ((unhide HWK).kept (unhide HK7)) (kl.free hb0))
                 have HA7 := hide ((unhide HA6).kept hk7 (by simp))
                 have HC7 := hide ((unhide HC6).kept hk7 (by simp))
                 have HN7 := hide ((unhide HN6).kept hk7 (by simp))
                 clear hk7 HT6 HA6 HC6 HN6)
              | (go_at_call 15; refine (unhide (unhide HE7)).mono ?_; rintro e w8 ⟨k8a, k8n, k8c, v8a, v8n, v8c, rfl, nv8, -, hk8⟩
                 have hK8 := ((unhide HK7).trans hk8 (by simp; exact hb0)).alloc (.cells #[.bool fs, .slice k8a k8n k8c, .slice v8a v8n v8c, .int .i64 fr, .int .i64 (T2.rev : Int)] 39)
                 have hA8 := ((unhide HA7).kept hk8 (by simp; omega)).alloc (.cells #[.bool fs, .slice k8a k8n k8c, .slice v8a v8n v8c, .int .i64 fr, .int .i64 (T2.rev : Int)] 39)
                 have hC8 := ((unhide HC7).kept hk8 (by simp; omega)).alloc (.cells #[.bool fs, .slice k8a k8n k8c, .slice v8a v8n v8c, .int .i64 fr, .int .i64 (T2.rev : Int)] 39)
                 have hDD := Blk.new w8 #[.bool fs, .slice k8a k8n k8c, .slice v8a v8n v8c, .int .i64 fr, .int .i64 (T2.rev : Int)] 39
                 have hnv8 := nv8.kept ((Kept.refl [] w8).alloc (.cells #[.bool fs, .slice k8a k8n k8c, .slice v8a v8n v8c, .int .i64 fr, .int .i64 (T2.rev : Int)] 39)) (by simp)
                 have hnv6 := ((unhide HN7).kept hk8 (fun x hx => by have := (unhide HN7).2 x hx; have := (unhide HKR).size; have := hab; simp; omega)).kept ((Kept.refl [] w8).alloc (.cells #[.bool fs, .slice k8a k8n k8c, .slice v8a v8n v8c, .int .i64 fr, .int .i64 (T2.rev : Int)] 39)) (by simp)
                 obtain ⟨⟨a0', a1', a2', a3', a4'⟩, -⟩ := box5 hA8
                 obtain ⟨⟨c0', c1', c2', c3', c4'⟩, -⟩ := box5 hC8
                 obtain ⟨⟨d0', d1', d2', d3', d4'⟩, -⟩ := box5 hDD
                 have HSA := hide (same_full (Or.inl hnv8.1) (Or.inl hnv6.1) (by omega))
                 have HK8 := hide hK8
                 have HA8 := hide hA8
                 have HC8 := hide hC8
                 have HD8' := hide hDD
                 clear nv8 hk8 HE7 hnv8 hnv6 hK8 hA8 hC8 hDD HA7 HC7 HN7)
              | (go_at_call 12; refine (unhide HSA).mono ?_; simp only [decide_true]; rintro e w9 ⟨rfl, hk9⟩
                 have HK9 := hide ((unhide HK8).step hk9)
                 obtain ⟨⟨a0x, a1x, a2x, a3x, a4x⟩, -⟩ := box5 ((unhide HA8).kept hk9 (by simp))
                 obtain ⟨⟨c0x, c1x, c2x, c3x, c4x⟩, -⟩ := box5 ((unhide HC8).kept hk9 (by simp))
                 obtain ⟨⟨d0x, d1x, d2x, d3x, d4x⟩, -⟩ := box5 ((unhide HD8').kept hk9 (by simp))
                 clear hk9 HSA))
              go_ret
              exact ⟨rfl, unhide HK9⟩
        · have hvi : ((256 : Int) < (value.length : Int)) = True := by simp; omega
          have hvj : (256 < value.length) = True := by simp; omega
          have HSW := fun W (h1 : Tab W b T) (h2 : Kept [] w W) => hide (swap_no (r := ar) h1 ((unhide HWK).kept h2) ((unhide HWV).kept h2) kb vb hkey har0 hl40 hvv)
          go_wp2_with (first
            | (go_at_call 15; refine (unhide (HSW _ ((unhide HTT).kept ((Kept.refl [] wr).alloc _)) ((unhide HKR).alloc _))).mono ?_; rintro e w6 ⟨rfl, hk6⟩
               have HK6 := hide ((((unhide HKR).alloc _).step hk6).alloc (.cells #[.bool false, .slice none 0 0, .slice none 0 0, .int .i64 0, .int .i64 0] 39))
               clear hk6 HSW))
          go_ret
          exact ⟨rfl, unhide HK6⟩
  · go_enter Try.func4, Try.ntmps4
    go_wp2_with (first
      | (go_at_call 8; refine (unhide HAW).mono ?_; rintro e w1 ⟨rfl, hk1⟩; have HK1 := hide hk1; clear hk1)
      | (go_at_call 17; refine (unhide (HMD _ (unhide HK1))).mono ?_; rintro e w2 ⟨b, rfl, ht2, hb2, hk2⟩
         have HT2 := hide ht2
         have HK2 := hide ((unhide HK1).step hk2)
         clear ht2 hk2)
      | (go_at_call 18; refine (unhide (HG _)).mono ?_; rintro e w3 ⟨rfl, hk3⟩
         have HK3 := hide ((unhide HK2).step hk3)
         have HD3 := hide (get_no ((unhide HT2).kept hk3) ((unhide HWK).kept (unhide HK3)) kb hkey)
         clear hk3 HT2)
      | (go_at_call 15; refine (unhide HD3).mono ?_; rintro e w4 ⟨rfl, hk4⟩
         have HK4 := hide (((unhide HK3).step hk4).alloc (.cells #[.bool false, .slice none 0 0, .slice none 0 0, .int .i64 0, .int .i64 0] 39))
         clear hk4 HD3)
      | (go_at_call 18; refine (unhide (HG _)).mono ?_; rintro e w5 ⟨rfl, hk5⟩
         have HK5 := hide ((unhide HK4).step hk5)
         have HR5 := hide (right_no ((unhide HWK).kept (unhide HK5)) kb hkey)
         clear hk5)
      | (go_at_call 19; refine (unhide HR5).mono ?_; rintro e w6 ⟨rfl, hk6⟩
         have HK6 := hide ((unhide HK5).step hk6)
         clear hk6))
    go_ret
    exact ⟨rfl, unhide HK6⟩
end Go.Proofs.Ytkejpbfbpomjfab.tre
