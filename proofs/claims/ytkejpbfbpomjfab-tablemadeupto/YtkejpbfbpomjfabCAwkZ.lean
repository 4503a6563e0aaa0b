/- awake: a table that keeps what it is told. -/
import Derived.Test.YtkejpbfbpomjfabPkBL
namespace Go.Proofs.Ytkejpbfbpomjfab.tre
open Go.RowKit

def O1 : Opm := ⟨2, [97], [49], 0⟩
def O2 : Opm := ⟨2, [97], [50], 0⟩
def O3 : Opm := ⟨1, [97], [], 0⟩
def O4 : Opm := ⟨0, [], [], 0⟩
def T0 : Tb := ⟨.nil, 0⟩
def T1 : Tb := ⟨.node .nil (strB [97]) (strB [49], 1) .nil, 1⟩
def T2 : Tb := ⟨.node .nil (strB [97]) (strB [50], 2) .nil, 2⟩
theorem r1 : rfs T0 O1 = 0 := by decide
theorem n1 : nxt T0 O1 = T1 := by kernel_rfl
theorem r2 : rfs T1 O2 = 0 := by decide
theorem n2 : nxt T1 O2 = T2 := by kernel_rfl
theorem r3 : rfs T2 O3 = 0 := by decide
theorem n3 : nxt T2 O3 = T2 := by kernel_rfl
theorem r4 : rfs T2 O4 = 131 := by decide
theorem d1 : dn T0 O1 = true ∧ (fnd T0 O1).isSome = false ∧ rvn T0 O1 = 1 := ⟨by kernel_rfl, by kernel_rfl, by kernel_rfl⟩
theorem d2 : dn T1 O2 = true ∧ (fnd T1 O2).isSome = true ∧ rvn T1 O2 = 2 ∧ fv (fnd T1 O2) = (strB [49], 1) := ⟨by kernel_rfl, by kernel_rfl, by kernel_rfl, by kernel_rfl⟩
theorem d3 : dn T2 O3 = true ∧ (fnd T2 O3).isSome = true ∧ rvn T2 O3 = 2 ∧ fv (fnd T2 O3) = (strB [50], 2) := ⟨by kernel_rfl, by kernel_rfl, by kernel_rfl, by kernel_rfl⟩
theorem tf2 : tblF T2 = [2, 1, 1, 97, 1, 50, 2] := by
  have h1 : byts (strB [97]) = [97] := byts_strB (by simp)
  have h2 : byts (strB [50]) = [50] := byts_strB (by simp)
  unfold tblF T2 rowsF rowF
  simp only [Tr.list, Tr.size, List.nil_append, List.flatMap_cons, List.flatMap_nil, h1, h2, strB_size, List.length_cons, List.length_nil]
  rw [form_small (show 2 < 128 by omega), form_small (show 0 + 1 + 0 < 128 by omega), form_small (show (2 : Int).toNat < 128 by decide)]
  rfl
theorem k1 : Tok T1 := by have := Tok.new.nxt r1; rwa [show nxt ⟨.nil, 0⟩ O1 = T1 from n1] at this
theorem k2 : Tok T2 := by have := k1.nxt r2; rwa [n2] at this
theorem b1 : byts (strB [49]) = [49] := byts_strB (by simp)
theorem b2 : byts (strB [50]) = [50] := byts_strB (by simp)
theorem lit1 (w : World) (x : Nat) : Sees (w.alloc (.cells #[.int .u8 (x : Int)] 5)) (.slice (some ⟨w.heap.size, 0, none⟩) 1 1) [x] := by
  refine Or.inr ⟨w.heap.size, 0, 1, rfl, by simp, by simp [maxLen], by simp, fun j hj => ?_⟩
  have : j = 0 := by simp at hj; omega
  subst this
  exact (Blk.new w #[.int .u8 (x : Int)] 5).cell 0
theorem lit2 (w : World) (x y : Nat) : Sees ((w.alloc (.cells #[.int .u8 (x : Int)] 5)).alloc (.cells #[.int .u8 (y : Int)] 5)) (.slice (some ⟨w.heap.size, 0, none⟩) 1 1) [x] ∧ Sees ((w.alloc (.cells #[.int .u8 (x : Int)] 5)).alloc (.cells #[.int .u8 (y : Int)] 5)) (.slice (some ⟨w.heap.size + 1, 0, none⟩) 1 1) [y] := by
  refine ⟨(lit1 w x).kept ((Kept.refl [] _).alloc _) (by simp), ?_⟩
  have h := lit1 (w.alloc (.cells #[.int .u8 (x : Int)] 5)) y
  rw [World.size_alloc] at h
  exact h
theorem lit7 (w : World) : Sees (w.alloc (.cells #[.int .u8 2, .int .u8 1, .int .u8 1, .int .u8 97, .int .u8 1, .int .u8 50, .int .u8 2] 5)) (.slice (some ⟨w.heap.size, 0, none⟩) 7 7) [2, 1, 1, 97, 1, 50, 2] := by
  refine Or.inr ⟨w.heap.size, 0, 7, rfl, by simp, by simp [maxLen], by simp, fun j hj => ?_⟩
  have hb := (Blk.new w #[.int .u8 2, .int .u8 1, .int .u8 1, .int .u8 97, .int .u8 1, .int .u8 50, .int .u8 2] 5).cell j
  rw [Nat.zero_add, hb]
  simp only [List.length_cons, List.length_nil] at hj
  have : j = 0 ∨ j = 1 ∨ j = 2 ∨ j = 3 ∨ j = 4 ∨ j = 5 ∨ j = 6 := by omega
  rcases this with rfl | rfl | rfl | rfl | rfl | rfl | rfl <;> rfl
theorem free_new {b : Nat} {n l c : Nat} (h : b < n) : Free b (.slice (some ⟨n, 0, none⟩) l c) := Or.inr fun x hx => by simp only [Value.ownBlock, Option.some.injEq] at hx; omega
theorem do1 {W : World} {b : Nat} {ks vs : Value} (h : Tab W b T0) (ho : OpAt W O1 ks vs) (h1 : Free b ks) (h2 : Free b vs) : Calls Try.prog 15 #[.pointer (some ⟨b, 0, none⟩), .agg #[.int .i64 2, ks, vs, .int .i64 0]] W fun e w' => ∃ ka kn kc va vn vc, e = .returned (.tuple #[.agg #[.bool true, .slice ka kn kc, .slice va vn vc, .int .i64 0, .int .i64 1], .int .i64 0]) ∧ Tab w' b T1 ∧ Kept [b] W w' := by
  refine (Do_yes h Tok.new ho h1 h2 r1).mono ?_
  rintro e w' ⟨ka, kn, kc, va, vn, vc, he, ha⟩
  rw [d1.1, d1.2.1, d1.2.2] at he
  have ht := ha.t
  rw [n1] at ht
  exact ⟨ka, kn, kc, va, vn, vc, he, ht, ha.kp⟩
theorem do2 {W : World} {b : Nat} {ks vs : Value} (h : Tab W b T1) (ho : OpAt W O2 ks vs) (h1 : Free b ks) (h2 : Free b vs) : Calls Try.prog 15 #[.pointer (some ⟨b, 0, none⟩), .agg #[.int .i64 2, ks, vs, .int .i64 0]] W fun e w' => ∃ ka kn kc va vn vc, e = .returned (.tuple #[.agg #[.bool true, .slice ka kn kc, .slice va vn vc, .int .i64 1, .int .i64 2], .int .i64 0]) ∧ Tab w' b T2 ∧ Kept [b] W w' ∧ NewS W (.slice va vn vc) [49] w' := by
  refine (Do_yes h k1 ho h1 h2 r2).mono ?_
  rintro e w' ⟨ka, kn, kc, va, vn, vc, he, ha⟩
  rw [d2.1, d2.2.1, d2.2.2.1, d2.2.2.2] at he
  have ht := ha.t
  have hv := ha.v
  rw [n2] at ht
  rw [d2.2.1, d2.2.2.2] at hv
  simp only [if_true, b1] at hv he
  exact ⟨ka, kn, kc, va, vn, vc, he, ht, ha.kp, hv⟩
theorem do3 {W : World} {b : Nat} {ks vs : Value} (h : Tab W b T2) (ho : OpAt W O3 ks vs) (h1 : Free b ks) (h2 : Free b vs) : Calls Try.prog 15 #[.pointer (some ⟨b, 0, none⟩), .agg #[.int .i64 1, ks, vs, .int .i64 0]] W fun e w' => ∃ ka kn kc va vn vc, e = .returned (.tuple #[.agg #[.bool true, .slice ka kn kc, .slice va vn vc, .int .i64 2, .int .i64 2], .int .i64 0]) ∧ Tab w' b T2 ∧ Kept [b] W w' ∧ NewS W (.slice va vn vc) [50] w' := by
  refine (Do_yes h k2 ho h1 h2 r3).mono ?_
  rintro e w' ⟨ka, kn, kc, va, vn, vc, he, ha⟩
  rw [d3.1, d3.2.1, d3.2.2.1, d3.2.2.2] at he
  have ht := ha.t
  have hv := ha.v
  rw [n3] at ht
  rw [d3.2.1, d3.2.2.2] at hv
  simp only [if_true, b2] at hv he
  exact ⟨ka, kn, kc, va, vn, vc, he, ht, ha.kp, hv⟩
theorem do4 {W : World} {b : Nat} (h : Tab W b T2) : Calls Try.prog 15 #[.pointer (some ⟨b, 0, none⟩), .agg #[.int .i64 0, .slice none 0 0, .slice none 0 0, .int .i64 0]] W fun e w' => e = .returned (.tuple #[.agg #[.bool false, .slice none 0 0, .slice none 0 0, .int .i64 0, .int .i64 0], .int .i64 131]) ∧ Kept [] W w' := by
  have ho : OpAt W O4 (.slice none 0 0) (.slice none 0 0) := ⟨Or.inl (Or.inl ⟨rfl, rfl⟩), Or.inl (Or.inl ⟨rfl, rfl⟩), (fun x hx => by cases hx), (fun x hx => by cases hx)⟩
  refine (Do_no h ho (by rw [r4]; decide)).mono ?_
  rintro e w' ⟨he, hk⟩
  rw [r4] at he
  exact ⟨he, hk⟩
theorem opat (W : World) {k v : Nat} (kd rv : Int) {ks vs : Value} (h1 : Sees W ks [k]) (h2 : Sees W vs [v]) (hk : k < 256) (hv : v < 256) : OpAt W ⟨kd, [k], [v], rv⟩ ks vs := ⟨Or.inl h1, Or.inl h2, by simp; omega, by simp; omega⟩
set_option maxRecDepth 100000 in
set_option maxHeartbeats 4000000 in
theorem awake_any (w : World) : Calls Try.prog 8 #[] w fun e w' => e = .returned (.bool true) ∧ Kept [] w w' := by
  have HN := hide (new_any w)
  have HP := fun W ka kn kc va vn vc => hide (lput_any W ka kn kc va vn vc)
  have HG := fun W ka kn kc => hide (lget_any W ka kn kc)
  go_enter Try.func8, Try.ntmps8
  go_wp2_with (first
    | (go_at_call 13; refine (unhide HN).mono ?_; rintro e w1 ⟨b, rfl, ht1, hb1, hk1⟩
       have hbl1 : b < w1.heap.size := by obtain ⟨q0, hb0, -⟩ := ht1; exact hb0.lt
       have HT1 := hide ht1
       have HK1 := hide hk1
       clear ht1 hk1 HN)
    | (go_at_call 14; refine (unhide (HP _ _ _ _ _ _ _)).mono ?_; rintro e w2 ⟨rfl, hk2⟩
       have hk12 := (((Kept.refl [] w1).alloc _).alloc _).step hk2
       have HD1 := hide (do1 ((unhide HT1).kept hk12) (opat w2 2 0 ((lit2 w1 97 49).1.kept hk2 (by simp)) ((lit2 w1 97 49).2.kept hk2 (by simp)) (by omega) (by omega)) (free_new hbl1) (free_new (by omega)))
       have HK2 := hide ((unhide HK1).step hk12)
       clear hk2 hk12 HT1)
    | (go_at_call 15; refine (unhide HD1).mono ?_; rintro e w3 ⟨ka, kn, kc, va, vn, vc, rfl, ht3, hk3⟩
       have hbl3 : b < w3.heap.size := by obtain ⟨q0, hb0, -⟩ := ht3; exact hb0.lt
       have HT3 := hide ht3
       have HK3 := hide ((unhide HK2).trans hk3 (by simp; exact hb1))
       clear ht3 hk3 HD1)
    | (go_at_call 14; refine (unhide (HP _ _ _ _ _ _ _)).mono ?_; rintro e w4 ⟨rfl, hk4⟩
       have hl4 := lit2 (w3.alloc (.cells #[.bool true, .slice ka kn kc, .slice va vn vc, .int .i64 0, .int .i64 1] 39)) 97 50
       simp only [World.size_alloc] at hl4
       have hk34 := ((((Kept.refl [] w3).alloc (.cells #[.bool true, .slice ka kn kc, .slice va vn vc, .int .i64 0, .int .i64 1] 39)).alloc (.cells #[.int .u8 97] 5)).alloc (.cells #[.int .u8 50] 5)).step hk4
       have HD2 := hide (do2 ((unhide HT3).kept hk34) (opat w4 2 0 (hl4.1.kept hk4 (by simp)) (hl4.2.kept hk4 (by simp)) (by omega) (by omega)) (free_new (by omega)) (free_new (by omega)))
       have hz34 := hk34.size
       have HK4 := hide ((unhide HK3).step hk34)
       have HA4 := hide ((((Blk.new w3 #[.bool true, .slice ka kn kc, .slice va vn vc, .int .i64 0, .int .i64 1] 39).alloc _).alloc _).kept hk4 (by simp))
       clear hl4 hk4 hk34 HT3)
    | (go_at_call 15; refine (unhide HD2).mono ?_; rintro e w5 ⟨kb, kbn, kbc, vb, vbn, vbc, rfl, ht5, hk5, hs5⟩
       have hbl5 : b < w5.heap.size := by obtain ⟨q0, hb0, -⟩ := ht5; exact hb0.lt
       have HT5 := hide ht5
       have HK5 := hide ((unhide HK4).trans hk5 (by simp; exact hb1))
       have HA5 := hide ((unhide HA4).kept hk5 (by simp; omega))
       have HS5 := hide hs5
       clear ht5 hk5 hs5 HD2 HA4)
    | (go_at_call 18; refine (unhide (HG _ _ _ _)).mono ?_; rintro e w6 ⟨rfl, hk6⟩
       have hl6 := lit1 (w5.alloc (.cells #[.bool true, .slice kb kbn kbc, .slice vb vbn vbc, .int .i64 1, .int .i64 2] 39)) 97
       simp only [World.size_alloc] at hl6
       have hk56 := (((Kept.refl [] w5).alloc (.cells #[.bool true, .slice kb kbn kbc, .slice vb vbn vbc, .int .i64 1, .int .i64 2] 39)).alloc (.cells #[.int .u8 97] 5)).step hk6
       have HD3 := hide (do3 ((unhide HT5).kept hk56) (ks := .slice (some ⟨w5.heap.size + 1, 0, none⟩) 1 1) (vs := .slice none 0 0) ⟨Or.inl (hl6.kept hk6 (by simp)), Or.inl (Or.inl ⟨rfl, rfl⟩), by simp [O3], by simp [O3]⟩ (free_new (by omega)) (Or.inr fun x hx => by cases hx))
       have HK6 := hide ((unhide HK5).step hk56)
       have HA6 := hide ((unhide HA5).kept hk56 (by simp))
       have HB6 := hide (((Blk.new w5 #[.bool true, .slice kb kbn kbc, .slice vb vbn vbc, .int .i64 1, .int .i64 2] 39).alloc _).kept hk6 (by simp))
       have HS6 := hide ((unhide HS5).kept hk56 (by simp))
       clear hl6 hk6 hk56 HT5 HA5 HS5)
    | (go_at_call 15; refine (unhide HD3).mono ?_; rintro e w7 ⟨kd, kdn, kdc, vd, vdn, vdc, rfl, ht7, hk7, hs7⟩
       have hbl7 : b < w7.heap.size := by obtain ⟨q0, hb0, -⟩ := ht7; exact hb0.lt
       have hnb5 : ∀ k, (Value.slice vb vbn vbc).ownBlock = some k → k ∉ [b] := fun k hq => by have := (unhide HS6).2 k hq; simp; omega
       have HK7 := hide (((unhide HK6).trans hk7 (by simp; exact hb1)).alloc (.cells #[.bool true, .slice kd kdn kdc, .slice vd vdn vdc, .int .i64 2, .int .i64 2] 39))
       have HA7 := hide (((unhide HA6).kept hk7 (by simp; omega)).alloc (.cells #[.bool true, .slice kd kdn kdc, .slice vd vdn vdc, .int .i64 2, .int .i64 2] 39))
       have HB7 := hide (((unhide HB6).kept hk7 (by simp; omega)).alloc (.cells #[.bool true, .slice kd kdn kdc, .slice vd vdn vdc, .int .i64 2, .int .i64 2] 39))
       have HC7 := hide (Blk.new w7 #[.bool true, .slice kd kdn kdc, .slice vd vdn vdc, .int .i64 2, .int .i64 2] 39)
       have HS7 := hide (((unhide HS6).kept hk7 hnb5).kept ((Kept.refl [] w7).alloc (.cells #[.bool true, .slice kd kdn kdc, .slice vd vdn vdc, .int .i64 2, .int .i64 2] 39)) (by simp))
       have HV7 := hide (hs7.kept ((Kept.refl [] w7).alloc (.cells #[.bool true, .slice kd kdn kdc, .slice vd vdn vdc, .int .i64 2, .int .i64 2] 39)) (by simp))
       have HT7 := hide (ht7.kept ((Kept.refl [] w7).alloc (.cells #[.bool true, .slice kd kdn kdc, .slice vd vdn vdc, .int .i64 2, .int .i64 2] 39)))
       have HD4 := hide (do4 (unhide HT7))
       clear ht7 hk7 hs7 HD3 hnb5 HA6 HB6 HS6)
    | (go_at_call 15; refine (unhide HD4).mono ?_; rintro e w8 ⟨rfl, hk8⟩
       replace hk8 := hk8.alloc (.cells #[.bool false, .slice none 0 0, .slice none 0 0, .int .i64 0, .int .i64 0] 39)
       have hK8 := (unhide HK7).step hk8
       have hA8 := (unhide HA7).kept hk8 (by simp)
       have hB8 := (unhide HB7).kept hk8 (by simp)
       have hC8 := (unhide HC7).kept hk8 (by simp)
       have hS8 := (unhide HS7).kept hk8 (by simp)
       have hV8 := (unhide HV7).kept hk8 (by simp)
       have hT8 := (unhide HT7).kept hk8
       have hz8 : (w8.alloc (.cells #[.bool false, .slice none 0 0, .slice none 0 0, .int .i64 0, .int .i64 0] 39)).heap.size = w8.heap.size + 1 := World.size_alloc _ _
       obtain ⟨⟨a0, a1, a2, a3, a4⟩, -⟩ := box5 hA8
       obtain ⟨⟨b0, b1', b2', b3, b4⟩, -⟩ := box5 hB8
       have hl9 := lit1 (w8.alloc (.cells #[.bool false, .slice none 0 0, .slice none 0 0, .int .i64 0, .int .i64 0] 39)) 49
       rw [hz8] at hl9
       have HSM := hide (same_full (w := (w8.alloc (.cells #[.bool false, .slice none 0 0, .slice none 0 0, .int .i64 0, .int .i64 0] 39)).alloc (.cells #[.int .u8 49] 5)) (Or.inl (hS8.1.kept ((Kept.refl [] _).alloc _) (by simp))) (Or.inl hl9) (by simp))
       have HK8 := hide (hK8.alloc (.cells #[.int .u8 49] 5))
       have HC8 := hide (hC8.alloc (.cells #[.int .u8 49] 5))
       have HV8 := hide (hV8.kept ((Kept.refl [] _).alloc (.cells #[.int .u8 49] 5)) (by simp))
       have HT8 := hide (hT8.kept ((Kept.refl [] _).alloc (.cells #[.int .u8 49] 5)))
       clear hk8 hK8 hA8 hB8 hC8 hS8 hV8 hT8 hl9 hz8 HD4 HA7 HB7 HC7 HS7 HV7 HT7)
    | (go_at_call 12; refine (unhide HSM).mono ?_; rintro e w9 ⟨rfl, hk9⟩
       have hC9 := (unhide HC8).kept hk9 (by simp)
       obtain ⟨⟨c0, c1, c2, c3, c4⟩, -⟩ := box5 hC9
       have HSN := hide (same_full (w := w9.alloc (.cells #[.int .u8 50] 5)) (Or.inl (((unhide HV8).1.kept hk9 (by simp)).kept ((Kept.refl [] _).alloc _) (by simp))) (Or.inl (lit1 w9 50)) (by simp))
       have HK9 := hide (((unhide HK8).step hk9).alloc (.cells #[.int .u8 50] 5))
       have HT9 := hide (((unhide HT8).kept hk9).kept ((Kept.refl [] _).alloc (.cells #[.int .u8 50] 5)))
       clear hk9 hC9 HSM HC8 HV8 HT8)
    | (go_at_call 12; refine (unhide HSN).mono ?_; rintro e w10 ⟨rfl, hk10⟩
       have HBY := hide (bytes_any ((unhide HT9).kept hk10) k2 (by rw [← tblF_len, tf2]; simp))
       have HK10 := hide ((unhide HK9).step hk10)
       clear hk10 HSN HT9)
    | (go_at_call 16; refine (unhide HBY).mono ?_; rw [tf2]; rintro e w11 ⟨ya, yc, rfl, ho11, hk11⟩
       have HSO := hide (same_full (w := w11.alloc (.cells #[.int .u8 2, .int .u8 1, .int .u8 1, .int .u8 97, .int .u8 1, .int .u8 50, .int .u8 2] 5)) (Or.inl ((Sees.of_own ho11).kept ((Kept.refl [] _).alloc _) (by simp))) (Or.inl (lit7 w11)) (by simp))
       have HK11 := hide (((unhide HK10).step hk11).alloc (.cells #[.int .u8 2, .int .u8 1, .int .u8 1, .int .u8 97, .int .u8 1, .int .u8 50, .int .u8 2] 5))
       clear ho11 hk11 HBY)
    | (go_at_call 12; refine (unhide HSO).mono ?_; rintro e w12 ⟨rfl, hk12⟩
       have HK12 := hide ((unhide HK11).step hk12)
       clear hk12 HSO))
  go_ret
  exact ⟨rfl, unhide HK12⟩
end Go.Proofs.Ytkejpbfbpomjfab.tre
