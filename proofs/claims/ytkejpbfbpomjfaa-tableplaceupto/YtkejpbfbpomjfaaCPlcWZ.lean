/- TablePlace. -/
import Derived.Test.YtkejpbfbpomjfaaCPlcRZ
namespace Go.Proofs.Ytkejpbfbpomjfaa.tre
open Go.RowKit
set_option linter.unusedVariables false

/-- the loop's state -/
structure PlS (w X : World) (b k : Nat) (T : Tb) (dv av sv : Value) (D S : List Oe) (A : List Ae) : Prop where
  m : Pm w X b T dv av sv D S A
  i : PlI T (D.map (·.o)) (A.map fun a => (a.T, a.o))
  e : S.map (·.o) = A.map (·.o)
  d : D.length ≤ k
  a : A.length ≤ k
theorem PlS.tok {w X : World} {b k : Nat} {T : Tb} {dv av sv : Value} {D S : List Oe} {A : List Ae} (h : PlS w X b k T dv av sv D S A) : Tok T := h.i.t ▸ mkT_tok _
theorem PlS.rev {w X : World} {b k : Nat} {T : Tb} {dv av sv : Value} {D S : List Oe} {A : List Ae} (h : PlS w X b k T dv av sv D S A) : T.rev = D.length := by rw [h.i.rev, List.length_map]
theorem PlS.len {w X : World} {b k : Nat} {T : Tb} {dv av sv : Value} {D S : List Oe} {A : List Ae} (h : PlS w X b k T dv av sv D S A) : S.length = A.length := by have := congrArg List.length h.e; simpa using this
theorem PlS.on {w X Y : World} {b k : Nat} {T : Tb} {dv av sv : Value} {D S : List Oe} {A : List Ae} (h : PlS w X b k T dv av sv D S A) (hk : Kept [] X Y) : PlS w Y b (k + 1) T dv av sv D S A := ⟨h.m.kept hk, h.i, h.e, Nat.le_succ_of_le h.d, Nat.le_succ_of_le h.a⟩
theorem PlS.write {w X Y : World} {b k : Nat} {T : Tb} {dv av sv dv' av' sv' : Value} {D S : List Oe} {A : List Ae} (h : PlS w X b k T dv av sv D S A) {o : Opm} {ks vs : Value} {r : Ae} (hrT : r.T = T) (hro : r.o = o) (hr : rfs T o = 0) (hw : wrs o = true) (hm : Pm w Y b (nxt T o) dv' av' sv' (D ++ [⟨o, ks, vs⟩]) (S ++ [⟨o, ks, vs⟩]) (A ++ [r])) : PlS w Y b (k + 1) (nxt T o) dv' av' sv' (D ++ [⟨o, ks, vs⟩]) (S ++ [⟨o, ks, vs⟩]) (A ++ [r]) := by
  refine ⟨hm, ?_, ?_, ?_, ?_⟩
  · have := h.i.write hr hw
    simpa [hrT, hro] using this
  · simp [h.e, hro]
  · have := h.d; simp; omega
  · have := h.a; simp; omega
theorem PlS.read {w X Y : World} {b k : Nat} {T : Tb} {dv av sv av' sv' : Value} {D S : List Oe} {A : List Ae} (h : PlS w X b k T dv av sv D S A) {o : Opm} {ks vs : Value} {r : Ae} (hrT : r.T = T) (hro : r.o = o) (hr : rfs T o = 0) (hw : wrs o = false) (hm : Pm w Y b (nxt T o) dv av' sv' D (S ++ [⟨o, ks, vs⟩]) (A ++ [r])) : PlS w Y b (k + 1) (nxt T o) dv av' sv' D (S ++ [⟨o, ks, vs⟩]) (A ++ [r]) := by
  refine ⟨hm, ?_, ?_, ?_, ?_⟩
  · have := h.i.read hr hw
    simpa [hrT, hro] using this
  · simp [h.e, hro]
  · have := h.d; omega
  · have := h.a; simp; omega
theorem akey_le {T : Tb} (h : Tok T) {o : Opm} : (akey T o).length ≤ 140737488355328 := by
  unfold akey
  cases hf : fnd T o with
  | none => simp
  | some e =>
    have := (h.ok.rows e (fnd_mem h.ok.rise hf)).1
    simp only [Option.isSome_some, if_true, fk, Option.getD_some, byts_len]
    omega
theorem aval_le {T : Tb} (h : Tok T) {o : Opm} : (aval T o).length ≤ 140737488355328 := by
  unfold aval
  cases hf : fnd T o with
  | none => simp
  | some e =>
    have := (h.ok.rows e (fnd_mem h.ok.rise hf)).2.1
    simp only [Option.isSome_some, if_true, fv, Option.getD_some, byts_len]
    omega
set_option maxRecDepth 100000 in
set_option maxHeartbeats 4000000 in
theorem place_any {w : World} {av : Value} {ops : List Opm} {which : Int} (ha : OpsIn w av ops) (hlen : ops.length ≤ 1048576) (hw1 : -9223372036854775808 ≤ which) (hw2 : which ≤ 9223372036854775807) :
    Calls Try.prog 3 #[av, .int .i64 which] w fun e w' => e = .returned (.bool true) ∧ Kept [] w w' := by
  have HAW := hide (awake_any w)
  have HN := fun W => hide (new_any W)
  obtain ⟨aa, ac, rfl, -, hall⟩ := ha
  have HALL := hide hall
  clear hall
  obtain ⟨L, hL⟩ : ∃ L, ops.length = L := ⟨_, rfl⟩
  have HL := hide hL
  rw [hL] at hlen ⊢
  clear hL
  go_enter Try.func3, Try.ntmps3
  go_wp2_with (first
    | (go_at_call 7; refine (unhide HAW).mono ?_; rintro e w1 ⟨rfl, hk1⟩; have HK1 := hide hk1; clear hk1)
    | (go_at_call 8; refine (unhide (HN _)).mono ?_; rintro e w2 ⟨b, rfl, ht2, hb2, hk2⟩
       have hb0 : w.heap.size ≤ b := Nat.le_trans (unhide HK1).size hb2
       have HP2 := hide (Pm.none ht2 ((unhide HK1).step hk2) hb0)
       clear ht2 hk2 hb2))
  go_loopw [6, 7, 8, 9] (fun d a s i wr => ∃ (k : Nat) (T : Tb) (da : Option Addr) (dc : Nat) (qa : Option Addr) (qc : Nat) (sa : Option Addr) (sc : Nat) (D S : List Oe) (A : List Ae), k ≤ L ∧ d = .slice da D.length dc ∧ a = .slice qa A.length qc ∧ s = .slice sa S.length sc ∧ i = .int .i64 (k : Int) ∧ PlS w wr b k T (.slice da D.length dc) (.slice qa A.length qc) (.slice sa S.length sc) D S A) (fun _ _ _ i _ => L - (intOf i).toNat)
  case atStart => exact ⟨0, ⟨.nil, 0⟩, none, 0, none, 0, none, 0, [], [], [], by omega, rfl, rfl, rfl, rfl, ⟨unhide HP2, ⟨rfl, rfl, (fun x hx => by cases hx), fun _ => rfl⟩, rfl, Nat.le_refl _, Nat.le_refl _⟩⟩
  case round =>
    obtain ⟨k, T, da, dc, qa, qc, sa, sc, D, S, A, hkL, rfl, rfl, rfl, rfl, hs⟩ := hrel
    have hTok := hs.tok
    have HREV := hide hs.rev
    have HSA := hide hs.len
    obtain ⟨nd, hnd⟩ : ∃ n, D.length = n := ⟨_, rfl⟩
    obtain ⟨na, hna⟩ : ∃ n, A.length = n := ⟨_, rfl⟩
    have hSn : S.length = na := by rw [hs.len, hna]
    have hDk := hs.d
    have hAk := hs.a
    rw [hnd] at hDk hs ⊢
    rw [hna] at hAk hs ⊢
    rw [hSn] at hs ⊢
    have HND := hide hnd
    have HNA := hide hna
    have HNS := hide hSn
    have hTr : T.rev = nd := by rw [unhide HREV, hnd]
    have hTr2 : T.rev < 1099511627776 := by omega
    have HTR := hide hTr
    clear hnd hna hSn hTr
    have HS := hide hs
    by_cases hlt : k < L
    · have hki : ((k : Int) < (L : Int)) = True := by simp [hlt]
      have hko : k < ops.length := by rw [unhide HL]; exact hlt
      obtain ⟨o, ho⟩ : ∃ o, ops[k]? = some o := ⟨ops[k], List.getElem?_eq_getElem hko⟩
      obtain ⟨sb, off, ks, vs, hsa, hsb, hrg, hoa, hlk, hlv⟩ := unhide HALL k o ho
      subst hsa
      have HC : ∀ W, Kept [] w W → Hid (W.cell? ⟨sb, off + k * 4, none⟩ = some (.int .i64 o.kind) ∧ W.cell? ⟨sb, off + k * 4 + 1, none⟩ = some ks ∧ W.cell? ⟨sb, off + k * 4 + 2, none⟩ = some vs ∧ W.cell? ⟨sb, off + k * 4 + 3, none⟩ = some (.int .i64 o.rev)) := fun W hW => by
        have cc : ∀ (j : Nat) (u : Value), [Value.int .i64 o.kind, ks, vs, .int .i64 o.rev][j]? = some u → W.cell? ⟨sb, off + k * 4 + j, none⟩ = some u := fun j u hj => (hW.cell (p := ⟨sb, off + k * 4 + j, none⟩) hsb (by simp)).trans (hrg j u hj)
        exact ⟨cc 0 _ rfl, cc 1 _ rfl, cc 2 _ rfl, cc 3 _ rfl⟩
      have HOE : Hid (OeP w ⟨o, ks, vs⟩) := ⟨hoa, hlk, hlv⟩
      obtain ⟨oka, okc, rfl⟩ := wide_len hoa.k
      obtain ⟨ova, ovc, rfl⟩ := wide_len hoa.v
      have HRT : ∀ W, Kept [] w W → Hid _ := fun W hW => hide (right_any (hoa.kept hW))
      have HWR := fun W => hide (writes_any W o (.slice oka o.key.length okc) (.slice ova o.val.length ovc))
      unfold opv at HRT HWR
      obtain ⟨s0, s1, s2, s3⟩ := unhide (HC _ hs.m.kp)
      by_cases hr : rfs T o = 0
      · have HD := hide (Do_yes hs.m.tab hTok (hoa.kept hs.m.kp) (hlk.free hb0) (hlv.free hb0) hr)
        unfold opv at HD
        have hrg1 := rfs_yes hr
        have hwd := rgt_wrs hrg1
        rw [hwd] at HWR
        rw [hrg1] at HRT
        have hnr : (nxt T o).rev = rvn T o := rfl
        obtain ⟨dd, hdd⟩ : ∃ d, dn T o = d := ⟨_, rfl⟩
        obtain ⟨ar, har⟩ : ∃ d, arev T o = d := ⟨_, rfl⟩
        have har' : (if (fnd T o).isSome = true then (fv (fnd T o)).2 else 0) = ar := har
        rw [hdd, har'] at HD
        have HDD := hide hdd
        have HAR := hide har
        clear hdd har har' hs hrg hoa hlk hlv
        by_cases hw : wrs o = true
        · have hrv : rvn T o = nd + 1 := by rw [write_rvn hw, unhide HTR]
          have hrvI : ((rvn T o : Nat) : Int) = (nd : Int) + 1 := by rw [hrv]; omega
          rw [hrvI] at HD
          rw [hw] at HWR
          go_wp2_with (first
            | (go_at_call 9; refine (unhide HD).mono ?_; rintro e w4 ⟨ka, kn, kc, va, vn, vc, rfl, hA⟩
               have hkq := (Kept.refl [] w4).alloc (.cells #[.bool dd, .slice ka kn kc, .slice va vn vc, .int .i64 ar, .int .i64 ((nd : Int) + 1)] 29)
               have HB4 := hide (Blk.new w4 #[.bool dd, .slice ka kn kc, .slice va vn vc, .int .i64 ar, .int .i64 ((nd : Int) + 1)] 29)
               have hto := told (unhide HS).m hA
               have HTX4 := hide (hto.1.kept hkq)
               have HP4 := hide (hto.2.kept hkq)
               obtain ⟨t0, t1, t2, t3⟩ := unhide (HC _ (unhide HP4).kp)
               clear hA hto hkq HD)
            | (go_at_call 12; refine (unhide (HWR _)).mono ?_; rintro e w5 ⟨rfl, hk5⟩
               have HB5 := hide (((unhide HB4).kept hk5 (by simp)).alloc (.cells #[.int .i64 o.kind, .slice oka o.key.length okc, .slice ova o.val.length ovc, .int .i64 o.rev] 34))
               have hka := (Kept.refl [] w5).alloc (.cells #[.int .i64 o.kind, .slice oka o.key.length okc, .slice ova o.val.length ovc, .int .i64 o.rev] 34)
               have HP5 := hide (((unhide HP4).kept hk5).kept hka)
               have HTX5 := hide (((unhide HTX4).kept hk5).kept hka)
               have HE5 := hide (Blk.new w5 #[.int .i64 o.kind, .slice oka o.key.length okc, .slice ova o.val.length ovc, .int .i64 o.rev] 34)
               obtain ⟨y0, y1, y2, y3⟩ := unhide (HC _ ((unhide HP4).kp.step hk5))
               have hd5 := (unhide HP5).d
               rw [unhide HND] at hd5
               have HO5 := hide hd5
               have hz5 := (unhide HP5).kp.size
               clear hk5 hka HB4 HP4 hd5)
            | (at_builtin; refine wpList_push_op (w := w) rfl (.tmp 57) (.tmp 62) rfl rfl HO5 ⟨o, .slice oka o.key.length okc, .slice ova o.val.length ovc⟩ (unhide HOE) rfl HE5 (by omega) hz5 ?_
               intro da6 dc6 w6 h6
               have hm6 := (unhide HP5).moreD (unhide HOE) (by rw [unhide HND]; exact (unhide h6).1) (unhide h6).2.1 (unhide h6).2.2
               have HP6 := hide hm6
               have HTX6 := hide ((unhide HTX5).growD (unhide h6).2.1 (unhide h6).2.2)
               have hb6 := push_keep (unhide h6).2.1 (unhide HO5) (unhide HB5) (by decide)
               have HB6 := hide hb6
               obtain ⟨⟨z0, z1, z2, z3, z4⟩, -⟩ := box5 hb6
               have hv6 := prev_any hm6.tab
               rw [hnr, hrvI] at hv6
               have HV6 := hide hv6
               obtain ⟨x0, x1, x2, x3⟩ := unhide (HC _ hm6.kp)
               have HR6 := HRT _ hm6.kp
               clear hm6 HE5 HO5 HB5 hb6 hv6 HTX4 HTX5 HP5)
            | (go_at_call 13; refine (unhide HV6).mono ?_; rintro e w7 ⟨rfl, hq⟩; have hq2 := hq.symm; subst hq2)
            | (go_at_call 10; refine (unhide HR6).mono ?_; rintro e w8 ⟨rfl, hk8⟩
               have hb8 := (unhide HB6).kept hk8 (by simp)
               obtain ⟨⟨v0, v1, v2, v3, v4⟩, -⟩ := box5 hb8
               have hka := (Kept.refl [] w8).alloc (.cells #[.bool dd, .slice ka kn kc, .slice va vn vc, .int .i64 ar, .int .i64 ((nd : Int) + 1)] 29)
               have HP8 := hide (((unhide HP6).kept hk8).kept hka)
               have HTX8 := hide (((unhide HTX6).kept hk8).kept hka)
               have HE8 := hide (Blk.new w8 #[.bool dd, .slice ka kn kc, .slice va vn vc, .int .i64 ar, .int .i64 ((nd : Int) + 1)] 29)
               have ha8 := (unhide HP8).a
               rw [unhide HNA] at ha8
               have HO8 := hide ha8
               have hz8 := (unhide HP8).kp.size
               clear hk8 hka ha8 hb8 HB6 HP6 HTX6)
            | (at_builtin; refine wpList_push_ans (w := w) rfl (.tmp 84) (.tmp 86) rfl rfl HO8 ⟨T, o, .slice ka kn kc, .slice va vn vc⟩ rfl rfl rfl (by unfold aec; simp only [unhide HDD, unhide HAR, hrvI]; exact HE8) (by omega) hz8 ?_
               intro qa9 qc9 w9 h9
               have hm9 := (unhide HP8).moreA (unhide HTX8) (by rw [unhide HNA]; exact (unhide h9).1) (unhide h9).2.1 (unhide h9).2.2
               obtain ⟨f0, f1, f2, f3⟩ := unhide (HC _ hm9.kp)
               have hka := (Kept.refl [] w9).alloc (.cells #[.int .i64 o.kind, .slice oka o.key.length okc, .slice ova o.val.length ovc, .int .i64 o.rev] 34)
               have HP9 := hide (hm9.kept hka)
               have HE9 := hide (Blk.new w9 #[.int .i64 o.kind, .slice oka o.key.length okc, .slice ova o.val.length ovc, .int .i64 o.rev] 34)
               have hs9 := (unhide HP9).s
               rw [unhide HNS] at hs9
               have HO9 := hide hs9
               have hz9 := (unhide HP9).kp.size
               clear hm9 hka hs9 HP8 HTX8 HE8 HO8)
            | (at_builtin; refine wpList_push_op (w := w) rfl (.tmp 88) (.tmp 93) rfl rfl HO9 ⟨o, .slice oka o.key.length okc, .slice ova o.val.length ovc⟩ (unhide HOE) rfl HE9 (by omega) hz9 ?_
               intro sa10 sc10 w10 h10
               have HP10 := hide ((unhide HP9).moreS (unhide HOE) (by rw [unhide HNS]; exact (unhide h10).1) (unhide h10).2.1 (unhide h10).2.2)
               clear HP9 HE9 HO9)
            | fail)
          refine ⟨⟨k + 1, nxt T o, da6, dc6, qa9, qc9, sa10, sc10, D ++ [⟨o, .slice oka o.key.length okc, .slice ova o.val.length ovc⟩], S ++ [⟨o, .slice oka o.key.length okc, .slice ova o.val.length ovc⟩], A ++ [⟨T, o, .slice ka kn kc, .slice va vn vc⟩], by omega, ?_, ?_, ?_, by simp, ?_⟩, by simp [intOf]; omega⟩
          · rw [List.length_append, unhide HND]; rfl
          · rw [List.length_append, unhide HNA]; rfl
          · rw [List.length_append, unhide HNS]; rfl
          · rw [List.length_append, List.length_append, List.length_append, unhide HND, unhide HNA, unhide HNS]
            exact (unhide HS).write rfl rfl hr hw (unhide HP10)
        · replace hw : wrs o = false := by simpa using hw
          have hrv : rvn T o = nd := by rw [read_rvn hw, unhide HTR]
          have hrvI : ((rvn T o : Nat) : Int) = (nd : Int) := by rw [hrv]
          rw [hrvI] at HD
          rw [hw] at HWR
          go_wp2_with (first
            | (go_at_call 9; refine (unhide HD).mono ?_; rintro e w4 ⟨ka, kn, kc, va, vn, vc, rfl, hA⟩
               have hkq := (Kept.refl [] w4).alloc (.cells #[.bool dd, .slice ka kn kc, .slice va vn vc, .int .i64 ar, .int .i64 (nd : Int)] 29)
               have HB4 := hide (Blk.new w4 #[.bool dd, .slice ka kn kc, .slice va vn vc, .int .i64 ar, .int .i64 (nd : Int)] 29)
               have hto := told (unhide HS).m hA
               have HTX4 := hide (hto.1.kept hkq)
               have HP4 := hide (hto.2.kept hkq)
               obtain ⟨t0, t1, t2, t3⟩ := unhide (HC _ (unhide HP4).kp)
               clear hA hto hkq HD)
            | (go_at_call 12; refine (unhide (HWR _)).mono ?_; rintro e w6 ⟨rfl, hk5⟩
               have hb6 := (unhide HB4).kept hk5 (by simp)
               have HB6 := hide hb6
               have hm6 := (unhide HP4).kept hk5
               have HP6 := hide hm6
               have HTX6 := hide ((unhide HTX4).kept hk5)
               obtain ⟨⟨z0, z1, z2, z3, z4⟩, -⟩ := box5 hb6
               have hv6 := prev_any hm6.tab
               rw [hnr, hrvI] at hv6
               have HV6 := hide hv6
               obtain ⟨x0, x1, x2, x3⟩ := unhide (HC _ hm6.kp)
               have HR6 := HRT _ hm6.kp
               clear hm6 hb6 hv6 hk5 HTX4 HP4 HB4)
            | (go_at_call 13; refine (unhide HV6).mono ?_; rintro e w7 ⟨rfl, hq⟩; have hq2 := hq.symm; subst hq2)
            | (go_at_call 10; refine (unhide HR6).mono ?_; rintro e w8 ⟨rfl, hk8⟩
               have hb8 := (unhide HB6).kept hk8 (by simp)
               obtain ⟨⟨v0, v1, v2, v3, v4⟩, -⟩ := box5 hb8
               have hka := (Kept.refl [] w8).alloc (.cells #[.bool dd, .slice ka kn kc, .slice va vn vc, .int .i64 ar, .int .i64 (nd : Int)] 29)
               have HP8 := hide (((unhide HP6).kept hk8).kept hka)
               have HTX8 := hide (((unhide HTX6).kept hk8).kept hka)
               have HE8 := hide (Blk.new w8 #[.bool dd, .slice ka kn kc, .slice va vn vc, .int .i64 ar, .int .i64 (nd : Int)] 29)
               have ha8 := (unhide HP8).a
               rw [unhide HNA] at ha8
               have HO8 := hide ha8
               have hz8 := (unhide HP8).kp.size
               clear hk8 hka ha8 hb8 HB6 HP6 HTX6)
            | (at_builtin; refine wpList_push_ans (w := w) rfl (.tmp 84) (.tmp 86) rfl rfl HO8 ⟨T, o, .slice ka kn kc, .slice va vn vc⟩ rfl rfl rfl (by unfold aec; simp only [unhide HDD, unhide HAR, hrvI]; exact HE8) (by omega) hz8 ?_
               intro qa9 qc9 w9 h9
               have hm9 := (unhide HP8).moreA (unhide HTX8) (by rw [unhide HNA]; exact (unhide h9).1) (unhide h9).2.1 (unhide h9).2.2
               obtain ⟨f0, f1, f2, f3⟩ := unhide (HC _ hm9.kp)
               have hka := (Kept.refl [] w9).alloc (.cells #[.int .i64 o.kind, .slice oka o.key.length okc, .slice ova o.val.length ovc, .int .i64 o.rev] 34)
               have HP9 := hide (hm9.kept hka)
               have HE9 := hide (Blk.new w9 #[.int .i64 o.kind, .slice oka o.key.length okc, .slice ova o.val.length ovc, .int .i64 o.rev] 34)
               have hs9 := (unhide HP9).s
               rw [unhide HNS] at hs9
               have HO9 := hide hs9
               have hz9 := (unhide HP9).kp.size
               clear hm9 hka hs9 HP8 HTX8 HE8 HO8)
            | (at_builtin; refine wpList_push_op (w := w) rfl (.tmp 88) (.tmp 93) rfl rfl HO9 ⟨o, .slice oka o.key.length okc, .slice ova o.val.length ovc⟩ (unhide HOE) rfl HE9 (by omega) hz9 ?_
               intro sa10 sc10 w10 h10
               have HP10 := hide ((unhide HP9).moreS (unhide HOE) (by rw [unhide HNS]; exact (unhide h10).1) (unhide h10).2.1 (unhide h10).2.2)
               clear HP9 HE9 HO9)
            | fail)
          refine ⟨⟨k + 1, nxt T o, da, dc, qa9, qc9, sa10, sc10, D, S ++ [⟨o, .slice oka o.key.length okc, .slice ova o.val.length ovc⟩], A ++ [⟨T, o, .slice ka kn kc, .slice va vn vc⟩], by omega, ?_, ?_, ?_, by simp, ?_⟩, by simp [intOf]; omega⟩
          · rw [unhide HND]
          · rw [List.length_append, unhide HNA]; rfl
          · rw [List.length_append, unhide HNS]; rfl
          · rw [List.length_append, List.length_append, unhide HND, unhide HNA, unhide HNS]
            exact (unhide HS).read rfl rfl hr hw (unhide HP10)
      · have HD := hide (Do_no hs.m.tab (hoa.kept hs.m.kp) hr)
        unfold opv at HD
        obtain ⟨h131, hrg0⟩ := rfs_no hTr2 hr
        rw [h131] at HD
        simp only [hrg0] at HRT
        clear hs hrg hoa hlk hlv
        go_wp2_with (first
          | (go_at_call 9; refine (unhide HD).mono ?_; rintro e w4 ⟨rfl, hk4⟩
             have hkq := hk4.alloc (.cells #[.bool false, .slice none 0 0, .slice none 0 0, .int .i64 0, .int .i64 0] 29)
             have HB4 := hide (Blk.new w4 #[.bool false, .slice none 0 0, .slice none 0 0, .int .i64 0, .int .i64 0] 29)
             have HK4 := hide hkq
             have HX4 := hide ((unhide HS).m.kp.step hkq)
             obtain ⟨t0, t1, t2, t3⟩ := unhide (HC _ (unhide HX4))
             have HR4 := HRT _ (unhide HX4)
             clear hk4 hkq HD)
          | (go_at_call 10; refine (unhide HR4).mono ?_; rintro e w5 ⟨rfl, hk5⟩
             have HB5 := hide ((unhide HB4).kept hk5 (by simp))
             have HK5 := hide ((unhide HK4).step hk5)
             obtain ⟨⟨p0, p1, p2, p3, p4⟩, -⟩ := box5 (unhide HB5)
             have HSM := hide (sameAnswer_yes (w := w5) (k1 := .slice none 0 0) (v1 := .slice none 0 0) (k2 := .slice none 0 0) (v2 := .slice none 0 0) (a := []) (c := []) false 0 0 (Or.inl (Or.inl ⟨rfl, rfl⟩)) (Or.inl (Or.inl ⟨rfl, rfl⟩)) (Or.inl (Or.inl ⟨rfl, rfl⟩)) (Or.inl (Or.inl ⟨rfl, rfl⟩)) (by simp) (by simp))
             clear hk5 HB4 HK4)
          | (go_at_call 11; refine (unhide HSM).mono ?_; rintro e w6 ⟨rfl, hk6⟩
             have HK6 := hide ((unhide HK5).step hk6)
             clear hk6)
          | fail)
        refine ⟨⟨k + 1, T, da, dc, qa, qc, sa, sc, D, S, A, by omega, by rw [unhide HND], by rw [unhide HNA], by rw [unhide HNS], by simp, ?_⟩, by simp [intOf]; omega⟩
        rw [unhide HND, unhide HNA, unhide HNS]
        exact (unhide HS).on (unhide HK6)
    · obtain rfl : k = L := by omega
      have hki : ((k : Int) < (k : Int)) = False := by simp
      by_cases hn0 : na = 0
      · have hA0 : A = [] := List.eq_nil_of_length_eq_zero (by rw [unhide HNA]; exact hn0)
        have hT0 : T.t.size = 0 := by
          have h1 := hs.i.nn (by rw [hA0]; rfl)
          have h2 := hs.i.t
          rw [h1] at h2
          rw [h2]; rfl
        have hl := tlen_any hs.m.tab hTok.ok
        rw [hT0] at hl
        have HLN := hide hl
        subst hn0
        clear hs hl
        go_wp2_with (first
          | (go_at_call 14; refine (unhide HLN).mono ?_; rintro e w4 ⟨rfl, hq⟩; have hq2 := hq.symm; subst hq2)
          | fail)
        go_ret
        exact ⟨rfl, (unhide HS).m.kp⟩
      · have hna0 : ((na : Int) == 0) = false := by rw [beq_eq_false_iff_ne]; omega
        have HRD := hide (round_any (w := wr) which na hw1 hw2 (by omega) (by omega))
        clear hs
        go_wp2_with (first
          | (go_at_call 15; refine (unhide HRD).mono ?_; rintro e w4 ⟨⟨r, hrn, rfl⟩, hq⟩; have hq2 := hq.symm; subst hq2
             clear HRD
             have hs := unhide HS
             obtain ⟨a, ha⟩ : ∃ a, A[r]? = some a := ⟨A[r]'(by rw [unhide HNA]; exact hrn), List.getElem?_eq_getElem _⟩
             obtain ⟨e, he⟩ : ∃ e, S[r]? = some e := ⟨S[r]'(by rw [unhide HNS]; exact hrn), List.getElem?_eq_getElem _⟩
             have heo : e.o = a.o := by
               have h1 : (S.map (·.o))[r]? = some e.o := by rw [List.getElem?_map, he]; rfl
               rw [hs.e, List.getElem?_map, ha] at h1
               simpa using h1.symm
             obtain ⟨m, hm1, hm2, hm3, hm4, hm5⟩ := hs.i.q (a.T, a.o) (List.mem_map.2 ⟨a, List.mem_of_getElem? ha, rfl⟩)
             simp only at hm2 hm3 hm4 hm5
             have heP := hs.m.os e (List.mem_of_getElem? he)
             obtain ⟨eo, eks, evs⟩ := e
             simp only at heo
             subst heo
             have hoa : OpAt w a.o eks evs := heP.1
             obtain ⟨eka, ekc, rfl⟩ := wide_len hoa.k
             obtain ⟨eva, evc, rfl⟩ := wide_len hoa.v
             have htx := hs.m.tx a (List.mem_of_getElem? ha)
             obtain ⟨aT, ao, aks, avs⟩ := a
             simp only at hm2 hm3 hm4 hm5
             obtain ⟨aka, akc, hak⟩ := sees_len htx.k
             obtain ⟨ava, avc, hav⟩ := sees_len htx.v
             simp only at hak hav
             subst hak hav
             obtain ⟨ga, hga, p0, p1, p2, p3, p4⟩ := arow_at hs.m.a ha
             obtain ⟨gs, hgs, q0, q1, q2, q3⟩ := orow_at hs.m.s he
             cases hga
             cases hgs
             simp only at p0 p1 p2 p3 p4 q0 q1 q2 q3
             have hrgt := rfs_yes hm4
             have hcap := (own_cap hs.m.d).2
             rw [List.length_map] at hm1
             rw [unhide HND] at hm1 hcap
             have hmc : m ≤ dc := by omega
             have HTX := hide htx
             have HOF : Hid (∀ W, Kept [] wr W → OpsIn W (.slice da m dc) ((D.map (·.o)).take m)) := hide (fun W hW => (ops_first hs.m.d hs.m.od hs.m.kp (a := da) (n := nd) (c := dc) rfl (by rw [unhide HND]; exact hm1) (by rw [unhide HND]; omega)).kept hW)
             have hTk : Tok aT := hm2 ▸ mkT_tok _
             have HTE := hide hm2
             have HM3 := hide hm3
             have HRF := hide hm4
             have HSO := hide hs.m.s
             have HAO := hide hs.m.a
             have HKP := hide hs.m.kp
             have HOA := hide hoa
             have HLK := hide heP.2
             have HAA := hide ha
             have HEE := hide he
             have HWR := fun W => hide (writes_any W ao (.slice eka ao.key.length ekc) (.slice eva ao.val.length evc))
             rw [rgt_wrs hrgt] at HWR
             unfold opv at HWR
             clear hm2 hm3 hm4 hs htx hoa heP ha he)
          | fail)
        refine (unhide (HWR wr)).mono ?_
        rintro e' w5 ⟨rfl, hk5⟩
        have HK5 := hide hk5
        by_cases hw : wrs ao = true
        · have hrvI : ((rvn aT ao : Nat) : Int) = (m : Int) + 1 := by rw [write_rvn hw, unhide HM3]; omega
          rw [hw]
          rw [hrvI] at p4 ⊢
          have HMD := hide (made_any (unhide HOF _ hk5) (Kept.refl [] w5))
          have hz5 := hk5.size
          clear hk5
          obtain ⟨dd, hdd⟩ : ∃ d, dn aT ao = d := ⟨_, rfl⟩
          obtain ⟨ar, har⟩ : ∃ d, arev aT ao = d := ⟨_, rfl⟩
          have har' : (if (fnd aT ao).isSome = true then (fv (fnd aT ao)).2 else 0) = ar := har
          have HAR := hide har'
          have HDD := hide hdd
          have HAT := fun (W : World) (h : W.ownsRow w.heap.size 29 5 (.slice (some ⟨ga, 0, none⟩) na qc) A.length (flatA A)) => hide (arow_at h (unhide HAA))
          have HST := fun (W : World) (h : W.ownsRow w.heap.size 34 4 (.slice (some ⟨gs, 0, none⟩) na sc) S.length (flatO S)) => hide (orow_at h (unhide HEE))
          simp only [hdd, har, hrvI] at HAT
          rw [unhide HNA] at HAT HAO
          rw [unhide HNS] at HST HSO
          rw [hdd] at p0
          rw [har] at p3
          clear hdd har har'
          go_wp2_with fail
          refine (unhide HMD).mono ?_
          rintro e' w6 ⟨b6, rfl, ht6, hb6, hk6⟩
          rw [← unhide HTE] at ht6
          have hX6 := (unhide HK5).step hk6
          have hW6 := (unhide HKP).step hX6
          have hbw : w.heap.size ≤ b6 := by have := (unhide HKP).size; omega
          obtain ⟨gs', hgs', y0, y1, y2, y3⟩ := unhide (HST _ (own_kept (unhide HSO) hX6 (by simp)))
          cases hgs'
          try simp only at y0 y1 y2 y3
          have hd6 := Do_yes ht6 hTk ((unhide HOA).kept hW6) ((unhide HLK).1.free hbw) ((unhide HLK).2.free hbw) (unhide HRF)
          unfold opv at hd6
          rw [unhide HDD, unhide HAR, hrvI] at hd6
          have HD6 := hide hd6
          have HA6 := hide (own_kept (unhide HAO) hX6 (by simp))
          have HT6 := hide ((unhide HTX).kept hX6)
          have HK6 := hide hW6
          have hbw6 : wr.heap.size ≤ b6 := by omega
          have HGA : Hid (ga ≠ b6) := by have := (own_lt (unhide HAO) (k := ga) rfl).2; show ga ≠ b6; omega
          have HKB : Hid (∀ k, (Value.slice aka (akey aT ao).length akc).ownBlock = some k → k ≠ b6) := fun k hk => by have := (unhide HTX).k.lt hk; omega
          have HVB : Hid (∀ k, (Value.slice ava (aval aT ao).length avc).ownBlock = some k → k ≠ b6) := fun k hk => by have := (unhide HTX).v.lt hk; omega
          clear HMD ht6 hk6 hX6 hW6 hd6
          go_wp2_with fail
          refine (unhide HD6).mono ?_
          rintro e' w7 ⟨ka, kn, kc, va, vn, vc, rfl, hA⟩
          have hkq := (Kept.refl [] w7).alloc (.cells #[.bool dd, .slice ka kn kc, .slice va vn vc, .int .i64 ar, .int .i64 ((m : Int) + 1)] 29)
          have HB7 := hide (Blk.new w7 #[.bool dd, .slice ka kn kc, .slice va vn vc, .int .i64 ar, .int .i64 ((m : Int) + 1)] 29)
          have ho7 := own_kept (own_kept (unhide HA6) hA.kp (fun k hk => by simp only [Value.ownBlock, Option.some.injEq] at hk; have := unhide HGA; simp; omega)) hkq (by simp)
          obtain ⟨ga', hga', x0, x1, x2, x3, x4⟩ := unhide (HAT _ ho7)
          cases hga'
          obtain ⟨⟨f0, f1, f2, f3, f4⟩, -⟩ := box5 (unhide HB7)
          have HK7 := hide (((unhide HK6).trans hA.kp (by simp; exact hbw)).step hkq)
          have HSA : Hid (∀ W, Kept [] (w7.alloc (.cells #[.bool dd, .slice ka kn kc, .slice va vn vc, .int .i64 ar, .int .i64 ((m : Int) + 1)] 29)) W → Calls Try.prog 11 #[.agg #[.bool dd, .slice ka kn kc, .slice va vn vc, .int .i64 ar, .int .i64 ((m : Int) + 1)], .agg #[.bool dd, .slice aka (akey aT ao).length akc, .slice ava (aval aT ao).length avc, .int .i64 ar, .int .i64 ((m : Int) + 1)]] W fun e w' => e = .returned (.bool true) ∧ Kept [] w w' ∧ Kept [] (w7.alloc (.cells #[.bool dd, .slice ka kn kc, .slice va vn vc, .int .i64 ar, .int .i64 ((m : Int) + 1)] 29)) w') := fun W hW => by
            have h1 : Sees W (.slice ka kn kc) (akey aT ao) := ((hA.k.1).kept hkq (by simp)).kept hW (by simp)
            have h2 : Sees W (.slice va vn vc) (aval aT ao) := ((hA.v.1).kept hkq (by simp)).kept hW (by simp)
            have h3 : Sees W (.slice aka (akey aT ao).length akc) (akey aT ao) := (((unhide HT6).k.kept hA.kp (fun k hk => by simpa using unhide HKB k hk)).kept hkq (by simp)).kept hW (by simp)
            have h4 : Sees W (.slice ava (aval aT ao).length avc) (aval aT ao) := (((unhide HT6).v.kept hA.kp (fun k hk => by simpa using unhide HVB k hk)).kept hkq (by simp)).kept hW (by simp)
            exact (sameAnswer_yes dd ar ((m : Int) + 1) (Or.inl h1) (Or.inl h2) (Or.inl h3) (Or.inl h4) (akey_le hTk) (aval_le hTk)).mono fun e w' ⟨q1, q2⟩ => ⟨q1, ((unhide HK7).step hW).step q2, hW.step q2⟩
          clear hA hkq ho7 HD6 HT6 HA6
          go_wp2_with (first
            | (go_at_call 11; refine (unhide HSA _ (Kept.refl [] _)).mono ?_; rintro e' w8 ⟨rfl, hk8⟩; have HK8 := hide hk8; clear hk8)
            | fail)
          obtain ⟨W7, hW7⟩ : ∃ W, w7.alloc (.cells #[.bool dd, .slice ka kn kc, .slice va vn vc, .int .i64 ar, .int .i64 ((m : Int) + 1)] 29) = W := ⟨_, rfl⟩
          rw [hW7] at HSA x0 x1 x2 x3 x4 f0 f1 f2 f3 f4 ⊢
          obtain ⟨n7, hn7⟩ : ∃ n, w7.heap.size = n := ⟨_, rfl⟩
          rw [hn7] at f0 f1 f2 f3 f4 ⊢
          generalize (akey aT ao).length = lk at *
          generalize (aval aT ao).length = lv at *
          go_region_held3 (fun w' => (w'.cell? ⟨n7, 0, none⟩ = some (.bool dd) ∧ w'.cell? ⟨n7, 1, none⟩ = some (.slice ka kn kc) ∧ w'.cell? ⟨n7, 2, none⟩ = some (.slice va vn vc) ∧ w'.cell? ⟨n7, 3, none⟩ = some (.int .i64 ar) ∧ w'.cell? ⟨n7, 4, none⟩ = some (.int .i64 ((m : Int) + 1))) ∧ w'.cell? ⟨ga, r * 5, none⟩ = some (.bool dd) ∧ w'.cell? ⟨ga, r * 5 + 1, none⟩ = some (.slice aka lk akc) ∧ w'.cell? ⟨ga, r * 5 + 2, none⟩ = some (.slice ava lv avc) ∧ w'.cell? ⟨ga, r * 5 + 3, none⟩ = some (.int .i64 ar) ∧ w'.cell? ⟨ga, r * 5 + 4, none⟩ = some (.int .i64 ((m : Int) + 1))) (first | go_keep | (exact ⟨⟨(unhide HK7').cell' f0, (unhide HK7').cell' f1, (unhide HK7').cell' f2, (unhide HK7').cell' f3, (unhide HK7').cell' f4⟩, (unhide HK7').cell' x0, (unhide HK7').cell' x1, (unhide HK7').cell' x2, (unhide HK7').cell' x3, (unhide HK7').cell' x4⟩)) (first
            | (go_at_call 11; refine (unhide HSA _ (by first | exact Kept.refl _ _ | exact (Kept.refl _ _).drew | exact (Kept.refl _ _).drew.drew)).mono ?_; rintro e' w8 ⟨rfl, hk8, hk9⟩; have HK8 := hide hk8; have HK7' := hide hk9; clear hk8 hk9))
          go_wp2_with fail
          go_ret
          exact ⟨rfl, unhide HK8⟩
        · replace hw : wrs ao = false := by simpa using hw
          have hrvI : ((rvn aT ao : Nat) : Int) = (m : Int) := by rw [read_rvn hw, unhide HM3]
          rw [hw]
          rw [hrvI] at p4 ⊢
          have HMD := hide (made_any (unhide HOF _ hk5) (Kept.refl [] w5))
          have hz5 := hk5.size
          clear hk5
          obtain ⟨dd, hdd⟩ : ∃ d, dn aT ao = d := ⟨_, rfl⟩
          obtain ⟨ar, har⟩ : ∃ d, arev aT ao = d := ⟨_, rfl⟩
          have har' : (if (fnd aT ao).isSome = true then (fv (fnd aT ao)).2 else 0) = ar := har
          have HAR := hide har'
          have HDD := hide hdd
          have HAT := fun (W : World) (h : W.ownsRow w.heap.size 29 5 (.slice (some ⟨ga, 0, none⟩) na qc) A.length (flatA A)) => hide (arow_at h (unhide HAA))
          have HST := fun (W : World) (h : W.ownsRow w.heap.size 34 4 (.slice (some ⟨gs, 0, none⟩) na sc) S.length (flatO S)) => hide (orow_at h (unhide HEE))
          simp only [hdd, har, hrvI] at HAT
          rw [unhide HNA] at HAT HAO
          rw [unhide HNS] at HST HSO
          rw [hdd] at p0
          rw [har] at p3
          clear hdd har har'
          go_wp2_with fail
          refine (unhide HMD).mono ?_
          rintro e' w6 ⟨b6, rfl, ht6, hb6, hk6⟩
          rw [← unhide HTE] at ht6
          have hX6 := (unhide HK5).step hk6
          have hW6 := (unhide HKP).step hX6
          have hbw : w.heap.size ≤ b6 := by have := (unhide HKP).size; omega
          obtain ⟨gs', hgs', y0, y1, y2, y3⟩ := unhide (HST _ (own_kept (unhide HSO) hX6 (by simp)))
          cases hgs'
          try simp only at y0 y1 y2 y3
          have hd6 := Do_yes ht6 hTk ((unhide HOA).kept hW6) ((unhide HLK).1.free hbw) ((unhide HLK).2.free hbw) (unhide HRF)
          unfold opv at hd6
          rw [unhide HDD, unhide HAR, hrvI] at hd6
          have HD6 := hide hd6
          have HA6 := hide (own_kept (unhide HAO) hX6 (by simp))
          have HT6 := hide ((unhide HTX).kept hX6)
          have HK6 := hide hW6
          have hbw6 : wr.heap.size ≤ b6 := by omega
          have HGA : Hid (ga ≠ b6) := by have := (own_lt (unhide HAO) (k := ga) rfl).2; show ga ≠ b6; omega
          have HKB : Hid (∀ k, (Value.slice aka (akey aT ao).length akc).ownBlock = some k → k ≠ b6) := fun k hk => by have := (unhide HTX).k.lt hk; omega
          have HVB : Hid (∀ k, (Value.slice ava (aval aT ao).length avc).ownBlock = some k → k ≠ b6) := fun k hk => by have := (unhide HTX).v.lt hk; omega
          clear HMD ht6 hk6 hX6 hW6 hd6
          go_wp2_with fail
          refine (unhide HD6).mono ?_
          rintro e' w7 ⟨ka, kn, kc, va, vn, vc, rfl, hA⟩
          have hkq := (Kept.refl [] w7).alloc (.cells #[.bool dd, .slice ka kn kc, .slice va vn vc, .int .i64 ar, .int .i64 (m : Int)] 29)
          have HB7 := hide (Blk.new w7 #[.bool dd, .slice ka kn kc, .slice va vn vc, .int .i64 ar, .int .i64 (m : Int)] 29)
          have ho7 := own_kept (own_kept (unhide HA6) hA.kp (fun k hk => by simp only [Value.ownBlock, Option.some.injEq] at hk; have := unhide HGA; simp; omega)) hkq (by simp)
          obtain ⟨ga', hga', x0, x1, x2, x3, x4⟩ := unhide (HAT _ ho7)
          cases hga'
          obtain ⟨⟨f0, f1, f2, f3, f4⟩, -⟩ := box5 (unhide HB7)
          have HK7 := hide (((unhide HK6).trans hA.kp (by simp; exact hbw)).step hkq)
          have HSA : Hid (∀ W, Kept [] (w7.alloc (.cells #[.bool dd, .slice ka kn kc, .slice va vn vc, .int .i64 ar, .int .i64 (m : Int)] 29)) W → Calls Try.prog 11 #[.agg #[.bool dd, .slice ka kn kc, .slice va vn vc, .int .i64 ar, .int .i64 (m : Int)], .agg #[.bool dd, .slice aka (akey aT ao).length akc, .slice ava (aval aT ao).length avc, .int .i64 ar, .int .i64 (m : Int)]] W fun e w' => e = .returned (.bool true) ∧ Kept [] w w' ∧ Kept [] (w7.alloc (.cells #[.bool dd, .slice ka kn kc, .slice va vn vc, .int .i64 ar, .int .i64 (m : Int)] 29)) w') := fun W hW => by
            have h1 : Sees W (.slice ka kn kc) (akey aT ao) := ((hA.k.1).kept hkq (by simp)).kept hW (by simp)
            have h2 : Sees W (.slice va vn vc) (aval aT ao) := ((hA.v.1).kept hkq (by simp)).kept hW (by simp)
            have h3 : Sees W (.slice aka (akey aT ao).length akc) (akey aT ao) := (((unhide HT6).k.kept hA.kp (fun k hk => by simpa using unhide HKB k hk)).kept hkq (by simp)).kept hW (by simp)
            have h4 : Sees W (.slice ava (aval aT ao).length avc) (aval aT ao) := (((unhide HT6).v.kept hA.kp (fun k hk => by simpa using unhide HVB k hk)).kept hkq (by simp)).kept hW (by simp)
            exact (sameAnswer_yes dd ar (m : Int) (Or.inl h1) (Or.inl h2) (Or.inl h3) (Or.inl h4) (akey_le hTk) (aval_le hTk)).mono fun e w' ⟨q1, q2⟩ => ⟨q1, ((unhide HK7).step hW).step q2, hW.step q2⟩
          clear hA hkq ho7 HD6 HT6 HA6
          go_wp2_with (first
            | (go_at_call 11; refine (unhide HSA _ (Kept.refl [] _)).mono ?_; rintro e' w8 ⟨rfl, hk8⟩; have HK8 := hide hk8; clear hk8)
            | fail)
          obtain ⟨W7, hW7⟩ : ∃ W, w7.alloc (.cells #[.bool dd, .slice ka kn kc, .slice va vn vc, .int .i64 ar, .int .i64 (m : Int)] 29) = W := ⟨_, rfl⟩
          rw [hW7] at HSA x0 x1 x2 x3 x4 f0 f1 f2 f3 f4 ⊢
          obtain ⟨n7, hn7⟩ : ∃ n, w7.heap.size = n := ⟨_, rfl⟩
          rw [hn7] at f0 f1 f2 f3 f4 ⊢
          generalize (akey aT ao).length = lk at *
          generalize (aval aT ao).length = lv at *
          go_region_held3 (fun w' => (w'.cell? ⟨n7, 0, none⟩ = some (.bool dd) ∧ w'.cell? ⟨n7, 1, none⟩ = some (.slice ka kn kc) ∧ w'.cell? ⟨n7, 2, none⟩ = some (.slice va vn vc) ∧ w'.cell? ⟨n7, 3, none⟩ = some (.int .i64 ar) ∧ w'.cell? ⟨n7, 4, none⟩ = some (.int .i64 (m : Int))) ∧ w'.cell? ⟨ga, r * 5, none⟩ = some (.bool dd) ∧ w'.cell? ⟨ga, r * 5 + 1, none⟩ = some (.slice aka lk akc) ∧ w'.cell? ⟨ga, r * 5 + 2, none⟩ = some (.slice ava lv avc) ∧ w'.cell? ⟨ga, r * 5 + 3, none⟩ = some (.int .i64 ar) ∧ w'.cell? ⟨ga, r * 5 + 4, none⟩ = some (.int .i64 (m : Int))) (first | go_keep | (exact ⟨⟨(unhide HK7').cell' f0, (unhide HK7').cell' f1, (unhide HK7').cell' f2, (unhide HK7').cell' f3, (unhide HK7').cell' f4⟩, (unhide HK7').cell' x0, (unhide HK7').cell' x1, (unhide HK7').cell' x2, (unhide HK7').cell' x3, (unhide HK7').cell' x4⟩)) (first
            | (go_at_call 11; refine (unhide HSA _ (by first | exact Kept.refl _ _ | exact (Kept.refl _ _).drew | exact (Kept.refl _ _).drew.drew)).mono ?_; rintro e' w8 ⟨rfl, hk8, hk9⟩; have HK8 := hide hk8; have HK7' := hide hk9; clear hk8 hk9))
          go_wp2_with fail
          go_ret
          exact ⟨rfl, unhide HK8⟩
end Go.Proofs.Ytkejpbfbpomjfaa.tre
