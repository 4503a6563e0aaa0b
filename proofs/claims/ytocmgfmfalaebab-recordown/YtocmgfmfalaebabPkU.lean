/- Texts laid one behind the other: EV LA LB. -/
import Derived.Test.YtocmgfmfalaebabPkT
/- What is read is the form of what it is read as. -/
namespace Go.Proofs.Ytocmgfmfalaebab
open Go.RowKit

theorem setN_kind' (p : Pl) (n : Int) (o : Nat) : (setN p n o).kind = p.kind := by
  unfold setN; split <;> rfl
theorem takL_kind' : ∀ (ks : List Fk) (s : RS) (p : Pl), (takL ks s p).2.kind = p.kind
  | [], _, _ => rfl
  | k :: ks, s, p => by
    rw [takL, takL_kind' ks]
    cases k with
    | num o lo hi => exact setN_kind' _ _ _
    | op => rfl
    | copy => rfl
def Bytes (l : List Nat) : Prop := ∀ x ∈ l, x < 256
/-- From s to s' these bytes were read. -/
structure Bk (s s' : RS) (bs : List Nat) : Prop where
  f : s.fault = 0
  l : s.left = bs ++ s'.left
  b : s'.behind = s.behind
  y : Bytes s'.left
theorem Bk.trans {s s' s'' : RS} {x y : List Nat} (h : Bk s s' x) (k : Bk s' s'' y) : Bk s s'' (x ++ y) := ⟨h.f, by rw [h.l, k.l, List.append_assoc], k.b.trans h.b, k.y⟩
theorem rNum_back {s : RS} (h : (rNum s).1.fault = 0) (hb : Bytes s.left) : Bk s (rNum s).1 (form (rNum s).2) ∧ (rNum s).2 < 18446744073709551616 := by
  by_cases hf : s.fault ≠ 0
  · rw [rNum, if_pos hf] at h; exact absurd h hf
  · rw [rNum, if_neg hf] at h ⊢
    cases hr : readNum 0 0 s.left with
    | inl c =>
      rw [hr] at h
      have := readNum_code _ _ _ hr
      simp [rF] at h
      omega
    | inr z =>
      obtain ⟨n, r⟩ := z
      have h1 := readNum_lt _ 0 0 (by omega) (by simp) hb hr
      exact ⟨⟨by omega, read_one0 hb hr, rfl, h1.2.1⟩, h1.1⟩
theorem rByte_back {s : RS} (h : (rByte s).1.fault = 0) (hb : Bytes s.left) : Bk s (rByte s).1 [(rByte s).2] ∧ (rByte s).2 < 256 := by
  by_cases hf : s.fault ≠ 0
  · rw [rByte, if_pos hf] at h; exact absurd h hf
  · rw [rByte, if_neg hf] at h ⊢
    cases hl : s.left with
    | nil => rw [hl] at h; simp [rF] at h
    | cons x l =>
      rw [hl] at hb
      exact ⟨⟨by omega, by rw [hl]; rfl, rfl, fun y hy => hb y (by simp [hy])⟩, hb x (by simp)⟩
theorem rText_back {s : RS} {most : Int} (h : (rText s most).1.fault = 0) (hb : Bytes s.left) : Bk s (rText s most).1 (form (rText s most).2.length ++ (rText s most).2) := by
  by_cases hf : s.fault ≠ 0
  · rw [rText, if_pos hf] at h; exact absurd h hf
  · rw [rText, if_neg hf] at h ⊢
    cases hr : readNum 0 0 s.left with
    | inl c =>
      rw [hr] at h
      have := readNum_code _ _ _ hr
      simp [rF] at h
      omega
    | inr z =>
      obtain ⟨n, r⟩ := z
      rw [hr] at h
      simp only at h ⊢
      have h1 := readNum_lt _ 0 0 (by omega) (by simp) hb hr
      by_cases ha : most.toNat < n
      · rw [if_pos ha] at h; simp [rF] at h
      · rw [if_neg ha] at h ⊢
        by_cases hl : r.length < n
        · rw [if_pos hl] at h; simp [rF] at h
        · rw [if_neg hl]
          have ht : (r.take n).length = n := by simp; omega
          refine ⟨by omega, ?_, rfl, fun x hx => h1.2.1 x (List.mem_of_mem_drop hx)⟩
          simp only
          rw [ht, List.append_assoc, List.take_append_drop]
          exact read_one0 hb hr
theorem rNum_f {s : RS} (h : (rNum s).1.fault = 0) : s.fault = 0 := by
  by_cases hf : s.fault ≠ 0
  · rw [rNum, if_pos hf] at h; exact h
  · omega
theorem rText_f {s : RS} {most : Int} (h : (rText s most).1.fault = 0) : s.fault = 0 := by
  by_cases hf : s.fault ≠ 0
  · rw [rText, if_pos hf] at h; exact h
  · omega
theorem rByte_f {s : RS} (h : (rByte s).1.fault = 0) : s.fault = 0 := by
  by_cases hf : s.fault ≠ 0
  · rw [rByte, if_pos hf] at h; exact h
  · omega
theorem takO_back {s : RS} {p : Pl} (h : (takO s p).1.fault = 0) (hb : Bytes s.left) (hw : wrt (takO s p).2.okind (takO s p).2.key.length (takO s p).2.val.length (takO s p).2.rev = true) : Bk s (takO s p).1 (formO (takO s p).2) := by
  obtain ⟨-, h3⟩ := wrt_iff.1 hw
  by_cases h4 : (rByte s).2 = 4
  · rw [takO_swap h4] at h hw h3 ⊢
    simp only at h h3 ⊢
    have f3 := rNum_f h
    have f2 := rText_f f3
    have f1 := rText_f f2
    have c1 := (rByte_back f1 hb).1
    have c2 := rText_back f2 c1.y
    have c3 := rText_back f3 c2.y
    have c4 := rNum_back h c3.y
    have hr0 : 0 ≤ toI (rNum (rText (rText (rByte s).1 64).1 256).1).2 := by unfold toI; omega
    have hr := toI_back c4.2 hr0
    unfold toI at hr
    have e : formO { p with okind := 4, key := (rText (rByte s).1 64).2, val := (rText (rText (rByte s).1 64).1 256).2, rev := wrap64 ((rNum (rText (rText (rByte s).1 64).1 256).1).2 : Nat) } = [(rByte s).2] ++ (form (rText (rByte s).1 64).2.length ++ (rText (rByte s).1 64).2) ++ (form (rText (rText (rByte s).1 64).1 256).2.length ++ (rText (rText (rByte s).1 64).1 256).2) ++ form (rNum (rText (rText (rByte s).1 64).1 256).1).2 := by
      unfold formO
      simp only
      rw [hr, h4]
      simp
    rw [e]
    exact ((c1.trans c2).trans c3).trans c4.1
  · by_cases h2 : (rByte s).2 = 2
    · rw [takO_put h2] at h hw h3 ⊢
      simp only at h h3 ⊢
      have f2 := rText_f h
      have f1 := rText_f f2
      have c1 := (rByte_back f1 hb).1
      have c2 := rText_back f2 c1.y
      have c3 := rText_back h c2.y
      have e : formO { p with okind := 2, key := (rText (rByte s).1 64).2, val := (rText (rText (rByte s).1 64).1 256).2, rev := 0 } = [(rByte s).2] ++ (form (rText (rByte s).1 64).2.length ++ (rText (rByte s).1 64).2) ++ (form (rText (rText (rByte s).1 64).1 256).2.length ++ (rText (rText (rByte s).1 64).1 256).2) := by
        unfold formO
        simp [h2]
      rw [e]
      exact (c1.trans c2).trans c3
    · rw [takO_del h2 h4] at h hw h3 ⊢
      simp only at h h3 ⊢
      have f1 := rText_f h
      have c1 := (rByte_back f1 hb).1
      have c2 := rText_back h c1.y
      have e : formO { p with okind := ((rByte s).2 : Int), key := (rText (rByte s).1 64).2, val := [], rev := 0 } = [(rByte s).2] ++ (form (rText (rByte s).1 64).2.length ++ (rText (rByte s).1 64).2) := by
        unfold formO
        simp only
        rw [if_neg (by omega), if_neg (by omega)]
        simp
      rw [e]
      exact c1.trans c2
theorem takO_f {s : RS} {p : Pl} (h : (takO s p).1.fault = 0) : s.fault = 0 := by
  by_cases h4 : (rByte s).2 = 4
  · rw [takO_swap h4] at h; exact rByte_f (rText_f (rText_f (rNum_f h)))
  · by_cases h2 : (rByte s).2 = 2
    · rw [takO_put h2] at h; exact rByte_f (rText_f (rText_f h))
    · rw [takO_del h2 h4] at h; exact rByte_f (rText_f h)
theorem rDone_ok {s : RS} (h : rDone s = 0) : s.fault = 0 ∧ s.left = [] := by
  unfold rDone at h
  by_cases hf : s.fault ≠ 0
  · rw [if_pos hf] at h; omega
  · rw [if_neg hf] at h
    by_cases hl : s.left = [] ∧ s.behind = []
    · exact ⟨by omega, hl.1⟩
    · rw [if_neg hl] at h; omega
theorem num_back {s s' : RS} {n : Nat} (e : rNum s = (s', n)) (h : s'.fault = 0) (hb : Bytes s.left) (h0 : 0 ≤ toI n) : Bk s s' (form (toI n).toNat) := by
  have h' : (rNum s).1.fault = 0 := by rw [e]; exact h
  have c := rNum_back h' hb
  rw [e] at c
  rw [toI_back c.2 h0]
  exact c.1
theorem num_f {s s' : RS} {n : Nat} (e : rNum s = (s', n)) (h : s'.fault = 0) : s.fault = 0 := rNum_f (by rw [e]; exact h)
theorem byte_back {s s' : RS} {n : Nat} (e : rByte s = (s', n)) (h : s'.fault = 0) (hb : Bytes s.left) : Bk s s' [n] := by
  have c := (rByte_back (s := s) (by rw [e]; exact h) hb).1
  rw [e] at c
  exact c
theorem text_back {s s' : RS} {most : Int} {t : List Nat} (e : rText s most = (s', t)) (h : s'.fault = 0) (hb : Bytes s.left) : Bk s s' (form t.length ++ t) := by
  have c := rText_back (s := s) (most := most) (by rw [e]; exact h) hb
  rw [e] at c
  exact c
theorem text_f {s s' : RS} {most : Int} {t : List Nat} (e : rText s most = (s', t)) (h : s'.fault = 0) : s.fault = 0 := rText_f (most := most) (by rw [e]; exact h)
theorem op_back {s s' : RS} {p q : Pl} (e : takO s p = (s', q)) (h : s'.fault = 0) (hb : Bytes s.left) (hw : wrt q.okind q.key.length q.val.length q.rev = true) : Bk s s' (formO q) := by
  have c := takO_back (s := s) (p := p) (by rw [e]; exact h) hb (by rw [e]; exact hw)
  rw [e] at c
  exact c
theorem op_f {s s' : RS} {p q : Pl} (e : takO s p = (s', q)) (h : s'.fault = 0) : s.fault = 0 := takO_f (p := p) (by rw [e]; exact h)
theorem op_same {s s' : RS} {p q : Pl} (e : takO s p = (s', q)) : q.shard = p.shard ∧ q.client = p.client ∧ q.seq = p.seq := by
  have h := takO_snd s p
  rw [e] at h
  simp only at h
  rw [h]
  exact ⟨rfl, rfl, rfl⟩
/-- What is decoded has just these bytes as its form. -/
theorem enc_dec {bs : List Nat} (hb : Bytes bs) (h1 : rDone (decB bs).1 = 0) (h2 : snd (decB bs).2 = true) : enc (decB bs).2 = bs := by
  obtain ⟨hf, hl⟩ := rDone_ok h1
  have hk : (decB bs).2.kind = (((rByte ⟨0, bs, []⟩).2 : Nat) : Int) := takL_kind' _ _ _
  have hd : decB bs = takL (rowOf (((rByte ⟨0, bs, []⟩).2 : Nat) : Int)) (rByte ⟨0, bs, []⟩).1 { zeroP with kind := (((rByte ⟨0, bs, []⟩).2 : Nat) : Int) } := rfl
  rcases hby : rByte ⟨0, bs, []⟩ with ⟨s1, k⟩
  rw [hby] at hk hd
  simp only at hk hd
  generalize hz : decB bs = z at *
  clear hz
  rcases (snd_iff _).1 h2 with hw | hw | hw | hw
  · have e1 := hw.1
    rw [hk] at e1
    rw [e1, row1] at hd
    rcases hn1 : rNum s1 with ⟨s2, n1⟩
    rcases hn2 : rNum s2 with ⟨s3, n2⟩
    rcases hn3 : rNum s3 with ⟨s4, n3⟩
    simp only [takL, takF, sh, cl, sq, hn1, hn2, hn3] at hd
    generalize hP : setN (setN (setN { zeroP with kind := 1 } (toI n1) 1) (toI n2) 4) (toI n3) 5 = P at hd
    rcases ho : takO s4 P with ⟨s5, q⟩
    rw [ho] at hd
    subst hd
    simp only at hf hl hw hk ⊢
    obtain ⟨g1, g2, g3, g4, g5, -⟩ := hw
    obtain ⟨o1, o2, o3⟩ := op_same ho
    have p1 : P.shard = toI n1 := by rw [← hP]; rfl
    have p2 : P.client = toI n2 := by rw [← hP]; rfl
    have p3 : P.seq = toI n3 := by rw [← hP]; rfl
    rw [enc_W g1]
    have f4 := op_f ho hf
    have f3 := num_f hn3 f4
    have f2 := num_f hn2 f3
    have f1 := num_f hn1 f2
    have c1 := byte_back hby f1 hb
    have c2 := num_back hn1 f2 c1.y (by rw [← p1, ← o1]; exact g2.1)
    have c3 := num_back hn2 f3 c2.y (by rw [← p2, ← o2]; exact g3.1)
    have c4 := num_back hn3 f4 c3.y (by rw [← p3, ← o3]; exact Int.le_trans (by decide) g4.1)
    have c5 := op_back ho hf c4.y g5
    have c := ((((c1.trans c2).trans c3).trans c4).trans c5).l
    rw [hl] at c
    rw [o1, o2, o3, p1, p2, p3]
    have e2 : k = 1 := Int.ofNat.inj e1
    rw [e2] at c
    simp only [List.append_nil, List.append_assoc] at c
    exact c.symm
  · have e1 := hw.1
    rw [hk] at e1
    rw [e1, row2] at hd
    rcases hn1 : rNum s1 with ⟨s2, n1⟩
    rcases hn2 : rNum s2 with ⟨s3, n2⟩
    simp only [takL, takF, sh, pe, hn1, hn2] at hd
    subst hd
    simp only at hf hl hw hk ⊢
    obtain ⟨g1, g2, g3, -⟩ := hw
    have p1 : (setN (setN { zeroP with kind := 2 } (toI n1) 1) (toI n2) 3).shard = toI n1 := rfl
    have p2 : (setN (setN { zeroP with kind := 2 } (toI n1) 1) (toI n2) 3).peer = toI n2 := rfl
    rw [enc_O g1]
    rw [p1] at g2 ⊢
    rw [p2] at g3 ⊢
    have f2 := num_f hn2 hf
    have f1 := num_f hn1 f2
    have c1 := byte_back hby f1 hb
    have c2 := num_back hn1 f2 c1.y g2.1
    have c3 := num_back hn2 hf c2.y g3.1
    have c := ((c1.trans c2).trans c3).l
    rw [hl] at c
    have e2 : k = 2 := Int.ofNat.inj e1
    rw [e2] at c
    simp only [List.append_nil, List.append_assoc] at c
    exact c.symm
  · have e1 := hw.1
    rw [hk] at e1
    rw [e1, row4] at hd
    rcases hn1 : rNum s1 with ⟨s2, n1⟩
    rcases hn2 : rNum s2 with ⟨s3, n2⟩
    rcases hn3 : rNum s3 with ⟨s4, n3⟩
    rcases ht : rText s4 262144 with ⟨s5, t⟩
    simp only [takL, takF, sh, ep, pe, hn1, hn2, hn3, ht] at hd
    generalize hP : setN (setN (setN { zeroP with kind := 4 } (toI n1) 1) (toI n2) 2) (toI n3) 3 = P at hd
    subst hd
    simp only at hf hl hw hk ⊢
    obtain ⟨g1, g2, g3, g4, -⟩ := hw
    have p1 : P.shard = toI n1 := by rw [← hP]; rfl
    have p2 : P.epoch = toI n2 := by rw [← hP]; rfl
    have p3 : P.peer = toI n3 := by rw [← hP]; rfl
    simp only at g2 g3 g4
    rw [enc_I g1]
    simp only
    rw [p1] at g2 ⊢
    rw [p2] at g3 ⊢
    rw [p3] at g4 ⊢
    have f4 := text_f ht hf
    have f3 := num_f hn3 f4
    have f2 := num_f hn2 f3
    have f1 := num_f hn1 f2
    have c1 := byte_back hby f1 hb
    have c2 := num_back hn1 f2 c1.y g2.1
    have c3 := num_back hn2 f3 c2.y (Int.le_trans (by decide) g3.1)
    have c4 := num_back hn3 f4 c3.y g4.1
    have c5 := text_back ht hf c4.y
    have c := ((((c1.trans c2).trans c3).trans c4).trans c5).l
    rw [hl] at c
    have e2 : k = 4 := Int.ofNat.inj e1
    rw [e2] at c
    simp only [List.append_nil, List.append_assoc] at c
    exact c.symm
  · have e1 := hw.1
    rw [hk] at e1
    rw [rowS e1] at hd
    rcases hn1 : rNum s1 with ⟨s2, n1⟩
    simp only [takL, takF, sh, hn1] at hd
    subst hd
    simp only at hf hl hw hk ⊢
    obtain ⟨g1, g2, -⟩ := hw
    have p1 : (setN { zeroP with kind := (k : Int) } (toI n1) 1).shard = toI n1 := rfl
    rw [enc_S g1]
    rw [p1] at g2 ⊢
    have f1 := num_f hn1 hf
    have c1 := byte_back hby f1 hb
    have c2 := num_back hn1 hf c1.y g2.1
    have c := (c1.trans c2).l
    rw [hl] at c
    rw [hk]
    simp only [List.append_nil] at c
    exact c.symm
theorem dec_some {bs : List Nat} (hb : Bytes bs) {p : Pl} (h : dec bs = some p) : snd p = true ∧ enc p = bs := by
  unfold dec at h
  split at h
  · rename_i hc
    cases h
    exact ⟨hc.2, enc_dec hb hc.1 hc.2⟩
  · cases h
/-- No form begins another one. -/
theorem enc_free {p q : Pl} (hp : snd p = true) (hq : snd q = true) {l m : List Nat} (h : enc p ++ l = enc q ++ m) : p = q ∧ l = m := by
  have h1 := decB_enc hp l
  rw [h, decB_enc hq m] at h1
  have h2 := congrArg Prod.snd h1
  have h3 := congrArg (fun z : RS × Pl => z.1.left) h1
  exact ⟨h2.symm, h3.symm⟩
theorem enc_inj {p q : Pl} (hp : snd p = true) (hq : snd q = true) (h : enc p = enc q) : p = q := (enc_free (l := []) (m := []) hp hq (by rw [h])).1
end Go.Proofs.Ytocmgfmfalaebab

/- The laws' same, sameRecord. -/
namespace Go.Proofs.Ytocmgfmfalaebab
open Go.RowKit

set_option maxRecDepth 100000 in
set_option maxHeartbeats 800000 in
theorem same_full {w : World} {x y : Value} {ps bs : List Nat} (h1 : Wide w x ps) (h2 : Wide w y bs) (hl : ps.length ≤ 140737488355328) :
    Calls Try.prog 8 #[x, y] w fun e w' => e = .returned (.bool (decide (ps = bs))) ∧ Kept [] w w' := by
  obtain ⟨xa, xc, rfl⟩ := wide_len h1
  obtain ⟨ya, yc, rfl⟩ := wide_len h2
  by_cases hlen : ps.length = bs.length
  · rw [← hlen]
    have hne : ((ps.length : Int) != (ps.length : Int)) = false := by simp
    have H1 := hide h1
    have H2 := hide h2
    have HLN := hide hlen
    clear h1 h2 hlen
    generalize hN : ps.length = N at *
    have HN := hide hN
    clear hN
    go_enter Try.func8, Try.ntmps8
    go_wp2
    go_loopw [5] (fun i wr => ∃ k : Nat, k ≤ N ∧ i = .int .i64 k ∧ (∃ m, wr = w.drewN m) ∧ Hid (∀ j, j < k → ps.getD j 0 = bs.getD j 0)) (fun i _ => N - (intOf i).toNat)
    case atStart => exact ⟨0, by omega, rfl, ⟨0, rfl⟩, fun j hj => by omega⟩
    case round =>
      obtain ⟨k, hk, rfl, ⟨m, hq⟩, HP⟩ := hrel
      subst hq
      by_cases hlt : k < N
      · obtain ⟨xb, xo, rfl, hx⟩ := (unhide H1).at k (by rw [unhide HN]; exact hlt)
        obtain ⟨yb, yo, rfl, hy⟩ := (unhide H2).at k (by rw [← unhide HLN]; exact hlt)
        by_cases he : ps.getD k 0 = bs.getD k 0
        · rw [← he] at hy
          have HE := hide he
          clear he
          generalize hz : ps.getD k 0 = z at hx hy
          clear hz
          go_wp2
          go_quiet (fail)
          go_wp2
          go_roundw
          case rel =>
            refine ⟨k + 1, by omega, by go_num, ⟨_, rfl⟩, fun j hj => ?_⟩
            rcases Nat.lt_or_ge j k with h | h
            · exact unhide HP j h
            · rw [show j = k by omega]; exact unhide HE
          case measure => simp [intOf]; omega
        · have HE : Hid (ps ≠ bs) := fun e => he (by rw [e])
          generalize ps.getD k 0 = z1 at hx he
          generalize bs.getD k 0 = z2 at hy he
          have hne2 : ((z1 : Int) == (z2 : Int)) = false := by rw [beq_eq_false_iff_ne]; omega
          have hne3 : ((z1 : Int) != (z2 : Int)) = true := by rw [bne_iff_ne]; omega
          go_wp2
          go_quiet (fail)
          go_wp2
          go_ret
          refine ⟨ret_bool ?_, (Kept.refl _ _).drewN _ |>.drewN _⟩
          simp [unhide HE]
      · obtain rfl : k = N := by omega
        go_wp2
        go_ret
        refine ⟨ret_bool ?_, (Kept.refl _ _).drewN _⟩
        symm
        rw [decide_eq_true_eq]
        refine List.ext_getElem (by rw [unhide HN]; exact unhide HLN) fun j hj hj2 => ?_
        have h := unhide HP j (by rw [← unhide HN]; exact hj)
        rwa [List.getD_eq_getElem?_getD, List.getD_eq_getElem?_getD, List.getElem?_eq_getElem hj, List.getElem?_eq_getElem hj2] at h
  · have hne : ((ps.length : Int) != (bs.length : Int)) = true := by rw [bne_iff_ne]; omega
    have hd : ps ≠ bs := fun e => hlen (by rw [e])
    have HD := hide hd
    clear hd h1 h2
    generalize ps.length = n1 at *
    generalize bs.length = n2 at *
    go_enter Try.func8, Try.ntmps8
    go_wp2
    go_ret
    refine ⟨ret_bool ?_, Kept.refl _ _⟩
    simp [unhide HD]
/-- Are two records the same, field by field? -/
def eqR (p q : Pl) : Bool := decide (p.kind = q.kind ∧ p.shard = q.shard ∧ p.epoch = q.epoch ∧ p.peer = q.peer ∧ p.client = q.client ∧ p.seq = q.seq) && (decide (p.okind = q.okind) && decide (p.key = q.key) && decide (p.val = q.val) && decide (p.rev = q.rev)) && decide (p.copy = q.copy)
theorem eqR_iff (p q : Pl) : eqR p q = true ↔ p = q := by
  obtain ⟨a, b, c, d, e, f, g, h, i, j, k⟩ := p
  obtain ⟨a2, b2, c2, d2, e2, f2, g2, h2, i2, j2, k2⟩ := q
  simp [eqR]
  grind
/-- Its lists are as they should be, none too long for a machine. -/
structure RecW (w : World) (p : Pl) (l : Lo) : Prop where
  key : Wide w (.slice l.ka p.key.length l.kc) p.key
  val : Wide w (.slice l.va p.val.length l.vc) p.val
  copy : Wide w (.slice l.ca p.copy.length l.cc) p.copy
  kl : p.key.length ≤ 140737488355328
  vl : p.val.length ≤ 140737488355328
  cl : p.copy.length ≤ 140737488355328
theorem RecW.kept {w w' : World} {p : Pl} {l : Lo} (h : RecW w p l) (k : Kept [] w w') : RecW w' p l := ⟨h.key.kept k, h.val.kept k, h.copy.kept k, h.kl, h.vl, h.cl⟩
theorem Wide.far0 {w : World} {v : Value} {bs : List Nat} (h : Wide w v bs) : Far w v bs [] := by
  rcases h with h | h
  · exact Or.inl ⟨h, by simp⟩
  · exact Or.inr h
theorem RecW.far {w : World} {p : Pl} {l : Lo} (h : RecW w p l) : RecFar w p l [] := ⟨⟨h.key.far0, h.val.far0⟩, h.copy.far0⟩

set_option maxRecDepth 100000 in
set_option maxHeartbeats 1600000 in
theorem sameRec_any {w : World} {p q : Pl} {l m : Lo} (h1 : RecW w p l) (h2 : RecW w q m) : Calls Try.prog 11 #[rv p l, rv q m] w fun e w' => e = .returned (.bool (eqR p q)) ∧ Kept [] w w' := by
  have HK := hide (fun W (k : Kept [] w W) => same_full (h1.key.kept k) (h2.key.kept k) h1.kl)
  have HV := hide (fun W (k : Kept [] w W) => same_full (h1.val.kept k) (h2.val.kept k) h1.vl)
  have HC := hide (fun W (k : Kept [] w W) => same_full (h1.copy.kept k) (h2.copy.kept k) h1.cl)
  clear h1 h2
  rw [rv_lit, rv_lit]
  have k0 := ((Kept.refl [] w).alloc (.cells (rcc p l) 26)).alloc (.cells (rcc q m) 26)
  have HB0 : Hid (Blk ((w.alloc (.cells (rcc p l) 26)).alloc (.cells (rcc q m) 26)) w.heap.size #[.int .i64 p.kind, .int .i64 p.shard, .int .i64 p.epoch, .int .i64 p.peer, .int .i64 p.client, .int .i64 p.seq, .int .i64 p.okind, .slice l.ka p.key.length l.kc, .slice l.va p.val.length l.vc, .int .i64 p.rev, .slice l.ca p.copy.length l.cc] 26 ∧ Blk ((w.alloc (.cells (rcc p l) 26)).alloc (.cells (rcc q m) 26)) (w.heap.size + 1) #[.int .i64 q.kind, .int .i64 q.shard, .int .i64 q.epoch, .int .i64 q.peer, .int .i64 q.client, .int .i64 q.seq, .int .i64 q.okind, .slice m.ka q.key.length m.kc, .slice m.va q.val.length m.vc, .int .i64 q.rev, .slice m.ca q.copy.length m.cc] 26 ∧ Kept [] w ((w.alloc (.cells (rcc p l) 26)).alloc (.cells (rcc q m) 26))) := ⟨(Blk.new _ _ _).alloc _, new1 _ _ _ _, k0⟩
  clear k0
  go_enter Try.func11, Try.ntmps11
  go_upto_region 1 with fail
  refine world_at (R := fun X => Blk X w.heap.size #[.int .i64 p.kind, .int .i64 p.shard, .int .i64 p.epoch, .int .i64 p.peer, .int .i64 p.client, .int .i64 p.seq, .int .i64 p.okind, .slice l.ka p.key.length l.kc, .slice l.va p.val.length l.vc, .int .i64 p.rev, .slice l.ca p.copy.length l.cc] 26 ∧ Blk X (w.heap.size + 1) #[.int .i64 q.kind, .int .i64 q.shard, .int .i64 q.epoch, .int .i64 q.peer, .int .i64 q.client, .int .i64 q.seq, .int .i64 q.okind, .slice m.ka q.key.length m.kc, .slice m.va q.val.length m.vc, .int .i64 q.rev, .slice m.ca q.copy.length m.cc] 26 ∧ Kept [] w X) (unhide HB0) ?_
  clear HB0
  rintro X hX
  have HX := hide hX
  obtain ⟨c0, c1, c2, c3, c4, c5, c6, c7, c8, c9, c10⟩ := box11 hX.1
  obtain ⟨d0, d1, d2, d3, d4, d5, d6, d7, d8, d9, d10⟩ := box11 hX.2.1
  clear hX
  generalize p.key.length = pk at *
  generalize p.val.length = pv at *
  generalize p.copy.length = pc at *
  generalize q.key.length = qk at *
  generalize q.val.length = qv at *
  generalize q.copy.length = qc at *
  generalize ht0 : (p.kind == q.kind) = b0 at *
  generalize ht1 : (p.shard == q.shard) = b1 at *
  generalize ht2 : (p.epoch == q.epoch) = b2 at *
  generalize ht3 : (p.peer == q.peer) = b3 at *
  generalize ht4 : (p.client == q.client) = b4 at *
  generalize ht5 : (p.seq == q.seq) = b5 at *
  generalize ht6 : (p.okind == q.okind) = b6 at *
  generalize ht7 : (p.rev == q.rev) = b7 at *
  have HT : Hid ((p.kind == q.kind) = b0 ∧ (p.shard == q.shard) = b1 ∧ (p.epoch == q.epoch) = b2 ∧ (p.peer == q.peer) = b3 ∧ (p.client == q.client) = b4 ∧ (p.seq == q.seq) = b5 ∧ (p.okind == q.okind) = b6 ∧ (p.rev == q.rev) = b7) := ⟨ht0, ht1, ht2, ht3, ht4, ht5, ht6, ht7⟩
  go_cut [5] (fun t wc => wc = X ∧ t = .bool (b0 && b1 && b2 && b3 && b4 && b5))
  case first =>
    go_wp2_with fail
    all_goals
      go_meet
      refine ⟨rfl, ?_⟩
      simp_all
  case rest =>
    obtain ⟨rfl, rfl⟩ := hcut
    generalize hn1 : (b0 && b1 && b2 && b3 && b4 && b5) = N1
    have HN1 := hide hn1
    clear hn1 ht0 ht1 ht2 ht3 ht4 ht5
    go_upto_region 2 with fail
    generalize hkb : decide (p.key = q.key) = kb at HK
    generalize hvb : decide (p.val = q.val) = vb at HV
    generalize hcb : decide (p.copy = q.copy) = cb at HC
    have HKB := hide (And.intro hkb (And.intro hvb hcb))
    clear hkb hvb hcb
    go_cut [6] (fun t wq => Kept [] wc wq ∧ t = .bool (b6 && kb && vb && b7))
    case first =>
      go_wp2_with (first
        | (go_at_call_of 8 (Value.slice l.ka pk l.kc); refine (unhide HK _ (unhide HX).2.2).mono ?_; rintro e w3 ⟨rfl, k3⟩; obtain ⟨c0, c1, c2, c3, c4, c5, c6, c7, c8, c9, c10⟩ := box11 ((unhide HX).1.kept k3 (by simp)); obtain ⟨d0, d1, d2, d3, d4, d5, d6, d7, d8, d9, d10⟩ := box11 ((unhide HX).2.1.kept k3 (by simp)))
        | (go_at_call_of 8 (Value.slice l.va pv l.vc); refine (unhide HV _ ((unhide HX).2.2.step k3)).mono ?_; rintro e w4 ⟨rfl, k4⟩; replace k4 := k3.step k4; obtain ⟨c0, c1, c2, c3, c4, c5, c6, c7, c8, c9, c10⟩ := box11 ((unhide HX).1.kept k4 (by simp)); obtain ⟨d0, d1, d2, d3, d4, d5, d6, d7, d8, d9, d10⟩ := box11 ((unhide HX).2.1.kept k4 (by simp))))
      all_goals
        go_meet
        refine ⟨by first | exact k4 | exact k3 | exact Kept.refl _ _, ?_⟩
        simp_all
    case rest =>
      obtain ⟨k5, rfl⟩ := hcut
      generalize hn2 : (b6 && kb && vb && b7) = N2
      have HN2 := hide hn2
      clear hn2 ht6 ht7
      obtain ⟨e0, e1, e2, e3, e4, e5, e6, e7, e8, e9, e10⟩ := box11 ((unhide HX).1.kept k5 (by simp))
      obtain ⟨g0, g1, g2, g3, g4, g5, g6, g7, g8, g9, g10⟩ := box11 ((unhide HX).2.1.kept k5 (by simp))
      have HE : Hid (eqR p q = (N1 && N2 && cb)) := by
        obtain ⟨t0, t1, t2, t3, t4, t5, t6, t7⟩ := unhide HT
        obtain ⟨a1, a2, a3⟩ := unhide HKB
        unfold Hid
        rw [← unhide HN1, ← unhide HN2, ← t0, ← t1, ← t2, ← t3, ← t4, ← t5, ← t6, ← t7, ← a1, ← a2, ← a3]
        unfold eqR
        rw [Bool.eq_iff_iff]
        simp [and_assoc]
      cases N1 with
      | false =>
        go_wp2_with fail
        go_ret
        refine ⟨ret_bool ?_, (unhide HX).2.2.step k5⟩
        rw [unhide HE]
        simp
      | true =>
        cases N2 with
        | false =>
          go_wp2_with fail
          go_ret
          refine ⟨ret_bool ?_, (unhide HX).2.2.step k5⟩
          rw [unhide HE]
          simp
        | true =>
          go_wp2_with (go_at_call 8; refine (unhide HC _ ((unhide HX).2.2.step k5)).mono ?_; rintro e w6 ⟨rfl, k6⟩)
          go_ret
          refine ⟨ret_bool ?_, ((unhide HX).2.2.step k5).step k6⟩
          rw [unhide HE]
          simp
end Go.Proofs.Ytocmgfmfalaebab

/- The laws' awake. -/
namespace Go.Proofs.Ytocmgfmfalaebab
open Go.RowKit

def pA : Pl := ⟨1, 5, 0, 0, 3, 300, 2, [97], [1, 2], 0, []⟩
def wantA : List Nat := [1, 5, 3, 172, 2, 2, 1, 97, 2, 1, 2]
theorem sndA : snd pA = true := by decide
theorem encA : enc pA = wantA := by
  rw [enc_W rfl]
  unfold formO pA wantA
  simp only [List.length_cons, List.length_nil]
  rw [form_small (n := (5 : Int).toNat) (by decide), form_small (n := (3 : Int).toNat) (by decide), form_big (n := (300 : Int).toNat) (by decide), form_small (n := (300 : Int).toNat / 128) (by decide), form_small (n := 0 + 1) (by decide), form_small (n := 0 + 1 + 1) (by decide)]
  rfl
theorem decA : dec wantA = some pA := by rw [← encA]; exact dec_enc sndA
theorem decA0 : dec (wantA ++ [0]) = none := by
  cases h : dec (wantA ++ [0]) with
  | none => rfl
  | some q =>
    obtain ⟨h1, h2⟩ := dec_some (by intro x hx; simp [wantA] at hx; omega) h
    have h3 := (enc_free (l := []) (m := [0]) h1 sndA (by rw [h2, encA]; simp)).2
    simp at h3

theorem lenA : (enc pA).length = 11 := by rw [encA]; rfl
theorem encA_any {w : World} {l : Lo} (h : RecW w pA l) : Calls Try.prog 6 #[rv pA l] w fun e w' => ∃ a cap, e = .returned (.tuple #[.slice a 11 cap, .int .i64 0]) ∧ Sees w' (.slice a 11 cap) wantA ∧ Kept [] w w' := by
  refine (encode_any w pA l h.far).mono ?_
  rintro e w' ⟨hk, ⟨_, a, cap, rfl, ho⟩ | ⟨hs, _⟩⟩
  · have hs := Sees.of_own ho
    rw [lenA, encA] at hs
    rw [lenA]
    exact ⟨a, cap, rfl, hs, hk⟩
  · rw [sndA] at hs; cases hs
theorem NewV.wide {w W : World} {bs : List Nat} {v : Value} (h : NewV w bs v W) : Wide W v bs := by
  obtain ⟨a, c, rfl, ho⟩ := h
  exact Or.inl (Sees.of_own ho)
theorem NewR.recW {w W : World} {p : Pl} {l : Lo} (h : NewR w p l W) (hk : p.key.length ≤ 140737488355328) (hv : p.val.length ≤ 140737488355328) (hc : p.copy.length ≤ 140737488355328) : RecW W p l := ⟨h.kn.wide, h.vn.wide, h.cn.wide, hk, hv, hc⟩
theorem decA_any {w : World} {x : Value} (h : Wide w x wantA) : Calls Try.prog 10 #[x] w fun e w' => ∃ l, e = .returned (.tuple #[rv pA l, .int .i64 0]) ∧ RecW w' pA l ∧ Kept [] w w' := by
  refine (decode_any w x wantA h (by simp [wantA]) (by intro y hy; simp [wantA] at hy; omega)).mono ?_
  rintro e w' ⟨hk, ⟨p, l, hd, rfl, hn⟩ | ⟨hd, _⟩⟩
  · rw [decA] at hd
    cases hd
    exact ⟨l, rfl, hn.recW (by simp [pA]) (by simp [pA]) (by simp [pA]), hk⟩
  · rw [decA] at hd; cases hd
theorem decA0_any {w : World} {x : Value} (h : Wide w x (wantA ++ [0])) : Calls Try.prog 10 #[x] w fun e w' => e = .returned (.tuple #[rv zeroP nilL, .int .i64 160]) ∧ Kept [] w w' := by
  refine (decode_any w x (wantA ++ [0]) h (by simp [wantA]) (by intro y hy; simp [wantA] at hy; omega)).mono ?_
  rintro e w' ⟨hk, ⟨p, l, hd, rfl, hn⟩ | ⟨hd, rfl⟩⟩
  · rw [decA0] at hd; cases hd
  · exact ⟨rfl, hk⟩
theorem seesA (w : World) : Sees (w.alloc (.cells #[.int .u8 1, .int .u8 5, .int .u8 3, .int .u8 172, .int .u8 2, .int .u8 2, .int .u8 1, .int .u8 97, .int .u8 2, .int .u8 1, .int .u8 2] 5)) (.slice (some ⟨w.heap.size, 0, none⟩) 11 11) wantA := by
  refine Or.inr ⟨w.heap.size, 0, 11, rfl, by simp [wantA], by unfold maxLen; omega, by simp, fun j hj => ?_⟩
  rw [(Blk.new w _ _).cell]
  simp only [wantA, List.length_cons, List.length_nil] at hj
  match j, hj with
  | 0, _ => rfl
  | 1, _ => rfl
  | 2, _ => rfl
  | 3, _ => rfl
  | 4, _ => rfl
  | 5, _ => rfl
  | 6, _ => rfl
  | 7, _ => rfl
  | 8, _ => rfl
  | 9, _ => rfl
  | 10, _ => rfl
def lA (b : Nat) : Lo := ⟨some ⟨b, 0, none⟩, 1, some ⟨b + 1, 0, none⟩, 2, none, 0⟩
theorem recA (w : World) (o : Obj) : RecW (((w.alloc (.cells #[.int .u8 97] 5)).alloc (.cells #[.int .u8 1, .int .u8 2] 5)).alloc o) pA (lA w.heap.size) := by
  refine ⟨Or.inl (Or.inr ⟨w.heap.size, 0, 1, rfl, by simp [pA], by unfold maxLen; omega, by simp only [World.size_alloc]; omega, fun j hj => ?_⟩), Or.inl (Or.inr ⟨w.heap.size + 1, 0, 2, rfl, by simp [pA], by unfold maxLen; omega, by simp only [World.size_alloc]; omega, fun j hj => ?_⟩), Or.inl (Or.inl ⟨rfl, rfl⟩), by simp [pA], by simp [pA], by simp [pA]⟩
  · rw [(((Blk.new w _ _).alloc _).alloc _).cell]
    simp only [pA, List.length_cons, List.length_nil] at hj
    match j, hj with
    | 0, _ => rfl
  · rw [((new1 w _ _ _).alloc _).cell]
    simp only [pA, List.length_cons, List.length_nil] at hj
    match j, hj with
    | 0, _ => rfl
    | 1, _ => rfl

/-- What awake has when both have been asked. -/
structure AW (w : World) (p q : Value) (b b2 : Nat) (l l2 : Lo) (X : World) : Prop where
  one : RecW X pA l
  two : RecW X pA l2
  b1 : Blk X b (rcc pA l) 26
  bb : Blk X b2 (rcc pA l2) 26
  sp : Sees X p wantA
  sq : Sees X q wantA
  kept : Kept [] w X
theorem AW.go {w : World} {p q : Value} {b b2 : Nat} {l l2 : Lo} {X Y : World} (h : AW w p q b b2 l l2 X) (k : Kept [] X Y) : AW w p q b b2 l l2 Y := ⟨h.one.kept k, h.two.kept k, h.b1.kept k (by simp), h.bb.kept k (by simp), h.sp.kept k (by simp), h.sq.kept k (by simp), h.kept.step k⟩

set_option maxRecDepth 100000 in
set_option maxHeartbeats 1600000 in
theorem awake_any (w : World) : Calls Try.prog 5 #[] w fun e w' => e = .returned (.bool true) ∧ Kept [] w w' := by
  have HR := hide (recA w (.cells (rcc pA (lA w.heap.size)) 26))
  have HBX := hide (new2 w (.cells #[.int .u8 97] 5) (.cells #[.int .u8 1, .int .u8 2] 5) (rcc pA (lA w.heap.size)) 26)
  have HK0 := hide ((((Kept.refl [] w).alloc (.cells #[.int .u8 97] 5)).alloc (.cells #[.int .u8 1, .int .u8 2] 5)).alloc (.cells (rcc pA (lA w.heap.size)) 26))
  go_enter Try.func5, Try.ntmps5
  go_upto_region 5 with (first
    | (go_at_call 6; refine (encA_any (unhide HR)).mono ?_; rintro e w1 ⟨pa, pc, rfl, hs1, k1⟩; have HR1 := hide ((unhide HR).kept k1); have HBX1 := hide ((unhide HBX).kept k1 (by simp)); have HK1 := hide ((unhide HK0).step k1); have HS1 := hide hs1; clear hs1 k1 HR HBX HK0)
    | (go_at_call 10; refine (decA_any (Or.inl (seesA w1))).mono ?_; rintro e w2 ⟨l2, rfl, hr2, k2⟩; simp only [rv_lit]; have k2' := ((Kept.refl [] w1).alloc _).step k2; have HR1 := hide ((unhide HR1).kept k2'); have HBX1 := hide ((unhide HBX1).kept k2' (by simp)); have HK1 := hide ((unhide HK1).step k2'); have HS1 := hide ((unhide HS1).kept k2' (by simp)); have HW2 := hide ((seesA w1).kept k2 (by simp)); have HR2 := hide hr2; clear hr2 k2 k2'))
  have kx := (Kept.refl [] w2).alloc (.cells (rcc pA l2) 26)
  refine world_at (R := fun X => AW w (.slice pa 11 pc) (.slice (some ⟨w1.heap.size, 0, none⟩) 11 11) (w.heap.size + 1 + 1) w2.heap.size (lA w.heap.size) l2 X) ⟨(unhide HR1).kept kx, (unhide HR2).kept kx, (unhide HBX1).kept kx (by simp), Blk.new _ _ _, (unhide HS1).kept kx (by simp), (unhide HW2).kept kx (by simp), (unhide HK1).step kx⟩ ?_
  clear HR1 HR2 HBX1 HS1 HW2 HK1 kx
  intro X hX
  have HX := hide hX
  clear hX
  obtain ⟨i0, hi, hz0, hz1, hz2⟩ := info_parts Try.info5
  go_wp2_with (at_builtin; refine wpList_append_wide _ rfl _ _ 22 rfl X.heap.size 5 i0 (.int .u8 0) Try.underlying22 hi hz0 hz1 hz2 rfl _ [] rfl (World.ownsRow_made X #[] 0 (Nat.le_refl _) (Nat.zero_le _) rfl) _ wantA rfl (Or.inl ((unhide HX).sq.kept ((Kept.refl [] X).alloc _) (by simp))) ?c1 ?c2 ?_)
  case c1 => simp [wantA]
  case c2 => simp
  intro v1 w3 hown hg hat
  have hk1 : Kept [] X w3 := ((Kept.refl [] X).alloc _).grown hg (fun k hk => by simp [Value.ownBlock] at hk; right; omega)
  obtain ⟨a1, c1, hv⟩ := own_len hown
  subst hv
  have HO1 := hide hown
  have HX3 := hide ((unhide HX).go hk1)
  have HKX3 := hide hk1
  have hs1 := hk1.size
  clear hown hg hat hk1
  go_wp2_with (at_builtin; refine wpList_append_sees _ rfl _ _ 22 rfl X.heap.size 5 i0 (.int .u8 0) Try.underlying22 hi hz0 hz1 hz2 rfl _ wantA rfl ((unhide HO1).alloc _) _ [0] rfl (news_one w3 0) ?c3 ?c4 ?_)
  case c3 => simp [wantA]
  case c4 => simp; omega
  intro v2 w4 hown hg hat
  have hkx4 : Kept [] X w4 := ((unhide HKX3).alloc _).grown hg (fun k hk => Or.inr ((unhide HO1).lt k hk).1)
  have hsee : Sees w4 v2 (wantA ++ [0]) := Sees.of_own hown
  obtain ⟨a2, c2, hv⟩ := own_len hown
  subst hv
  have HS2 := hide hsee
  have HX4 := hide ((unhide HX).go hkx4)
  clear hown hg hat hkx4 hsee
  have hd0 : Hid (Calls Try.prog 10 #[.slice a2 (wantA ++ [0]).length c2] w4 _) := decA0_any (Or.inl (unhide HS2))
  have hlen : (wantA ++ [0]).length = 12 := rfl
  rw [hlen] at hd0
  try rw [hlen]
  go_wp2_with (first
    | (go_at_call 10; refine (unhide hd0).mono ?_; rintro e w5 ⟨rfl, k5⟩; simp only [rv_lit, zeroP, nilL]; have HX5 := hide (((unhide HX4).go k5).go ((Kept.refl [] w5).alloc (.cells (rcc zeroP nilL) 26))); obtain ⟨c0, c1, c2, c3, c4, c5, c6, c7, c8, c9, c10⟩ := box11 (unhide HX5).b1; obtain ⟨d0, d1, d2, d3, d4, d5, d6, d7, d8, d9, d10⟩ := box11 (unhide HX5).bb)
    | (go_at_call 8; refine (same_full (Or.inl (unhide HX5).sp) (Or.inl (unhide HX5).sq) (by simp [wantA])).mono ?_; rintro e w6 ⟨rfl, k6⟩; have HX6 := hide ((unhide HX5).go k6); obtain ⟨c0, c1, c2, c3, c4, c5, c6, c7, c8, c9, c10⟩ := box11 (unhide HX6).b1; obtain ⟨d0, d1, d2, d3, d4, d5, d6, d7, d8, d9, d10⟩ := box11 (unhide HX6).bb; simp only [decide_true])
    | (go_at_call 11; refine (sameRec_any (unhide HX6).one (unhide HX6).two).mono ?_; rintro e w7 ⟨rfl, k7⟩; rw [(eqR_iff pA pA).2 rfl]; have HK7 := hide ((unhide HX6).kept.step k7)))
  all_goals
    go_ret
    exact ⟨rfl, unhide HK7⟩
end Go.Proofs.Ytocmgfmfalaebab
