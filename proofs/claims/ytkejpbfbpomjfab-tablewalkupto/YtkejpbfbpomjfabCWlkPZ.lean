/- Seek, from one key on to the next. -/
import Derived.Test.YtkejpbfbpomjfabCAwkZ
import Derived.Test.YtkejpbfbpomjfabCSwPZ
import Derived.Test.YtkejpbfbpomjfabCRowWZ
namespace Go.Proofs.Ytkejpbfbpomjfab.tre
open Go.RowKit

theorem bl_succ : ∀ x y : List UInt8, Op.bytesLess y (x ++ [0]) = !Op.bytesLess x y
  | [], [] => rfl
  | [], b :: y => by cases y <;> simp [Op.bytesLess]
  | a :: x, [] => rfl
  | a :: x, b :: y => by
    have ih := bl_succ x y
    simp only [List.cons_append, Op.bytesLess, ih]
    by_cases h : a = b
    · subst h; simp [UInt8.lt_irrefl]
    · have h' : ¬ b = a := fun e => h e.symm
      by_cases h1 : a < b
      · have h2 : ¬ b < a := by rw [UInt8.lt_iff_toNat_lt] at h1 ⊢; omega
        simp [h1, h2, h']
      · have h2 : b < a := by
          have h3 : a.toNat ≠ b.toNat := fun e => h (UInt8.toNat_inj.1 e)
          rw [UInt8.lt_iff_toNat_lt] at h1 ⊢; omega
        simp [h1, h2, h]
/-- the key from which the next one is sought -/
def fromK (L : List (ByteArray × VT)) : Nat → List Nat
  | 0 => []
  | i + 1 => byts (fk L[i]?) ++ [0]
theorem strB_byts (k : ByteArray) (l : List Nat) : (strB (byts k ++ l)).toList = k.toList ++ l.map fun x => UInt8.ofNat x := by
  rw [ByteArray.toList_eq, strB_list, List.map_append, ByteArray.toList_eq]
  congr 1
  unfold byts
  rw [List.map_map]
  conv => rhs; rw [← List.map_id k.data.toList]
  exact List.map_congr_left fun x _ => by simp
theorem klt_succ (k x : ByteArray) : KOrd.lt x (strB (byts k ++ [0])) = !KOrd.lt k x := by
  rw [klt_str, klt_str, strB_byts]
  exact bl_succ _ _
theorem filter_cut {α : Type} {p : α → Bool} {L : List α} {i : Nat} (h1 : ∀ e ∈ L.take i, p e = true) (h2 : ∀ e ∈ L.drop i, p e = false) : L.filter p = L.take i := by
  conv => lhs; rw [← List.take_append_drop i L]
  rw [List.filter_append, List.filter_eq_self.2 h1, List.filter_eq_nil_iff.2 (fun e he => by simp [h2 e he]), List.append_nil]
theorem rank_from {t : TI} (h : Rise t.list) {i : Nat} (hi : i ≤ t.list.length) : t.rank (strB (fromK t.list i)) = i := by
  rw [Tr.rank_list _ _ h]
  cases i with
  | zero =>
    have : lowL (strB (fromK t.list 0)) t.list = t.list.take 0 := by
      unfold lowL
      refine filter_cut (by simp) (fun e _ => ?_)
      show KOrd.lt e.1 (strB []) = false
      rw [klt_str, ByteArray.toList_eq (strB []), strB_list]
      cases e.1.toList <;> rfl
    rw [this]; simp
  | succ i =>
    have hi' : i < t.list.length := by omega
    have hfk : fk t.list[i]? = t.list[i].1 := by rw [List.getElem?_eq_getElem hi']; rfl
    have : lowL (strB (fromK t.list (i + 1))) t.list = t.list.take (i + 1) := by
      rw [show fromK t.list (i + 1) = byts (fk t.list[i]?) ++ [0] from rfl, hfk]
      unfold lowL
      refine filter_cut (fun e he => ?_) (fun e he => ?_)
      · show KOrd.lt e.1 _ = true
        rw [klt_succ]
        obtain ⟨j, hj, rfl⟩ := List.mem_take_iff_getElem.1 he
        rcases Nat.lt_or_ge j i with hji | hji
        · have := List.pairwise_iff_getElem.1 h j i (by omega) hi' hji
          have h2 : KOrd.lt t.list[i].1 t.list[j].1 = false := bl_asym _ _ this
          rw [h2]; rfl
        · have : j = i := by omega
          subst this
          rw [KOrd.irr]; rfl
      · show KOrd.lt e.1 _ = false
        rw [klt_succ]
        obtain ⟨j, hj, rfl⟩ := List.mem_drop_iff_getElem.1 he
        have := List.pairwise_iff_getElem.1 h i (i + 1 + j) hi' (by omega) (by omega)
        have h2 : KOrd.lt t.list[i].1 t.list[i + 1 + j].1 = true := this
        rw [h2]; rfl
    rw [this, List.length_take]; omega
theorem seek_fnd {T : Tb} (h : Rise T.t.list) {i : Nat} (hi : i ≤ T.t.list.length) : fnd T ⟨5, fromK T.t.list i, [], 0⟩ = T.t.list[i]? := by
  unfold fnd
  rw [if_pos rfl, rank_from h hi, Tr.at_list]
  simp
theorem fromK_lt (L : List (ByteArray × VT)) (i : Nat) : ∀ x ∈ fromK L i, x < 256 := by
  cases i with
  | zero => intro x hx; cases hx
  | succ i =>
    intro x hx
    rcases List.mem_append.1 hx with h | h
    · exact byts_lt _ x h
    · simp at h; omega
theorem fromK_len {T : Tb} (h : Rok T.t) {i : Nat} (hi : i ≤ T.t.list.length) : (fromK T.t.list i).length ≤ 65 := by
  cases i with
  | zero => simp [fromK]
  | succ i =>
    have := (h.rows _ (List.getElem_mem (show i < T.t.list.length by omega))).1
    rw [show fromK T.t.list (i + 1) = byts (fk T.t.list[i]?) ++ [0] from rfl, List.length_append, byts_len, List.getElem?_eq_getElem (show i < T.t.list.length by omega)]
    simp only [fk, Option.getD_some, List.length_singleton]
    omega
theorem seek_rfs {T : Tb} (h : Rok T.t) {i : Nat} (hi : i ≤ T.t.list.length) : rfs T ⟨5, fromK T.t.list i, [], 0⟩ = 0 := by
  have hl := fromK_len h hi
  unfold rfs
  have h1 : rgt ⟨5, fromK T.t.list i, [], 0⟩ = true := by unfold rgt; simp; omega
  have h2 : wrs ⟨5, fromK T.t.list i, [], 0⟩ = false := by unfold wrs; simp
  rw [h1, h2]; simp
theorem seek_nxt (T : Tb) (k : List Nat) : nxt T ⟨5, k, [], 0⟩ = T := by
  unfold nxt rvn wrs chg
  simp
theorem seek_hit {W : World} {b : Nat} {T : Tb} {ks : Value} {i : Nat} (h : Tab W b T) (hT : Tok T) (hi : i < T.t.list.length) (ho : Wide W ks (fromK T.t.list i)) (hf : Free b ks) :
    Calls Try.prog 15 #[.pointer (some ⟨b, 0, none⟩), .agg #[.int .i64 5, ks, .slice none 0 0, .int .i64 0]] W fun e w' => ∃ ka kc va vc, e = .returned (.tuple #[.agg #[.bool true, .slice ka T.t.list[i].1.size kc, .slice va T.t.list[i].2.1.size vc, .int .i64 T.t.list[i].2.2, .int .i64 (T.rev : Int)], .int .i64 0]) ∧ NewS W (.slice ka T.t.list[i].1.size kc) (byts T.t.list[i].1) w' ∧ NewS W (.slice va T.t.list[i].2.1.size vc) (byts T.t.list[i].2.1) w' ∧ Tab w' b T ∧ Kept [b] W w' := by
  have hfn := seek_fnd hT.ok.rise (i := i) (by omega)
  rw [List.getElem?_eq_getElem hi] at hfn
  refine (Do_yes h hT (o := ⟨5, fromK T.t.list i, [], 0⟩) (vs := .slice none 0 0) ⟨ho, Or.inl (Or.inl ⟨rfl, rfl⟩), fromK_lt _ _, (fun x hx => by cases hx)⟩ hf (Or.inr fun x hx => by cases hx) (seek_rfs hT.ok (by omega))).mono ?_
  rintro e w' ⟨ka, kn, kc, va, vn, vc, he, ha⟩
  have ht := ha.t
  have hk := ha.k
  have hv := ha.v
  rw [seek_nxt] at ht
  rw [hfn] at hk hv he
  simp only [Option.isSome_some, if_true, fk, fv, Option.getD_some] at hk hv he
  have hdn : dn T ⟨5, fromK T.t.list i, [], 0⟩ = true := by unfold dn dne; rw [hfn]; simp
  have hrv : rvn T ⟨5, fromK T.t.list i, [], 0⟩ = T.rev := by unfold rvn wrs; simp
  obtain ⟨ka', kc', e1⟩ := wide_len (Or.inl hk.1)
  obtain ⟨va', vc', e2⟩ := wide_len (Or.inl hv.1)
  rw [byts_len] at e1 e2
  cases e1
  cases e2
  rw [hdn, hrv] at he
  exact ⟨ka, kc, va, vc, he, hk, hv, ht, ha.kp⟩
theorem seek_miss {W : World} {b : Nat} {T : Tb} {ks : Value} (h : Tab W b T) (hT : Tok T) (ho : Wide W ks (fromK T.t.list T.t.list.length)) (hf : Free b ks) :
    Calls Try.prog 15 #[.pointer (some ⟨b, 0, none⟩), .agg #[.int .i64 5, ks, .slice none 0 0, .int .i64 0]] W fun e w' => ∃ ka kc va vc, e = .returned (.tuple #[.agg #[.bool false, .slice ka 0 kc, .slice va 0 vc, .int .i64 0, .int .i64 (T.rev : Int)], .int .i64 0]) ∧ Tab w' b T ∧ Kept [b] W w' := by
  have hfn := seek_fnd hT.ok.rise (i := T.t.list.length) (Nat.le_refl _)
  rw [List.getElem?_eq_none (Nat.le_refl _)] at hfn
  refine (Do_yes h hT (o := ⟨5, fromK T.t.list T.t.list.length, [], 0⟩) (vs := .slice none 0 0) ⟨ho, Or.inl (Or.inl ⟨rfl, rfl⟩), fromK_lt _ _, (fun x hx => by cases hx)⟩ hf (Or.inr fun x hx => by cases hx) (seek_rfs hT.ok (Nat.le_refl _))).mono ?_
  rintro e w' ⟨ka, kn, kc, va, vn, vc, he, ha⟩
  have ht := ha.t
  have hk := ha.k
  have hv := ha.v
  rw [seek_nxt] at ht
  rw [hfn] at hk hv he
  simp only [Option.isSome_none, Bool.false_eq_true, if_false] at hk hv he
  have hdn : dn T ⟨5, fromK T.t.list T.t.list.length, [], 0⟩ = false := by unfold dn dne; rw [hfn]; simp
  have hrv : rvn T ⟨5, fromK T.t.list T.t.list.length, [], 0⟩ = T.rev := by unfold rvn wrs; simp
  obtain ⟨ka', kc', e1⟩ := wide_len (Or.inl hk.1)
  obtain ⟨va', vc', e2⟩ := wide_len (Or.inl hv.1)
  cases e1
  cases e2
  rw [hdn, hrv] at he
  exact ⟨ka, kc, va, vc, he, ht, ha.kp⟩
set_option maxRecDepth 100000 in
theorem trev_any {w : World} {b : Nat} {T : Tb} (h : Tab w b T) : Calls Try.prog 10 #[.pointer (some ⟨b, 0, none⟩)] w fun e w' => e = .returned (.int .i64 (T.rev : Int)) ∧ w' = w := by
  obtain ⟨q, hb, ht⟩ := h
  obtain ⟨c0, c1, c2⟩ := box3 hb
  clear hb ht
  generalize (T.rev : Int) = rv at *
  go_enter Try.func10, Try.ntmps10
  go_wp2_with fail
  go_ret
  exact ⟨rfl, rfl⟩
set_option maxRecDepth 100000 in
set_option maxHeartbeats 1000000 in
theorem sameRow_any {w : World} {k1 v1 k2 v2 : Value} {a b c d : List Nat} (r1 r2 : Int) (h1 : Wide w k1 a) (h2 : Wide w v1 b) (h3 : Wide w k2 c) (h4 : Wide w v2 d) (la : a.length ≤ 140737488355328) (lb : b.length ≤ 140737488355328) :
    Calls Try.prog 21 #[.agg #[k1, v1, .int .i64 r1], .agg #[k2, v2, .int .i64 r2]] w fun e w' => e = .returned (.bool (decide (a = c ∧ b = d ∧ r1 = r2))) ∧ Kept [] w w' := by
  have HS1 : Hid (∀ W, Kept [] w W → _) := hide (fun W (hk : Kept [] w W) => same_full (h1.kept hk) (h3.kept hk) la)
  have HS2 : Hid (∀ W, Kept [] w W → _) := hide (fun W (hk : Kept [] w W) => same_full (h2.kept hk) (h4.kept hk) lb)
  obtain ⟨xa, xc, rfl⟩ := wide_len h1
  obtain ⟨ya, yc, rfl⟩ := wide_len h2
  obtain ⟨za, zc, rfl⟩ := wide_len h3
  obtain ⟨ua, uc, rfl⟩ := wide_len h4
  clear h1 h2 h3 h4
  have HB1 : Hid (Blk ((w.alloc (.cells #[.slice xa a.length xc, .slice ya b.length yc, .int .i64 r1] 32)).alloc (.cells #[.slice za c.length zc, .slice ua d.length uc, .int .i64 r2] 32)) w.heap.size #[.slice xa a.length xc, .slice ya b.length yc, .int .i64 r1] 32) := hide ((Blk.new w _ _).alloc _)
  have HB2 : Hid (Blk ((w.alloc (.cells #[.slice xa a.length xc, .slice ya b.length yc, .int .i64 r1] 32)).alloc (.cells #[.slice za c.length zc, .slice ua d.length uc, .int .i64 r2] 32)) (w.heap.size + 1) #[.slice za c.length zc, .slice ua d.length uc, .int .i64 r2] 32) := hide (new2 w _ _ _)
  generalize hac : decide (a = c) = ac at HS1
  generalize hbd : decide (b = d) = bd at HS2
  have hres : decide (a = c ∧ b = d ∧ r1 = r2) = (ac && (bd && decide (r1 = r2))) := by rw [← hac, ← hbd]; simp [Bool.decide_and]
  rw [hres]
  clear hres hac hbd
  generalize a.length = la' at *
  generalize b.length = lb' at *
  generalize c.length = lc' at *
  generalize d.length = ld' at *
  cases ac
  · go_enter Try.func21, Try.ntmps21
    go_wp2_with (first
      | (go_at_call 12; refine (unhide HS1 _ (((Kept.refl [] w).alloc _).alloc _)).mono ?_; rintro e w1 ⟨rfl, hk1⟩
         have HK1 := hide ((((Kept.refl [] w).alloc _).alloc _).step hk1)
         clear hk1 HS1))
    go_ret
    exact ⟨rfl, unhide HK1⟩
  · cases bd
    · go_enter Try.func21, Try.ntmps21
      go_wp2_with (first
        | (go_at_call 12; refine (unhide HS1 _ (((Kept.refl [] w).alloc _).alloc _)).mono ?_; rintro e w1 ⟨rfl, hk1⟩
           have HK1 := hide ((((Kept.refl [] w).alloc _).alloc _).step hk1)
           obtain ⟨p0, p1, p2⟩ := box3 ((unhide HB1).kept hk1 (by simp))
           obtain ⟨q0, q1, q2⟩ := box3 ((unhide HB2).kept hk1 (by simp))
           clear hk1 HS1)
        | (go_at_call 12; refine (unhide HS2 _ (unhide HK1)).mono ?_; rintro e w2 ⟨rfl, hk2⟩
           have HK2 := hide ((unhide HK1).step hk2)
           clear hk2 HS2))
      go_ret
      exact ⟨rfl, unhide HK2⟩
    · go_enter Try.func21, Try.ntmps21
      go_wp2_with (first
        | (go_at_call 12; refine (unhide HS1 _ (((Kept.refl [] w).alloc _).alloc _)).mono ?_; rintro e w1 ⟨rfl, hk1⟩
           have HK1 := hide ((((Kept.refl [] w).alloc _).alloc _).step hk1)
           have HB3 := hide ((unhide HB1).kept hk1 (by simp))
           have HB4 := hide ((unhide HB2).kept hk1 (by simp))
           obtain ⟨p0, p1, p2⟩ := box3 (unhide HB3)
           obtain ⟨q0, q1, q2⟩ := box3 (unhide HB4)
           clear hk1 HS1)
        | (go_at_call 12; refine (unhide HS2 _ (unhide HK1)).mono ?_; rintro e w2 ⟨rfl, hk2⟩
           have HK2 := hide ((unhide HK1).step hk2)
           obtain ⟨s0, s1, s2⟩ := box3 ((unhide HB3).kept hk2 (by simp))
           obtain ⟨t0, t1, t2⟩ := box3 ((unhide HB4).kept hk2 (by simp))
           clear hk2 HS2))
      go_ret
      refine ⟨ret_bool ?_, unhide HK2⟩
      rw [Bool.eq_iff_iff]
      simp
end Go.Proofs.Ytkejpbfbpomjfab.tre
