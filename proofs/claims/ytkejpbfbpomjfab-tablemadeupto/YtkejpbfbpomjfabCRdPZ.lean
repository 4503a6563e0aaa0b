/- What Read makes of bytes: plain. -/
import Derived.Test.YtkejpbfbpomjfabPkBL
import Derived.Test.YtkejpbfbpomjfabCRqZ
namespace Go.Proofs.Ytkejpbfbpomjfab.tre
open Go.RowKit
set_option linter.unusedVariables false

theorem nodup_le2 {α : Type} [BEq α] [LawfulBEq α] : ∀ {l m : List α}, l.Nodup → (∀ x ∈ l, x ∈ m) → l.length ≤ m.length
  | [], m, _, _ => Nat.zero_le _
  | a :: l, m, hn, hs => by
    obtain ⟨h1, h2⟩ := List.nodup_cons.1 hn
    have ha := hs a (List.mem_cons_self ..)
    have := nodup_le2 (l := l) (m := m.erase a) h2 (fun x hx => (List.mem_erase_of_ne (a := x) (b := a) (fun e => h1 (by rw [← e]; exact hx))).2 (hs x (List.mem_cons_of_mem _ hx)))
    rw [List.length_erase_of_mem ha] at this
    have hp : 0 < m.length := List.length_pos_of_mem ha
    simp only [List.length_cons]
    omega
theorem read_one (l : List Nat) : ∀ (k acc n : Nat) (r : List Nat), (∀ x ∈ l, x < 256) → readNum k acc l = .inr (n, r) → ∃ m, n = acc + m * 128 ^ k ∧ l = form m ++ r ∧ (0 < k → 0 < m) := by
  induction l with
  | nil => intro k acc n r _ h; simp [readNum] at h
  | cons x l ih =>
    intro k acc n r hl h
    have hx := hl x (by simp)
    rw [readNum] at h
    split at h
    · cases h
    · split at h
      · rename_i h8
        split at h
        · cases h
        · rename_i h0
          cases h
          exact ⟨x, rfl, by rw [form_small h8]; rfl, fun hk => by omega⟩
      · rename_i h8
        obtain ⟨m, h1, h2, h3⟩ := ih (k + 1) _ n r (fun y hy => hl y (by simp [hy])) h
        have h4 := h3 (by omega)
        refine ⟨x % 128 + 128 * m, ?_, ?_, fun _ => by omega⟩
        · rw [h1, Nat.pow_succ, Nat.add_mul]
          have : m * (128 ^ k * 128) = 128 * m * 128 ^ k := by rw [Nat.mul_comm (128 ^ k), ← Nat.mul_assoc, Nat.mul_comm m]
          omega
        · rw [form_big (by omega), h2]
          have e1 : (x % 128 + 128 * m) % 128 + 128 = x := by omega
          have e2 : (x % 128 + 128 * m) / 128 = m := by omega
          rw [e1, e2]; rfl
theorem read_one0 {l r : List Nat} {n : Nat} (hl : ∀ x ∈ l, x < 256) (h : readNum 0 0 l = .inr (n, r)) : l = form n ++ r := by
  obtain ⟨m, h1, h2, _⟩ := read_one l 0 0 n r hl h
  have : n = m := by simp at h1; exact h1
  rw [this]; exact h2
def rG (l : List Nat) : RS := ⟨0, l, []⟩
theorem rNum_G (n : Nat) (l : List Nat) (h : n < 18446744073709551616) : rNum (rG (form n ++ l)) = (rG l, n) := by
  unfold rNum rG
  rw [if_neg (by simp)]
  dsimp only
  rw [read_form0 n l h]
theorem rText_G (ps l : List Nat) (most : Int) (h : (ps.length : Int) ≤ most) (h2 : ps.length < 18446744073709551616) : rText (rG (form ps.length ++ (ps ++ l))) most = (rG l, ps) := by
  unfold rText rG
  rw [if_neg (by simp)]
  dsimp only
  rw [read_form0 ps.length (ps ++ l) h2]
  dsimp only
  rw [if_neg (by omega), if_neg (by simp)]
  simp
theorem rNum_F {c : Nat} (h : c ≠ 0) : rNum (rF c) = (rF c, 0) := by unfold rNum; rw [if_pos (by exact h)]
theorem rText_F {c : Nat} (h : c ≠ 0) (m : Int) : rText (rF c) m = (rF c, []) := by unfold rText; rw [if_pos (by exact h)]
theorem rNum_cases {l : List Nat} (hl : ∀ x ∈ l, x < 256) : (∃ n r, rNum (rG l) = (rG r, n) ∧ l = form n ++ r ∧ n < 18446744073709551616 ∧ ∀ x ∈ r, x < 256) ∨ ∃ c, c ≠ 0 ∧ rNum (rG l) = (rF c, 0) := by
  unfold rNum rG
  rw [if_neg (by simp)]
  dsimp only
  cases hr : readNum 0 0 l with
  | inl c => exact Or.inr ⟨c, by rcases readNum_code _ _ _ hr with rfl | rfl <;> omega, rfl⟩
  | inr p =>
    obtain ⟨n, r⟩ := p
    obtain ⟨h1, h2, h3⟩ := readNum_lt _ 0 0 (by omega) (by simp) hl hr
    exact Or.inl ⟨n, r, rfl, read_one0 hl hr, h1, h2⟩
theorem rText_cases {l : List Nat} (hl : ∀ x ∈ l, x < 256) (most : Nat) : (∃ ps r, rText (rG l) most = (rG r, ps) ∧ l = form ps.length ++ (ps ++ r) ∧ ps.length ≤ most ∧ (∀ x ∈ ps, x < 256) ∧ ∀ x ∈ r, x < 256) ∨ ∃ c, c ≠ 0 ∧ rText (rG l) most = (rF c, []) := by
  unfold rText rG
  rw [if_neg (by simp)]
  dsimp only
  cases hr : readNum 0 0 l with
  | inl c => exact Or.inr ⟨c, by rcases readNum_code _ _ _ hr with rfl | rfl <;> omega, rfl⟩
  | inr p =>
    obtain ⟨n, r⟩ := p
    obtain ⟨h1, h2, h3⟩ := readNum_lt _ 0 0 (by omega) (by simp) hl hr
    have h4 := read_one0 hl hr
    dsimp only
    by_cases hm : ((most : Int)).toNat < n
    · rw [if_pos hm]; exact Or.inr ⟨11, by omega, rfl⟩
    · rw [if_neg hm]
      by_cases hn : r.length < n
      · rw [if_pos hn]; exact Or.inr ⟨10, by omega, rfl⟩
      · rw [if_neg hn]
        have ht : (r.take n).length = n := by rw [List.length_take]; omega
        exact Or.inl ⟨r.take n, r.drop n, rfl, by rw [ht, List.take_append_drop]; exact h4, by rw [ht]; omega, fun x hx => h2 x (List.mem_of_mem_take hx), fun x hx => h2 x (List.mem_of_mem_drop hx)⟩
theorem strB_bytes (s : ByteArray) : strB (byts s) = s := by
  apply ByteArray.ext
  apply Array.toList_inj.1
  rw [strB_list]
  unfold byts
  rw [List.map_map]
  conv => rhs; rw [← List.map_id s.data.toList]
  apply List.map_congr_left
  intro u _
  simp
theorem strB_nil : strB [] = ByteArray.empty := rfl
theorem lt_empty (k : ByteArray) : KOrd.lt k ByteArray.empty = false := by
  rw [klt_str]
  have : ByteArray.empty.toList = [] := by rw [ByteArray.toList_eq]; rfl
  rw [this]
  cases k.toList <;> rfl
theorem empty_lt {k : ByteArray} (h : 1 ≤ k.size) : KOrd.lt ByteArray.empty k = true := by
  rw [klt_str]
  have : ByteArray.empty.toList = [] := by rw [ByteArray.toList_eq]; rfl
  rw [this]
  have hk : k.toList.length = k.size := by rw [ByteArray.toList_eq, Array.length_toList]; rfl
  cases hl : k.toList with
  | nil => rw [hl] at hk; simp at hk; omega
  | cons a l => rfl

/-- reading under way: the reader, the rows, the last key, the revisions that came -/
structure RdS where
  s : RS
  t : TI
  last : ByteArray
  seen : List Nat
def rK (s : RS) := rText s 64
def rV (s : RS) := rText (rK s).1 256
def rR (s : RS) := rNum (rV s).1
def rdGood (rev : Nat) (x : RdS) : Prop := KOrd.lt x.last (strB (rK x.s).2) = true ∧ 1 ≤ (rR x.s).2 ∧ (rR x.s).2 ≤ rev ∧ (rR x.s).2 ∉ x.seen
instance (rev : Nat) (x : RdS) : Decidable (rdGood rev x) := by unfold rdGood; infer_instance
def rdNext (x : RdS) : RdS := ⟨(rR x.s).1, setT x.t (strB (rK x.s).2) (strB (rV x.s).2, ((rR x.s).2 : Int)), strB (rK x.s).2, (rR x.s).2 :: x.seen⟩
def rdRows (rev : Nat) : Nat → RdS → Option RdS
  | 0, x => some x
  | n + 1, x => if rdGood rev x then rdRows rev n (rdNext x) else none
def rdA (ps : List Nat) := rNum (rG ps)
def rdB (ps : List Nat) := rNum (rdA ps).1
def rd0 (ps : List Nat) : RdS := ⟨(rdB ps).1, .nil, ByteArray.empty, []⟩
def rdT (ps : List Nat) : Option Tb :=
  if 1099511627776 < (rdA ps).2 then none else
  match rdRows (rdA ps).2 (rdB ps).2 (rd0 ps) with
  | none => none
  | some y => if rDone y.s = 0 then some ⟨y.t, (rdA ps).2⟩ else none

/-- a row that may be read -/
def RowOk (rev : Nat) (e : ByteArray × VT) : Prop := 1 ≤ e.1.size ∧ e.1.size ≤ 64 ∧ e.2.1.size ≤ 256 ∧ 1 ≤ e.2.2 ∧ e.2.2 ≤ (rev : Int)
/-- a row more is read -/
theorem good_row {rev : Nat} {x : RdS} {l : List Nat} (hs : x.s = rG l) (hl : ∀ b ∈ l, b < 256) (h : rdGood rev x) (hrev : rev ≤ 1099511627776) :
    ∃ e r, l = rowF e ++ r ∧ RowOk rev e ∧ e.2.2.toNat ∉ x.seen ∧ KOrd.lt x.last e.1 = true ∧ rdNext x = ⟨rG r, setT x.t e.1 e.2, e.1, e.2.2.toNat :: x.seen⟩ ∧ ∀ b ∈ r, b < 256 := by
  obtain ⟨h1, h2, h3, h4⟩ := h
  rcases rText_cases hl 64 with ⟨ps, r, e1, e2, e3, e4, e5⟩ | ⟨c, hc, e1⟩
  · have hk : rK x.s = (rG r, ps) := by unfold rK; rw [hs]; exact e1
    rcases rText_cases e5 256 with ⟨vs, r2, f1, f2, f3, f4, f5⟩ | ⟨c, hc, f1⟩
    · have hv : rV x.s = (rG r2, vs) := by unfold rV; rw [hk]; exact f1
      rcases rNum_cases f5 with ⟨n, r3, g1, g2, g3, g4⟩ | ⟨c, hc, g1⟩
      · have hr : rR x.s = (rG r3, n) := by unfold rR; rw [hv]; exact g1
        have hn : rdNext x = ⟨rG r3, setT x.t (strB ps) (strB vs, (n : Int)), strB ps, n :: x.seen⟩ := by unfold rdNext; rw [hk, hv, hr]
        rw [hk] at h1
        rw [hr] at h2 h3 h4
        refine ⟨(strB ps, strB vs, (n : Int)), r3, ?_, ⟨?_, ?_, ?_, ?_, ?_⟩, ?_, h1, ?_, g4⟩
        · unfold rowF
          simp only [strB_size, byts_strB e4, byts_strB f4, Int.toNat_natCast]
          rw [e2, f2, g2]
          simp
        · rw [strB_size]
          rcases ps with _ | ⟨p, ps⟩
          · simp only [strB_nil, lt_empty] at h1; cases h1
          · simp
        · rw [strB_size]; exact e3
        · rw [strB_size]; exact f3
        · simp only at h2 ⊢; omega
        · simp only at h3 ⊢; omega
        · simpa using h4
        · rw [hn]; simp
      · have hr : rR x.s = (rF c, 0) := by unfold rR; rw [hv]; exact g1
        rw [hr] at h2
        simp at h2
    · have hv : rV x.s = (rF c, []) := by unfold rV; rw [hk]; exact f1
      have hr : rR x.s = (rF c, 0) := by unfold rR; rw [hv]; exact rNum_F hc
      rw [hr] at h2
      simp at h2
  · have hk : rK x.s = (rF c, []) := by unfold rK; rw [hs]; exact e1
    rw [hk] at h1
    simp only [strB_nil, lt_empty] at h1
    cases h1
/-- a sound row is read -/
theorem row_good {rev : Nat} {e : ByteArray × VT} {r : List Nat} {t : TI} {last : ByteArray} {seen : List Nat} (he : RowOk rev e) (hrev : rev ≤ 1099511627776) (hs : e.2.2.toNat ∉ seen) (hl : KOrd.lt last e.1 = true) :
    rdGood rev ⟨rG (rowF e ++ r), t, last, seen⟩ ∧ rdNext ⟨rG (rowF e ++ r), t, last, seen⟩ = ⟨rG r, setT t e.1 e.2, e.1, e.2.2.toNat :: seen⟩ := by
  obtain ⟨h1, h2, h3, h4, h5⟩ := he
  have hk : rK (rG (rowF e ++ r)) = (rG (form e.2.1.size ++ (byts e.2.1 ++ (form e.2.2.toNat ++ r))), byts e.1) := by
    unfold rK rowF
    have := rText_G (byts e.1) (form e.2.1.size ++ (byts e.2.1 ++ (form e.2.2.toNat ++ r))) 64 (by rw [byts_len]; omega) (by rw [byts_len]; omega)
    rw [byts_len] at this
    rw [← this]
    simp
  have hv : rV (rG (rowF e ++ r)) = (rG (form e.2.2.toNat ++ r), byts e.2.1) := by
    unfold rV
    rw [hk]
    have := rText_G (byts e.2.1) (form e.2.2.toNat ++ r) 256 (by rw [byts_len]; omega) (by rw [byts_len]; omega)
    rw [byts_len] at this
    exact this
  have hr : rR (rG (rowF e ++ r)) = (rG r, e.2.2.toNat) := by
    unfold rR
    rw [hv]
    exact rNum_G _ _ (by omega)
  refine ⟨?_, ?_⟩
  · unfold rdGood
    simp only [hk, hr, strB_bytes]
    exact ⟨hl, by omega, by omega, hs⟩
  · unfold rdNext
    simp only [hk, hv, hr, strB_bytes]
    have : ((e.2.2.toNat : Nat) : Int) = e.2.2 := by omega
    rw [this]
/-- what is known while rows are read -/
structure RI (rev : Nat) (p : List Nat) (x : RdS) : Prop where
  ex : ∃ l, x.s = rG l ∧ (∀ b ∈ l, b < 256) ∧ p = rowsF x.t.list ++ l
  rok : Rok x.t
  row : ∀ e ∈ x.t.list, RowOk rev e
  last : ∀ e ∈ x.t.list, KOrd.lt e.1 x.last = true ∨ e.1 = x.last
  seen : x.seen = (x.t.list.map fun e => e.2.2.toNat).reverse
  nd : x.seen.Nodup
theorem RI.size {rev : Nat} {p : List Nat} {x : RdS} (h : RI rev p x) : x.t.size = x.seen.length ∧ x.seen.length ≤ rev := by
  have h1 : x.seen.length = x.t.list.length := by rw [h.seen]; simp
  refine ⟨by rw [h1, Tr.list_length], ?_⟩
  have := nodup_le2 (m := List.range' 1 rev) h.nd (fun y hy => by
    rw [h.seen, List.mem_reverse] at hy
    obtain ⟨e, he, rfl⟩ := List.mem_map.1 hy
    obtain ⟨-, -, -, h4, h5⟩ := h.row e he
    rw [List.mem_range'_1]
    omega)
  simpa using this
theorem RI.low {rev : Nat} {p : List Nat} {x : RdS} (h : RI rev p x) {k : ByteArray} (hk : KOrd.lt x.last k = true) : ∀ e ∈ x.t.list, klt e.1 k = true := fun e he => by
  rcases h.last e he with h1 | h1
  · exact klt_tr h1 hk
  · rw [h1]; exact hk
theorem set_last {t : TI} (hr : Rise t.list) {k : ByteArray} (x : VT) (h : ∀ e ∈ t.list, klt e.1 k = true) : (setT t k x).list = t.list ++ [(k, x)] := by
  rw [set_list hr, lowL_all h, highL_none (fun e he => klt_asym (h e he))]
theorem RI.next {rev : Nat} {p : List Nat} {x : RdS} (h : RI rev p x) (hrev : rev ≤ 1099511627776) (hg : rdGood rev x) : RI rev p (rdNext x) ∧ (rdNext x).seen.length = x.seen.length + 1 ∧ x.t.size < 1099511627776 ∧ Rw (strB (rK x.s).2, strB (rV x.s).2, ((rR x.s).2 : Int)) := by
  obtain ⟨l, hs, hl, hp⟩ := h.ex
  obtain ⟨e, r, e1, e2, e3, e4, e5, e6⟩ := good_row hs hl hg hrev
  have hlow := h.low e4
  have hset := set_last h.rok.rise e.2 hlow
  obtain ⟨hz1, hz2⟩ := h.size
  obtain ⟨r1, r2, r3, r4, r5⟩ := e2
  have hrw : Rw (e.1, e.2) := ⟨r2, r3, by simp only; omega, by simp only; omega⟩
  have hnd : (e.2.2.toNat :: x.seen).Nodup := List.nodup_cons.2 ⟨e3, h.nd⟩
  have hlen : x.seen.length + 1 ≤ rev := by
    have := nodup_le2 (m := List.range' 1 rev) hnd (fun y hy => by
      rcases List.mem_cons.1 hy with rfl | hy
      · rw [List.mem_range'_1]; omega
      · rw [h.seen, List.mem_reverse] at hy
        obtain ⟨z, hz, rfl⟩ := List.mem_map.1 hy
        obtain ⟨-, -, -, h4, h5⟩ := h.row z hz
        rw [List.mem_range'_1]; omega)
    simpa using this
  have hzz : x.t.size < 1099511627776 := by omega
  have hN := e5
  have hsr := set_rok h.rok hrw hzz
  rw [e5]
  refine ⟨⟨⟨r, rfl, e6, ?_⟩, hsr.1, fun z hz => ?_, fun z hz => ?_, ?_, hnd⟩, by simp, hzz, ?_⟩
  · simp only
    rw [hset, rowsF_snoc, hp, e1]
    simp
  · simp only at hz
    rw [hset] at hz
    rcases List.mem_append.1 hz with hz | hz
    · exact h.row z hz
    · simp at hz; subst hz; exact ⟨r1, r2, r3, r4, r5⟩
  · simp only at hz ⊢
    rw [hset] at hz
    rcases List.mem_append.1 hz with hz | hz
    · exact Or.inl (hlow z hz)
    · simp at hz; subst hz; exact Or.inr rfl
  · simp only
    rw [hset, h.seen]
    simp
  · have h1 : strB (rK x.s).2 = e.1 := congrArg RdS.last e5
    have h2 : (rR x.s).2 = e.2.2.toNat := by have := congrArg RdS.seen e5; unfold rdNext at this; simp only [List.cons.injEq, and_true] at this; exact this
    have h3 : (strB (rV x.s).2).size ≤ 256 := by
      rw [strB_size]
      have hkk : ∃ q, rK x.s = q := ⟨_, rfl⟩
      unfold rV
      have : ∀ (s : RS), (rText s 256).2.length ≤ 256 := fun s => by
        unfold rText
        split
        · simp
        · split
          · simp
          · split
            · simp
            · split
              · simp
              · rename_i hm _
                simp only [List.length_take]
                omega
      exact this _
    refine ⟨by rw [h1]; exact r2, h3, by simp only; omega, by simp only; rw [h2]; omega⟩
theorem RI.rows {rev : Nat} {p : List Nat} (hrev : rev ≤ 1099511627776) : ∀ (n : Nat) {x y : RdS}, RI rev p x → rdRows rev n x = some y → RI rev p y ∧ y.seen.length = x.seen.length + n
  | 0, x, y, h, he => by cases he; exact ⟨h, rfl⟩
  | n + 1, x, y, h, he => by
    unfold rdRows at he
    split at he
    · rename_i hg
      obtain ⟨h1, h2, -⟩ := h.next hrev hg
      obtain ⟨h3, h4⟩ := RI.rows hrev n h1 he
      exact ⟨h3, by omega⟩
    · cases he
/-- a sound table -/
structure Snd (T : Tb) : Prop where
  tok : Tok T
  key : ∀ e ∈ T.t.list, 1 ≤ e.1.size
  nd : (T.t.list.map fun e => e.2.2.toNat).Nodup
theorem Snd.row {T : Tb} (h : Snd T) {e : ByteArray × VT} (he : e ∈ T.t.list) : RowOk T.rev e := by
  have h1 := h.tok.ok.rows e he
  have h2 := h.tok.up e he
  exact ⟨h.key e he, h1.1, h1.2.1, h2.1, h2.2⟩
theorem rd0_ri {ps l : List Nat} {rev n : Nat} (hb : ∀ b ∈ l, b < 256) : RI rev l ⟨rG l, .nil, ByteArray.empty, []⟩ :=
  ⟨⟨l, rfl, hb, rfl⟩, Tok.new.ok, (fun e he => by cases he), (fun e he => by cases he), rfl, List.nodup_nil⟩
theorem rd_form {ps : List Nat} (hb : ∀ b ∈ ps, b < 256) {T : Tb} (h : rdT ps = some T) : Snd T ∧ tblF T = ps := by
  unfold rdT at h
  split at h
  · cases h
  · rename_i hrev
    split at h
    · cases h
    · rename_i y hy
      split at h
      · rename_i hd
        cases h
        rcases rNum_cases hb with ⟨n, r, e1, e2, e3, e4⟩ | ⟨c, hc, e1⟩
        · have hA : rdA ps = (rG r, n) := e1
          rcases rNum_cases e4 with ⟨m, r2, f1, f2, f3, f4⟩ | ⟨c, hc, f1⟩
          · have hB : rdB ps = (rG r2, m) := by unfold rdB; rw [hA]; exact f1
            unfold rd0 at hy
            rw [hA, hB] at hy
            rw [hA] at hrev ⊢
            simp only at hy hrev ⊢
            obtain ⟨hi, hl⟩ := RI.rows (by omega) m (rd0_ri (ps := ps) (n := n) f4) hy
            obtain ⟨z1, z2⟩ := hi.size
            obtain ⟨l, hs, -, hp⟩ := hi.ex
            have hl0 : l = [] := by
              rw [hs] at hd
              unfold rDone rG at hd
              simp only at hd
              split at hd
              · omega
              · split at hd
                · rename_i h1; exact h1.1
                · omega
            refine ⟨⟨⟨hi.rok, by simp only; omega, by simp only; omega, fun e he => ?_⟩, fun e he => (hi.row e he).1, ?_⟩, ?_⟩
            · have := hi.row e he
              exact ⟨this.2.2.2.1, this.2.2.2.2⟩
            · have := hi.nd
              rw [hi.seen] at this
              exact (List.pairwise_reverse.1 this).imp (fun h => Ne.symm h)
            · unfold tblF
              simp only
              rw [z1, hl, e2, f2, hp, hl0]
              simp
          · have hB : rdB ps = (rF c, 0) := by unfold rdB; rw [hA]; exact f1
            exfalso
            unfold rd0 at hy
            rw [hB] at hy
            simp only [rdRows] at hy
            cases hy
            unfold rDone rF at hd
            simp only at hd
            rw [if_pos hc] at hd
            exact hc hd
        · exfalso
          have hA : rdA ps = (rF c, 0) := e1
          have hB : rdB ps = (rF c, 0) := by unfold rdB; rw [hA]; exact rNum_F hc
          unfold rd0 at hy
          rw [hB] at hy
          simp only [rdRows] at hy
          cases hy
          unfold rDone rF at hd
          simp only at hd
          rw [if_pos hc] at hd
          exact hc hd
      · cases h
theorem rows_read {rev : Nat} (hrev : rev ≤ 1099511627776) (r : List Nat) : ∀ (L : List (ByteArray × VT)) (t : TI) (last : ByteArray) (seen : List Nat), Rise t.list → (∀ e ∈ t.list, klt e.1 last = true ∨ e.1 = last) → (∀ e ∈ L, RowOk rev e) → Rise L → (∀ e ∈ L, KOrd.lt last e.1 = true) → (L.map fun e => e.2.2.toNat).Nodup → (∀ e ∈ L, e.2.2.toNat ∉ seen) →
    ∃ y, rdRows rev L.length ⟨rG (rowsF L ++ r), t, last, seen⟩ = some y ∧ y.s = rG r ∧ y.t.list = t.list ++ L
  | [], t, last, seen, _, _, _, _, _, _, _ => ⟨_, rfl, rfl, by simp⟩
  | e :: L, t, last, seen, h1, h2, h3, h4, h5, h6, h7 => by
    have hf : rowsF (e :: L) ++ r = rowF e ++ (rowsF L ++ r) := by simp [rowsF]
    rw [hf]
    obtain ⟨g1, g2⟩ := row_good (r := rowsF L ++ r) (t := t) (h3 e (List.mem_cons_self ..)) hrev (h7 e (List.mem_cons_self ..)) (h5 e (List.mem_cons_self ..))
    have hlow : ∀ x ∈ t.list, klt x.1 e.1 = true := fun x hx => by
      rcases h2 x hx with h | h
      · exact klt_tr h (h5 e (List.mem_cons_self ..))
      · rw [h]; exact h5 e (List.mem_cons_self ..)
    have hset := set_last h1 e.2 hlow
    obtain ⟨h41, h42⟩ := List.pairwise_cons.1 h4
    rw [List.map_cons, List.nodup_cons] at h6
    obtain ⟨y, i1, i2, i3⟩ := rows_read hrev r L (setT t e.1 e.2) e.1 (e.2.2.toNat :: seen) (by
        rw [hset]
        exact rise_append h1 (List.pairwise_singleton ..) (fun x hx y hy => by rw [List.mem_singleton] at hy; subst hy; exact hlow x hx)) (fun x hx => by
        rw [hset] at hx
        rcases List.mem_append.1 hx with hx | hx
        · exact Or.inl (hlow x hx)
        · rw [List.mem_singleton] at hx; subst hx; exact Or.inr rfl) (fun x hx => h3 x (List.mem_cons_of_mem _ hx)) h42 (fun x hx => h41 x hx) h6.2 (fun x hx hm => by
        rcases List.mem_cons.1 hm with hm | hm
        · exact h6.1 (List.mem_map.2 ⟨x, hx, hm⟩)
        · exact h7 x (List.mem_cons_of_mem _ hx) hm)
    refine ⟨y, ?_, i2, ?_⟩
    · rw [List.length_cons]
      unfold rdRows
      rw [if_pos g1, g2]
      exact i1
    · rw [i3, hset]; simp
/-- a sound table's form, whatever stands behind it -/
theorem rd_back {T : Tb} (h : Snd T) (r : List Nat) (hr : ∀ b ∈ r, b < 256) : rdT (tblF T ++ r) = if r = [] then rdT (tblF T) else none := by
  split
  · rename_i e; subst e; rw [List.append_nil]
  · rename_i hne
    have hrev := h.tok.rev
    have hsz := h.tok.size
    have hA : rdA (tblF T ++ r) = (rG (form T.t.size ++ (rowsF T.t.list ++ r)), T.rev) := by
      unfold rdA tblF
      have := rNum_G T.rev (form T.t.size ++ (rowsF T.t.list ++ r)) (by omega)
      rw [← this]
      simp
    have hB : rdB (tblF T ++ r) = (rG (rowsF T.t.list ++ r), T.t.size) := by
      unfold rdB
      rw [hA]
      exact rNum_G _ _ (by omega)
    obtain ⟨y, i1, i2, i3⟩ := rows_read hrev r T.t.list .nil ByteArray.empty [] List.Pairwise.nil (fun e he => by cases he) (fun e he => h.row he) h.tok.ok.rise (fun e he => empty_lt (h.key e he)) h.nd (fun e _ hm => by cases hm)
    unfold rdT
    rw [hA]
    simp only
    rw [if_neg (by omega)]
    unfold rd0
    rw [hB]
    simp only
    rw [Tr.list_length] at i1
    rw [i1]
    simp only
    rw [if_neg]
    rw [i2]
    unfold rDone rG
    simp [hne]
theorem rd_there {T : Tb} (h : Snd T) : ∃ T', rdT (tblF T) = some T' ∧ T'.t.list = T.t.list ∧ T'.rev = T.rev := by
  have hrev := h.tok.rev
  have hsz := h.tok.size
  have hA : rdA (tblF T) = (rG (form T.t.size ++ rowsF T.t.list), T.rev) := by
    unfold rdA tblF
    have := rNum_G T.rev (form T.t.size ++ rowsF T.t.list) (by omega)
    rw [← this]
    simp
  have hB : rdB (tblF T) = (rG (rowsF T.t.list), T.t.size) := by
    unfold rdB
    rw [hA]
    exact rNum_G _ _ (by omega)
  obtain ⟨y, i1, i2, i3⟩ := rows_read hrev [] T.t.list .nil ByteArray.empty [] List.Pairwise.nil (fun e he => by cases he) (fun e he => h.row he) h.tok.ok.rise (fun e he => empty_lt (h.key e he)) h.nd (fun e _ hm => by cases hm)
  refine ⟨⟨y.t, T.rev⟩, ?_, by simpa [Tr.list] using i3, rfl⟩
  unfold rdT
  rw [hA]
  simp only
  rw [if_neg (by omega)]
  unfold rd0
  rw [hB]
  simp only
  rw [Tr.list_length, List.append_nil] at i1
  rw [i1]
  simp only
  rw [if_pos]
  rw [i2]
  unfold rDone rG
  simp
theorem tblF_lt (T : Tb) : ∀ b ∈ tblF T, b < 256 := by
  intro b hb
  have hF : ∀ n, ∀ x ∈ form n, x < 256 := form_byte
  unfold tblF at hb
  rcases List.mem_append.1 hb with hb | hb
  · rcases List.mem_append.1 hb with hb | hb
    · exact hF _ b hb
    · exact hF _ b hb
  · unfold rowsF at hb
    obtain ⟨e, -, hb⟩ := List.mem_flatMap.1 hb
    unfold rowF at hb
    simp only [List.mem_append] at hb
    rcases hb with (((hb | hb) | (hb | hb)) | hb)
    · exact hF _ b hb
    · exact byts_lt _ b hb
    · exact hF _ b hb
    · exact byts_lt _ b hb
    · exact hF _ b hb
/-- a beginning of a form is none's -/
theorem rd_cut {T : Tb} (h : Snd T) {i : Nat} (hi : i < (tblF T).length) : rdT ((tblF T).take i) = none := by
  cases hc : rdT ((tblF T).take i) with
  | none => rfl
  | some T2 =>
    exfalso
    obtain ⟨h2, h3⟩ := rd_form (fun b hb => tblF_lt T b (List.mem_of_mem_take hb)) hc
    have h4 := rd_back h2 ((tblF T).drop i) (fun b hb => tblF_lt T b (List.mem_of_mem_drop hb))
    rw [h3, List.take_append_drop] at h4
    obtain ⟨T3, h5, -⟩ := rd_there h
    rw [if_neg, h5] at h4
    · cases h4
    · intro e
      have := congrArg List.length e
      rw [List.length_drop, List.length_nil] at this
      omega
end Go.Proofs.Ytkejpbfbpomjfab.tre
