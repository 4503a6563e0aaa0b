/- The rows are the keys' last writes: plain. -/
import Derived.Test.YtkejpbfbpomjfaaCPlcPZ
namespace Go.Proofs.Ytkejpbfbpomjfaa.tre
open Go.RowKit

/-- a row of the law's: its key, its value, its revision (0: gone), and where its lists lie -/
structure Me where
  key : List Nat
  val : List Nat
  rev : Int
  ks : Value
  vs : Value
def Byt (l : List Nat) : Prop := ∀ x ∈ l, x < 256
structure MI (T : Tb) (R : List Me) : Prop where
  tok : Tok T
  dis : ∀ (i j : Nat) (r r' : Me), R[i]? = some r → R[j]? = some r' → r.key = r'.key → i = j
  fin : ∀ r ∈ R, T.t.find (strB r.key) = if r.rev = 0 then none else some (strB r.key, strB r.val, r.rev)
  all : ∀ K e, T.t.find K = some e → ∃ r ∈ R, strB r.key = K
  bk : ∀ r ∈ R, Byt r.key
  bv : ∀ r ∈ R, Byt r.val
theorem MI.zero : MI ⟨.nil, 0⟩ [] := ⟨Tok.new, (fun i j r r' h => by simp at h), (fun r h => by cases h), (fun K e h => by cases h), (fun r h => by cases h), (fun r h => by cases h)⟩
/-- what is refused, what reads, changes nothing -/
theorem MI.same {T : Tb} {R : List Me} (h : MI T R) {o : Opm} (hw : wrs o = false) : MI (nxt T o) R := by rw [read_nxt hw]; exact h
theorem MI.more {T : Tb} {R : List Me} (h : MI T R) {r : Me} (hk : Byt r.key) (hv : Byt r.val) (h0 : r.rev = 0) (hn : ∀ x ∈ R, x.key ≠ r.key) : MI T (R ++ [r]) := by
  have hnone : T.t.find (strB r.key) = none := by
    cases hf : T.t.find (strB r.key) with
    | none => rfl
    | some e =>
      obtain ⟨x, hx, he⟩ := h.all _ _ hf
      exact absurd (strB_inj (h.bk x hx) hk he) (hn x hx)
  have split : ∀ (i : Nat) (y : Me), (R ++ [r])[i]? = some y → R[i]? = some y ∨ (i = R.length ∧ y = r) := fun i y hy => by
    rcases Nat.lt_or_ge i R.length with hl | hl
    · left; rwa [List.getElem?_append_left hl] at hy
    · right
      rw [List.getElem?_append_right hl] at hy
      have hi : i - R.length = 0 := by
        cases hq : i - R.length with
        | zero => rfl
        | succ m => rw [hq] at hy; simp at hy
      rw [hi] at hy
      simp at hy
      exact ⟨by omega, hy.symm⟩
  refine ⟨h.tok, fun i j x y hx hy he => ?_, fun x hx => ?_, fun K e he => ?_, fun x hx => ?_, fun x hx => ?_⟩
  · rcases split i x hx with h1 | ⟨h1, rfl⟩ <;> rcases split j y hy with h2 | ⟨h2, rfl⟩
    · exact h.dis i j x y h1 h2 he
    · exact absurd he (hn x (List.mem_of_getElem? h1))
    · exact absurd he.symm (hn y (List.mem_of_getElem? h2))
    · omega
  · rcases List.mem_append.1 hx with hx | hx
    · exact h.fin x hx
    · simp at hx; subst hx; rw [hnone, if_pos h0]
  · obtain ⟨x, hx, hk⟩ := h.all K e he
    exact ⟨x, List.mem_append_left _ hx, hk⟩
  · rcases List.mem_append.1 hx with hx | hx
    · exact h.bk x hx
    · simp at hx; subst hx; exact hk
  · rcases List.mem_append.1 hx with hx | hx
    · exact h.bv x hx
    · simp at hx; subst hx; exact hv
theorem MI.pos {T : Tb} {R : List Me} (h : MI T R) {r : Me} (hr : r ∈ R) : r.rev = 0 ∨ 1 ≤ r.rev := by
  by_cases h0 : r.rev = 0
  · exact Or.inl h0
  · have hf := h.fin r hr
    rw [if_neg h0] at hf
    exact Or.inr (h.tok.up _ (mem_find h.tok.ok.rise |>.1 hf).1).1
theorem fnd_key {T : Tb} {o : Opm} (hw : wrs o = true) : fnd T o = T.t.find (strB o.key) := by
  unfold fnd
  have : o.kind ≠ 5 := by unfold wrs at hw; simp at hw; omega
  rw [if_neg this]
/-- what is answered of a write -/
theorem MI.told {T : Tb} {R : List Me} (h : MI T R) {o : Opm} (hw : wrs o = true) {r : Me} (hr : r ∈ R) (hk : r.key = o.key) :
    arev T o = r.rev ∧ aval T o = (if r.rev = 0 then [] else r.val) ∧ akey T o = (if r.rev = 0 then [] else r.key) ∧ dn T o = (if o.kind = 2 then true else if o.kind = 4 then (r.rev == o.rev) else decide (r.rev ≠ 0)) := by
  have hf := h.fin r hr
  rw [hk] at hf
  have hfd := fnd_key (T := T) hw
  unfold arev aval akey dn dne
  rw [hfd]
  by_cases h0 : r.rev = 0
  · rw [if_pos h0] at hf
    rw [hf]
    simp [h0, fv]
  · rw [if_neg h0] at hf
    rw [hf]
    simp only [Option.isSome_some, if_true, fv, fk, Option.getD_some, if_neg h0, byts_strB (h.bv r hr)]
    rw [hk, byts_strB (hk ▸ h.bk r hr)]
    simp [h0]
/-- a write that is answered: the row that stands for its key -/
def upd (r : Me) (o : Opm) (d : Bool) (rv : Nat) (ks vs : Value) : Me := if o.kind = 3 then { r with rev := 0 } else if d then ⟨o.key, o.val, (rv : Int), ks, vs⟩ else r
theorem upd_key {r : Me} {o : Opm} (hk : r.key = o.key) (d : Bool) (rv : Nat) (ks vs : Value) : (upd r o d rv ks vs).key = o.key := by
  unfold upd
  split
  · exact hk
  · split
    · rfl
    · exact hk
theorem MI.write {T : Tb} {R : List Me} (h : MI T R) {o : Opm} (hr : rfs T o = 0) (hw : wrs o = true) (bk : Byt o.key) (bv : Byt o.val) {i : Nat} {r : Me} (hi : R[i]? = some r) (hk : r.key = o.key) (ks vs : Value) : MI (nxt T o) (R.set i (upd r o (dn T o) (rvn T o) ks vs)) := by
  have hrm := List.mem_of_getElem? hi
  have hil : i < R.length := (List.getElem?_eq_some_iff.1 hi).1
  have hku := upd_key hk (dn T o) (rvn T o) ks vs
  obtain ⟨-, -, -, hdn⟩ := h.told hw hrm hk
  have hkd : o.kind = 2 ∨ o.kind = 3 ∨ o.kind = 4 := by
    have := rgt_wrs (rfs_yes hr)
    rw [hw] at this
    simpa using this
  obtain ⟨u, hu⟩ : ∃ u, upd r o (dn T o) (rvn T o) ks vs = u := ⟨_, rfl⟩
  have hget : ∀ (j : Nat) (y : Me), (R.set i u)[j]? = some y → (j = i ∧ y = u) ∨ (j ≠ i ∧ R[j]? = some y) := fun j y hy => by
    rw [List.getElem?_set] at hy
    by_cases hj : i = j
    · subst hj
      rw [if_pos rfl, if_pos hil] at hy
      cases hy
      exact Or.inl ⟨rfl, rfl⟩
    · rw [if_neg hj] at hy
      exact Or.inr ⟨fun e => hj e.symm, hy⟩
  have hmem : ∀ y ∈ R.set i u, y = u ∨ (y ∈ R ∧ y.key ≠ o.key) := fun y hy => by
    obtain ⟨j, hj⟩ := List.mem_iff_getElem?.1 hy
    rcases hget j y hj with ⟨-, rfl⟩ | ⟨hne, hj⟩
    · exact Or.inl rfl
    · refine Or.inr ⟨List.mem_of_getElem? hj, fun he => hne (h.dis j i y r hj hi (he.trans hk.symm))⟩
  have hum : u ∈ R.set i u := List.mem_iff_getElem?.2 ⟨i, by rw [List.getElem?_set, if_pos rfl, if_pos hil]⟩
  have hfn := find_nxt h.tok hr
  rw [hu] at hku ⊢
  have hub : Byt u.key ∧ Byt u.val := by
    rw [hku]
    refine ⟨bk, ?_⟩
    rw [← hu]
    unfold upd
    split
    · exact h.bv r hrm
    · split
      · exact bv
      · exact h.bv r hrm
  have hrev1 : 1 ≤ rvn T o := by rw [write_rvn hw]; omega
  have huf : (nxt T o).t.find (strB u.key) = if u.rev = 0 then none else some (strB u.key, strB u.val, u.rev) := by
    rw [hku, hfn]
    have hfr := h.fin r hrm
    rw [hk] at hfr
    by_cases hd : dn T o = true
    · rw [if_pos ⟨hkd, rfl, hd⟩]
      rw [← hu]
      unfold upd
      by_cases h3 : o.kind = 3
      · rw [if_pos h3, if_pos h3]; simp
      · rw [if_neg h3, if_neg h3, if_pos hd]
        simp only
        rw [if_neg (by omega)]
    · rw [if_neg (fun z => hd z.2.2), hfr]
      rw [← hu]
      unfold upd
      by_cases h3 : o.kind = 3
      · rw [if_pos h3]
        rw [if_neg (by omega), if_neg (by omega)] at hdn
        have h0 : r.rev = 0 := by
          rw [hdn] at hd
          simpa using hd
        rw [if_pos h0]; simp
      · have hd' : dn T o = false := by simpa using hd
        rw [if_neg h3, hd']
        simp
  refine ⟨h.tok.nxt hr, fun a b x y hx hy he => ?_, fun y hy => ?_, fun K e he => ?_, fun y hy => ?_, fun y hy => ?_⟩
  · rcases hget a x hx with ⟨h1, rfl⟩ | ⟨h1, h1'⟩ <;> rcases hget b y hy with ⟨h2, rfl⟩ | ⟨h2, h2'⟩
    · omega
    · exact absurd (h.dis b i y r h2' hi ((he.symm.trans hku).trans hk.symm)) h2
    · exact absurd (h.dis a i x r h1' hi ((he.trans hku).trans hk.symm)) h1
    · exact h.dis a b x y h1' h2' he
  · rcases hmem y hy with rfl | ⟨hy', hne⟩
    · exact huf
    · rw [hfn, if_neg (fun z => hne (strB_inj (h.bk y hy') bk z.2.1.symm))]
      exact h.fin y hy'
  · by_cases hK : strB o.key = K
    · exact ⟨u, hum, by rw [hku]; exact hK⟩
    · rw [hfn, if_neg (fun z => hK z.2.1)] at he
      obtain ⟨x, hx, hxk⟩ := h.all K e he
      obtain ⟨j, hj⟩ := List.mem_iff_getElem?.1 hx
      refine ⟨x, List.mem_iff_getElem?.2 ⟨j, ?_⟩, hxk⟩
      rw [List.getElem?_set, if_neg, hj]
      rintro rfl
      rw [hi] at hj
      cases hj
      exact hK (by rw [← hk]; exact hxk)
  · rcases hmem y hy with rfl | ⟨hy', -⟩
    · exact hub.1
    · exact h.bk y hy'
  · rcases hmem y hy with rfl | ⟨hy', -⟩
    · exact hub.2
    · exact h.bv y hy'
/-- how many there are -/
theorem nodup_le {α : Type} [BEq α] [LawfulBEq α] : ∀ {l m : List α}, l.Nodup → (∀ x ∈ l, x ∈ m) → l.length ≤ m.length
  | [], m, _, _ => Nat.zero_le _
  | a :: l, m, hn, hs => by
    obtain ⟨h1, h2⟩ := List.nodup_cons.1 hn
    have ha := hs a (List.mem_cons_self ..)
    have := nodup_le (l := l) (m := m.erase a) h2 (fun x hx => (List.mem_erase_of_ne (a := x) (b := a) (fun e => h1 (by rw [← e]; exact hx))).2 (hs x (List.mem_cons_of_mem _ hx)))
    rw [List.length_erase_of_mem ha] at this
    have hp : 0 < m.length := List.length_pos_of_mem ha
    simp only [List.length_cons]
    omega
def live (R : List Me) : List Me := R.filter fun r => decide (r.rev ≠ 0)
theorem MI.count {T : Tb} {R : List Me} (h : MI T R) : (live R).length = T.t.list.length := by
  have hL : (T.t.list.map fun e => e.1.toList).Nodup := by
    refine List.pairwise_map.2 (List.Pairwise.imp ?_ h.tok.ok.rise)
    intro a b hab he
    have : KOrd.lt a.1 b.1 = true := hab
    rw [toList_inj he, KOrd.irr] at this
    cases this
  have hdn : R.Pairwise fun a b => a.key ≠ b.key := by
    rw [List.pairwise_iff_getElem]
    intro i j hi hj hij he
    have := h.dis i j _ _ (List.getElem?_eq_getElem hi) (List.getElem?_eq_getElem hj) he
    omega
  have hR : ((live R).map fun r => (strB r.key).toList).Nodup := by
    have h1 : (live R).Pairwise fun a b => a.key ≠ b.key := hdn.sublist List.filter_sublist
    refine List.pairwise_map.2 (List.Pairwise.imp_of_mem ?_ h1)
    intro a b ha hb hab he
    exact hab (strB_inj (h.bk a (List.mem_filter.1 ha).1) (h.bk b (List.mem_filter.1 hb).1) (toList_inj he))
  have h1 := nodup_le hR (m := T.t.list.map fun e => e.1.toList) (fun x hx => by
    obtain ⟨r, hr, rfl⟩ := List.mem_map.1 hx
    obtain ⟨hm, h0⟩ := List.mem_filter.1 hr
    have hf := h.fin r hm
    rw [if_neg (by simpa using h0)] at hf
    exact List.mem_map.2 ⟨_, (mem_find h.tok.ok.rise |>.1 hf).1, rfl⟩)
  have h2 := nodup_le hL (m := (live R).map fun r => (strB r.key).toList) (fun x hx => by
    obtain ⟨e, he, rfl⟩ := List.mem_map.1 hx
    have hf := mem_find h.tok.ok.rise |>.2 ⟨he, rfl⟩
    obtain ⟨r, hr, hk⟩ := h.all _ _ hf
    have hfr := h.fin r hr
    rw [hk, hf] at hfr
    have h0 : ¬ r.rev = 0 := fun e0 => by rw [if_pos e0] at hfr; cases hfr
    exact List.mem_map.2 ⟨r, List.mem_filter.2 ⟨hr, by simpa using h0⟩, by rw [hk]⟩)
  rw [List.length_map, List.length_map] at h1 h2
  omega
end Go.Proofs.Ytkejpbfbpomjfaa.tre
