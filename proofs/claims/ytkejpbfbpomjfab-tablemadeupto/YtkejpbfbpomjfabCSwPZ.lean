/- What a swap finds: plain. -/
import Derived.Test.YtkejpbfbpomjfabCAwkZ
namespace Go.Proofs.Ytkejpbfbpomjfab.tre
open Go.RowKit

theorem mem_find {t : TI} (h : Rise t.list) {K : ByteArray} {e : ByteArray × VT} : t.find K = some e ↔ (e ∈ t.list ∧ e.1 = K) := by
  have hlo : ∀ x, x ∈ lowL K t.list → x.1 ≠ K := fun x hx he => by have := mem_low hx; rw [he, klt_irr] at this; cases this
  have hhi : ∀ x, x ∈ highL K t.list → x.1 ≠ K := fun x hx he => by have := mem_high hx; rw [he, klt_irr] at this; cases this
  rcases row_cases h K with ⟨x, h1, h2⟩ | ⟨h1, h2⟩
  · rw [h1]
    constructor
    · intro he; cases he; exact ⟨by rw [h2]; simp, rfl⟩
    · rintro ⟨hm, hk⟩
      rw [h2] at hm
      rcases List.mem_append.1 hm with hm | hm
      · exact absurd hk (hlo e hm)
      · rcases List.mem_cons.1 hm with rfl | hm
        · rfl
        · exact absurd hk (hhi e hm)
  · rw [h1]
    constructor
    · intro he; cases he
    · rintro ⟨hm, hk⟩
      rw [h2] at hm
      rcases List.mem_append.1 hm with hm | hm
      · exact absurd hk (hlo e hm)
      · exact absurd hk (hhi e hm)
theorem opt_ext {α : Type} {a b : Option α} (h : ∀ e, a = some e ↔ b = some e) : a = b := by
  cases a with
  | none =>
    cases b with
    | none => rfl
    | some y => exact ((h y).2 rfl)
  | some x => exact ((h x).1 rfl).symm
theorem find_set {t : TI} (h : Rok t) {k : ByteArray} {x : VT} (hx : Rw (k, x)) (hz : t.size < 1099511627776) (K : ByteArray) : (setT t k x).find K = if K = k then some (k, x) else t.find K := by
  have hs := (set_rok h hx hz).1.rise
  apply opt_ext
  intro e
  rw [mem_find hs, set_list h.rise]
  by_cases hK : K = k
  · rw [if_pos hK]
    subst hK
    constructor
    · rintro ⟨hm, hk⟩
      rcases List.mem_append.1 hm with hm | hm
      · exfalso; have := mem_low hm; rw [hk, klt_irr] at this; cases this
      · rcases List.mem_cons.1 hm with rfl | hm
        · rfl
        · exfalso; have := mem_high hm; rw [hk, klt_irr] at this; cases this
    · intro he; cases he; exact ⟨by simp, rfl⟩
  · rw [if_neg hK, mem_find h.rise]
    constructor
    · rintro ⟨hm, hk⟩
      rcases List.mem_append.1 hm with hm | hm
      · exact ⟨(List.mem_filter.1 hm).1, hk⟩
      · rcases List.mem_cons.1 hm with rfl | hm
        · exact absurd hk.symm hK
        · exact ⟨(List.mem_filter.1 hm).1, hk⟩
    · rintro ⟨hm, hk⟩
      refine ⟨?_, hk⟩
      cases h1 : klt e.1 k with
      | true => exact List.mem_append_left _ (List.mem_filter.2 ⟨hm, h1⟩)
      | false =>
        cases h2 : klt k e.1 with
        | true => exact List.mem_append_right _ (List.mem_cons_of_mem _ (List.mem_filter.2 ⟨hm, h2⟩))
        | false => exact absurd (hk ▸ klt_tri h1 h2) hK
theorem find_wo {t : TI} (h : Rok t) (k K : ByteArray) : (t.without k).1.find K = if K = k then none else t.find K := by
  have hs := (h.without k).rise
  apply opt_ext
  intro e
  rw [mem_find hs, (Tr.without_list t k h.rise).1]
  by_cases hK : K = k
  · rw [if_pos hK]
    subst hK
    constructor
    · rintro ⟨hm, hk⟩
      rcases List.mem_append.1 hm with hm | hm
      · exfalso; have := mem_low hm; rw [hk, klt_irr] at this; cases this
      · exfalso; have := mem_high hm; rw [hk, klt_irr] at this; cases this
    · intro he; cases he
  · rw [if_neg hK, mem_find h.rise]
    constructor
    · rintro ⟨hm, hk⟩
      rcases List.mem_append.1 hm with hm | hm
      · exact ⟨(List.mem_filter.1 hm).1, hk⟩
      · exact ⟨(List.mem_filter.1 hm).1, hk⟩
    · rintro ⟨hm, hk⟩
      refine ⟨?_, hk⟩
      cases h1 : klt e.1 k with
      | true => exact List.mem_append_left _ (List.mem_filter.2 ⟨hm, h1⟩)
      | false =>
        cases h2 : klt k e.1 with
        | true => exact List.mem_append_right _ (List.mem_filter.2 ⟨hm, h2⟩)
        | false => exact absurd (hk ▸ klt_tri h1 h2) hK
/-- what a key's row is behind an op -/
theorem find_nxt {T : Tb} (h : Tok T) {o : Opm} (hr : rfs T o = 0) (K : ByteArray) :
    (nxt T o).t.find K = if (o.kind = 2 ∨ o.kind = 3 ∨ o.kind = 4) ∧ strB o.key = K ∧ dn T o = true then (if o.kind = 3 then none else some (K, strB o.val, (rvn T o : Int))) else T.t.find K := by
  obtain ⟨-, hlt, hk, hv, hk2⟩ := right_len hr
  unfold nxt
  simp only
  by_cases hd : dn T o = true
  · rw [if_pos hd]
    unfold chg
    by_cases h24 : o.kind = 2 ∨ o.kind = 4
    · rw [if_pos h24]
      have hw : wrs o = true := by unfold wrs; simp; omega
      have hl := hlt hw h.rev
      have he : rvn T o = T.rev + 1 := by unfold rvn; rw [if_pos hw]
      have hx : Rw (strB o.key, strB o.val, (rvn T o : Int)) := ⟨by rw [strB_size]; exact hk2 h24, by rw [strB_size]; exact hv, by simp only; omega, by simp only; omega⟩
      rw [find_set h.ok hx (by have := h.size; omega)]
      have h3 : o.kind ≠ 3 := by omega
      by_cases hK : K = strB o.key
      · rw [if_pos hK, if_pos ⟨by omega, hK.symm, hd⟩, if_neg h3, hK]
      · rw [if_neg hK, if_neg (fun z => hK z.2.1.symm)]
    · rw [if_neg h24]
      by_cases h3 : o.kind = 3
      · rw [if_pos h3, find_wo h.ok]
        by_cases hK : K = strB o.key
        · rw [if_pos hK, if_pos ⟨by omega, hK.symm, hd⟩, if_pos h3]
        · rw [if_neg hK, if_neg (fun z => hK z.2.1.symm)]
      · rw [if_neg h3, if_neg (fun z => by omega)]
  · rw [if_neg hd, if_neg (fun z => hd z.2.2)]
/-- where the law stands between the two: what was told of the key's row, and whether a write has changed it -/
structure Btw (K : ByteArray) (fa : Option (ByteArray × VT)) (R : Nat) (T : Tb) (ch : Bool) : Prop where
  ok : Tok T
  up : R ≤ T.rev
  no : ch = false → T.t.find K = fa
  yes : ch = true → ∀ e, T.t.find K = some e → (R : Int) < e.2.2
theorem Btw.skip {K : ByteArray} {fa : Option (ByteArray × VT)} {R : Nat} {T : Tb} {ch : Bool} (h : Btw K fa R T ch) {o : Opm} (hr : rfs T o = 0) (hn : ¬ ((o.kind = 2 ∨ o.kind = 3 ∨ o.kind = 4) ∧ strB o.key = K ∧ dn T o = true)) : Btw K fa R (nxt T o) ch := by
  have hf := find_nxt h.ok hr K
  rw [if_neg hn] at hf
  exact ⟨h.ok.nxt hr, Nat.le_trans h.up rvn_le, fun hc => by rw [hf]; exact h.no hc, fun hc e he => h.yes hc e (by rw [← hf]; exact he)⟩
theorem Btw.step {K : ByteArray} {fa : Option (ByteArray × VT)} {R : Nat} {T : Tb} {ch : Bool} (h : Btw K fa R T ch) {o : Opm} (hr : rfs T o = 0) (hw : o.kind = 2 ∨ o.kind = 3 ∨ o.kind = 4) (hK : strB o.key = K) : Btw K fa R (nxt T o) (ch || dn T o) := by
  cases hd : dn T o with
  | false => rw [Bool.or_false]; exact h.skip hr (fun z => by rw [hd] at z; exact absurd z.2.2 (by simp))
  | true =>
    rw [Bool.or_true]
    have hf := find_nxt h.ok hr K
    rw [if_pos ⟨hw, hK, hd⟩] at hf
    have he : rvn T o = T.rev + 1 := by unfold rvn wrs; rw [if_pos (by simp; omega)]
    refine ⟨h.ok.nxt hr, Nat.le_trans h.up rvn_le, (fun hc => by cases hc), fun _ e hfe => ?_⟩
    rw [hf] at hfe
    split at hfe
    · cases hfe
    · cases hfe
      have := h.up
      simp only
      omega
theorem stp_rev (T : Tb) (o : Opm) : (stp T o).rev ≤ T.rev + 1 := by
  unfold stp
  split
  · show rvn T o ≤ _; unfold rvn; split <;> omega
  · omega
theorem fold_rev (os : List Opm) : ∀ T : Tb, (os.foldl stp T).rev ≤ T.rev + os.length := by
  induction os with
  | nil => intro T; simp
  | cons o os ih => intro T; have h1 := ih (stp T o); have h2 := stp_rev T o; simp only [List.foldl_cons, List.length_cons]; omega
theorem fold_tok (os : List Opm) : ∀ T : Tb, Tok T → Tok (os.foldl stp T) := by
  induction os with
  | nil => exact fun T h => h
  | cons o os ih => exact fun T h => ih _ (h.stp o)
/-- a Get changes nothing -/
theorem get_nxt (T : Tb) (key : List Nat) : nxt T ⟨1, key, [], 0⟩ = T := by
  unfold nxt chg rvn wrs
  simp
theorem get_fnd (T : Tb) (key : List Nat) : fnd T ⟨1, key, [], 0⟩ = T.t.find (strB key) := by unfold fnd; simp
theorem get_dn (T : Tb) (key : List Nat) : dn T ⟨1, key, [], 0⟩ = (T.t.find (strB key)).isSome := by unfold dn dne; rw [get_fnd]; simp
theorem get_rvn (T : Tb) (key : List Nat) : rvn T ⟨1, key, [], 0⟩ = T.rev := by unfold rvn wrs; simp
theorem get_rfs (T : Tb) (key : List Nat) : rfs T ⟨1, key, [], 0⟩ = if 1 ≤ key.length ∧ key.length ≤ 64 then 0 else 131 := by
  unfold rfs rgt wrs
  by_cases h : 1 ≤ key.length ∧ key.length ≤ 64
  · rw [if_pos h]; simp [h.1, h.2]
  · rw [if_neg h]; simp only [true_or, if_true]
    rw [if_pos]
    simp only [decide_eq_false_iff_not]
    intro z; exact h ⟨z.1, z.2.1⟩
theorem swap_fnd (T : Tb) (key val : List Nat) (r : Int) : fnd T ⟨4, key, val, r⟩ = T.t.find (strB key) := by unfold fnd; simp
theorem swap_dn (T : Tb) (key val : List Nat) (r : Int) : dn T ⟨4, key, val, r⟩ = ((fv (T.t.find (strB key))).2 == r) := by unfold dn dne; rw [swap_fnd]; simp
theorem swap_rvn (T : Tb) (key val : List Nat) (r : Int) : rvn T ⟨4, key, val, r⟩ = T.rev + 1 := by unfold rvn wrs; simp
theorem swap_rfs {T : Tb} {key val : List Nat} {r : Int} (hk : 1 ≤ key.length ∧ key.length ≤ 64) (h0 : 0 ≤ r ∧ r ≤ 1099511627776) (hl : T.rev < 1099511627776) : rfs T ⟨4, key, val, r⟩ = if val.length ≤ 256 then 0 else 131 := by
  unfold rfs rgt wrs
  by_cases h : val.length ≤ 256
  · rw [if_pos h]
    simp [hk.1, hk.2, h, h0.1, h0.2]
    omega
  · rw [if_neg h]
    rw [if_pos]
    simp
    omega
end Go.Proofs.Ytkejpbfbpomjfab.tre
