/- A shard handed on, in plain words. -/
import Derived.Test.YtnpabeodakncfabGRound
import Derived.Test.YtnpabeodakncfabGAct1
import Derived.Test.YtnpabeodakncfabGBegan
namespace Go.Proofs.Ytnpabeodakncfab
open Go.RowKit

/-- One owns it; none of the others has anything to say. -/
structure Sh (row : List Ld) (o : Nat) (e : Int) : Prop where
  n8 : row.length ≤ 8
  lt : o < row.length
  e0 : 0 ≤ e
  eh : e ≤ 1073741823
  own : row.getD o ⟨0, 0, 0⟩ = ⟨1, e, (o : Int)⟩
  oth : ∀ i, i < row.length → i ≠ o → ((row.getD i ⟨0, 0, 0⟩).ph = 0 ∨ (row.getD i ⟨0, 0, 0⟩).ph = 5) ∧ (row.getD i ⟨0, 0, 0⟩).ep ≤ e ∧ vld (i : Int) (row.getD i ⟨0, 0, 0⟩) = true
theorem getD_set (row : List Ld) {k : Nat} (x : Ld) {i : Nat} (hk : k < row.length) : (row.set k x).getD i ⟨0, 0, 0⟩ = if i = k then x else row.getD i ⟨0, 0, 0⟩ := by
  by_cases q : i = k
  · subst q; rw [if_pos rfl, List.getD, List.getElem?_set_self hk]; rfl
  · rw [if_neg q, List.getD, List.getElem?_set_ne (fun z => q z.symm)]; rfl
theorem vld_mk {s ph ep pe : Int} (h : 0 ≤ s ∧ s < 8 ∧ 0 ≤ pe ∧ pe < 8 ∧ 0 ≤ ep ∧ ep ≤ 1073741824 ∧ (ph = 1 ↔ pe = s) ∧ 0 ≤ ph ∧ ph ≤ 5 ∧ (ph = 0 → ep = 0) ∧ (1 < ph → 0 < ep) ∧ (ph = 2 → ep < 1073741824)) : vld s ⟨ph, ep, pe⟩ = true := by
  simp only [vld, decide_eq_true_eq]; exact h
theorem Sh.vo {row : List Ld} {o : Nat} {e : Int} (h : Sh row o e) : vld (o : Int) (row.getD o ⟨0, 0, 0⟩) = true := by
  have h1 := h.n8; have h2 := h.lt; have h3 := h.e0; have h4 := h.eh
  rw [h.own]
  exact vld_mk (by omega)
theorem Sh.begin {n h : Nat} (hn : n ≤ 8) (hh : h < n) : Sh (row0 h n) h 0 := by
  have hg : ∀ i, i < n → (row0 h n).getD i ⟨0, 0, 0⟩ = bgn (i : Int) (h : Int) := fun i hi => by simp [row0, List.getD, List.getElem?_map, List.getElem?_range hi]
  refine ⟨by rw [row0_len]; exact hn, by rw [row0_len]; exact hh, by omega, by omega, ?_, fun i hi hne => ?_⟩
  · rw [hg h hh, bgn, if_pos rfl]
  · rw [row0_len] at hi
    rw [hg i hi, bgn, if_neg (by omega)]
    exact ⟨Or.inl rfl, Int.le_refl _, vld_mk (by omega)⟩
theorem Sh.quiet {row : List Ld} {o : Nat} {e : Int} (h : Sh row o e) (sent : List Ml) : ∀ k, k ≤ row.length → nagL row sent k = sent
  | 0, _ => rfl
  | k + 1, hk => by
    unfold nagL
    have : nag (row.getD k ⟨0, 0, 0⟩) = 0 := by
      by_cases q : k = o
      · subst q; rw [h.own]; simp [nag]
      · have := (h.oth k (by omega) q).1
        unfold nag
        rw [if_neg (by omega), if_neg (by omega), if_neg (by omega)]
    rw [if_pos this]
    exact h.quiet sent k (by omega)
/-- The offer is the one thing to be said. -/
theorem Sh.says {row : List Ld} {o : Nat} {e : Int} (h : Sh row o e) (t : Nat) (sent : List Ml) : ∀ k, k ≤ row.length → nagL (row.set o ⟨2, e + 1, (t : Int)⟩) sent k = if o < k then sent ++ [⟨3, e + 1, (o : Int), (t : Int)⟩] else sent
  | 0, _ => by simp [nagL]
  | k + 1, hk => by
    unfold nagL
    rw [h.says t sent k (by omega), getD_set _ _ h.lt]
    by_cases q : k = o
    · subst q
      rw [if_pos rfl, if_neg (show ¬ k < k by omega), if_pos (show k < k + 1 by omega)]
      simp [nag]
    · rw [if_neg q]
      have : nag (row.getD k ⟨0, 0, 0⟩) = 0 := by
        have := (h.oth k (by omega) q).1
        unfold nag
        rw [if_neg (by omega), if_neg (by omega), if_neg (by omega)]
      rw [if_pos this]
      by_cases z : o < k
      · rw [if_pos z, if_pos (by omega)]
      · rw [if_neg z, if_neg (by omega)]
/-- the rows of a hand -/
def hR (row : List Ld) (o t : Nat) (e : Int) : Nat → List Ld
  | 0 => row.set o ⟨2, e + 1, (t : Int)⟩
  | 1 => (row.set o ⟨2, e + 1, (t : Int)⟩).set t ⟨4, e + 1, (o : Int)⟩
  | 2 => ((row.set o ⟨2, e + 1, (t : Int)⟩).set t ⟨4, e + 1, (o : Int)⟩).set o ⟨3, e + 1, (t : Int)⟩
  | 3 => (((row.set o ⟨2, e + 1, (t : Int)⟩).set t ⟨4, e + 1, (o : Int)⟩).set o ⟨3, e + 1, (t : Int)⟩).set t ⟨1, e + 1, (t : Int)⟩
  | _ => ((((row.set o ⟨2, e + 1, (t : Int)⟩).set t ⟨4, e + 1, (o : Int)⟩).set o ⟨3, e + 1, (t : Int)⟩).set t ⟨1, e + 1, (t : Int)⟩).set o ⟨5, e + 1, (t : Int)⟩
/-- its messages -/
def hT (sent : List Ml) (o t : Nat) (e : Int) : Nat → List Ml
  | 0 => sent ++ [⟨3, e + 1, (o : Int), (t : Int)⟩]
  | 1 => sent ++ [⟨3, e + 1, (o : Int), (t : Int)⟩] ++ [⟨4, e + 1, (t : Int), (o : Int)⟩]
  | 2 => sent ++ [⟨3, e + 1, (o : Int), (t : Int)⟩] ++ [⟨4, e + 1, (t : Int), (o : Int)⟩] ++ [⟨5, e + 1, (o : Int), (t : Int)⟩]
  | _ => sent ++ [⟨3, e + 1, (o : Int), (t : Int)⟩] ++ [⟨4, e + 1, (t : Int), (o : Int)⟩] ++ [⟨5, e + 1, (o : Int), (t : Int)⟩] ++ [⟨6, e + 1, (t : Int), (o : Int)⟩]
theorem hR_len (row : List Ld) (o t : Nat) (e : Int) (s : Nat) : (hR row o t e s).length = row.length := by
  unfold hR; split <;> simp
theorem oth_mk {s n : Int} (h : 0 ≤ n ∧ n < 8 ∧ n ≠ s) : oth s n = true := by simp only [oth, decide_eq_true_eq]; exact h
theorem hand_hears {row : List Ld} {o : Nat} {e : Int} (h : Sh row o e) {t : Nat} (ht : t < row.length) (hne : t ≠ o) (he : e ≤ 1073741822) (sent : List Ml) : ∀ s, s < 4 → HearS (hR row o t e s) (hR row o t e (s + 1)) (hT sent o t e s) (hT sent o t e (s + 1)) (sent.length + s) := by
  have h8 := h.n8
  have ho := h.lt
  have e0 := h.e0
  intro s hs
  have hcs : s = 0 ∨ s = 1 ∨ s = 2 ∨ s = 3 := by omega
  rcases hcs with rfl | rfl | rfl | rfl
  · obtain ⟨g1, g2, g3⟩ := h.oth t ht hne
    have hg : (hR row o t e 0).getD t ⟨0, 0, 0⟩ = row.getD t ⟨0, 0, 0⟩ := by rw [hR, getD_set _ _ ho, if_neg hne]
    have hh : her (t : Int) (row.getD t ⟨0, 0, 0⟩) 3 (e + 1) (o : Int) = (4, 4) := by
      unfold her
      rw [if_neg (by rw [g3, oth_mk (by omega)]; simp), if_pos rfl]
      unfold off
      rw [if_neg (by omega), if_pos (by omega)]
    refine ⟨3, e + 1, (o : Int), t, 4, 4, ?_, by rw [hR_len]; exact ht, by rw [hg, hh]; rfl, ?_, ?_⟩
    · simp [hT]
    · unfold rowH
      rw [if_neg (by decide), hg]
      have hz : rfs (t : Int) (row.getD t ⟨0, 0, 0⟩) 4 (e + 1) (o : Int) = 0 := by
        have := rfs_ans (s := (t : Int)) (l := row.getD t ⟨0, 0, 0⟩) (k := 3) (e := e + 1) (f := (o : Int)) (full := false) (by rw [hh]; decide)
        rw [hh] at this
        exact this
      rw [stp, if_pos hz]
      rfl
    · unfold sentH
      rw [if_neg (by decide)]
      rfl
  · have hg : (hR row o t e 1).getD o ⟨0, 0, 0⟩ = ⟨2, e + 1, (t : Int)⟩ := by
      rw [hR, getD_set _ _ (by simpa using ht), if_neg (fun z => hne z.symm), getD_set _ _ ho, if_pos rfl]
    have hv : vld (o : Int) ⟨2, e + 1, (t : Int)⟩ = true := vld_mk (by omega)
    have hh : her (o : Int) ⟨2, e + 1, (t : Int)⟩ 4 (e + 1) (t : Int) = (5, 5) := by
      unfold her
      rw [if_neg (by rw [hv, oth_mk (by omega)]; simp), if_neg (by decide), if_pos rfl]
      simp [hav, met]
    refine ⟨4, e + 1, (t : Int), o, 5, 5, ?_, by rw [hR_len]; exact ho, by rw [hg, hh]; rfl, ?_, ?_⟩
    · simp [hT]
    · unfold rowH
      rw [if_neg (by decide), hg]
      have hz : rfs (o : Int) ⟨2, e + 1, (t : Int)⟩ 5 (e + 1) (t : Int) = 0 := by
        have := rfs_ans (s := (o : Int)) (l := ⟨2, e + 1, (t : Int)⟩) (k := 4) (e := e + 1) (f := (t : Int)) (full := false) (by rw [hh]; decide)
        rw [hh] at this
        exact this
      rw [stp, if_pos hz]
      rfl
    · unfold sentH
      rw [if_neg (by decide)]
      rfl
  · have hg : (hR row o t e 2).getD t ⟨0, 0, 0⟩ = ⟨4, e + 1, (o : Int)⟩ := by
      rw [hR, getD_set _ _ (by simpa using ho), if_neg hne, getD_set _ _ (by simpa using ht), if_pos rfl]
    have hv : vld (t : Int) ⟨4, e + 1, (o : Int)⟩ = true := vld_mk (by omega)
    have hh : her (t : Int) ⟨4, e + 1, (o : Int)⟩ 5 (e + 1) (o : Int) = (6, 6) := by
      unfold her
      rw [if_neg (by rw [hv, oth_mk (by omega)]; simp), if_neg (by decide), if_neg (by decide), if_pos rfl]
      simp [cmt, met]
    refine ⟨5, e + 1, (o : Int), t, 6, 6, ?_, by rw [hR_len]; exact ht, by rw [hg, hh]; rfl, ?_, ?_⟩
    · simp [hT]
    · unfold rowH
      rw [if_neg (by decide), hg]
      have hz : rfs (t : Int) ⟨4, e + 1, (o : Int)⟩ 6 (e + 1) (o : Int) = 0 := by
        have := rfs_ans (s := (t : Int)) (l := ⟨4, e + 1, (o : Int)⟩) (k := 5) (e := e + 1) (f := (o : Int)) (full := false) (by rw [hh]; decide)
        rw [hh] at this
        exact this
      rw [stp, if_pos hz]
      rfl
    · unfold sentH
      rw [if_neg (by decide)]
      rfl
  · have hg : (hR row o t e 3).getD o ⟨0, 0, 0⟩ = ⟨3, e + 1, (t : Int)⟩ := by
      rw [hR, getD_set _ _ (by simpa using ht), if_neg (fun z => hne z.symm), getD_set _ _ (by simpa using ho), if_pos rfl]
    have hv : vld (o : Int) ⟨3, e + 1, (t : Int)⟩ = true := vld_mk (by omega)
    have hh : her (o : Int) ⟨3, e + 1, (t : Int)⟩ 6 (e + 1) (t : Int) = (7, 0) := by
      unfold her
      rw [if_neg (by rw [hv, oth_mk (by omega)]; simp), if_neg (by decide), if_neg (by decide), if_neg (by decide), if_pos rfl]
      simp [eof, met]
    refine ⟨6, e + 1, (t : Int), o, 7, 0, ?_, by rw [hR_len]; exact ho, by rw [hg, hh]; rfl, ?_, ?_⟩
    · simp [hT]
    · unfold rowH
      rw [if_neg (by decide), hg]
      have hz : rfs (o : Int) ⟨3, e + 1, (t : Int)⟩ 7 (e + 1) (t : Int) = 0 := by
        have := rfs_ans (s := (o : Int)) (l := ⟨3, e + 1, (t : Int)⟩) (k := 6) (e := e + 1) (f := (t : Int)) (full := false) (by rw [hh]; decide)
        rw [hh] at this
        exact this
      rw [stp, if_pos hz]
      rfl
    · unfold sentH
      rw [if_pos rfl]
      rfl
theorem Sh.handed {row : List Ld} {o : Nat} {e : Int} (h : Sh row o e) {t : Nat} (ht : t < row.length) (hne : t ≠ o) (he : e ≤ 1073741822) : Sh (hR row o t e 4) t (e + 1) := by
  have h8 := h.n8
  have ho := h.lt
  have e0 := h.e0
  have hg : ∀ i, (hR row o t e 4).getD i ⟨0, 0, 0⟩ = if i = o then ⟨5, e + 1, (t : Int)⟩ else if i = t then ⟨1, e + 1, (t : Int)⟩ else row.getD i ⟨0, 0, 0⟩ := by
    intro i
    have h4 : hR row o t e 4 = ((((row.set o ⟨2, e + 1, (t : Int)⟩).set t ⟨4, e + 1, (o : Int)⟩).set o ⟨3, e + 1, (t : Int)⟩).set t ⟨1, e + 1, (t : Int)⟩).set o ⟨5, e + 1, (t : Int)⟩ := rfl
    rw [h4, getD_set _ _ (by simpa using ho), getD_set _ _ (by simpa using ht), getD_set _ _ (by simpa using ho), getD_set _ _ (by simpa using ht), getD_set _ _ ho]
    by_cases a : i = o
    · rw [if_pos a, if_pos a]
    · simp only [if_neg a]
      by_cases c : i = t
      · simp only [if_pos c]
      · simp only [if_neg c]
  refine ⟨by rw [hR_len]; exact h8, by rw [hR_len]; exact ht, by omega, by omega, ?_, fun i hi hit => ?_⟩
  · rw [hg, if_neg hne, if_pos rfl]
  · rw [hR_len] at hi
    rw [hg]
    by_cases a : i = o
    · rw [if_pos a]
      refine ⟨Or.inr rfl, by simp, ?_⟩
      rw [a]
      exact vld_mk (by omega)
    · rw [if_neg a, if_neg hit]
      obtain ⟨q1, q2, q3⟩ := h.oth i hi a
      exact ⟨q1, by omega, q3⟩
end Go.Proofs.Ytnpabeodakncfab
