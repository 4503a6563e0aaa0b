/- What the acts make keeps the invariant. -/
import Derived.Test.YtnpabeodakncfaaGInv2
import Derived.Test.YtnpabeodakncfaaGHearW
import Derived.Test.YtnpabeodakncfaaGAct1
namespace Go.Proofs.Ytnpabeodakncfaa

theorem Inv.congr {n : Int} {f g : Int → Ld} {M : Ml → Prop} {S T : Int → Int} {h : Int} (H : Inv n f M S T h) (hf : ∀ i, 0 ≤ i → i < n → g i = f i) : Inv n g M S T h := by
  obtain ⟨n1, h0, v1, v2, v3, v4, v5, v6, v7, hc, mx, un, p2, p4, c3, c4, ch, i4, i5, ms, mt, mo, me, m3, n3, m4, n4, m5, n5, m6, n6, m7⟩ := H
  constructor
  · clear v1 v2 v3 v4 v5 v6 v7 hc mx un p2 p4 c3 c4 ch i4 i5 ms mt mo me m3 n3 m4 n4 m5 n5 m6 n6 m7; grind
  · clear n1 v1 v2 v3 v4 v5 v6 v7 hc mx un p2 p4 c3 c4 ch i4 i5 ms mt mo me m3 n3 m4 n4 m5 n5 m6 n6 m7; grind
  · clear n1 v2 v3 v4 v5 v6 v7 hc mx un p2 p4 c3 c4 ch i4 i5 ms mt mo me m3 n3 m4 n4 m5 n5 m6 n6 m7; grind
  · clear n1 v1 v3 v4 v5 v6 v7 hc mx un p2 p4 c3 c4 ch i4 i5 ms mt mo me m3 n3 m4 n4 m5 n5 m6 n6 m7; grind
  · clear n1 v1 v2 v4 v5 v6 v7 hc mx un p2 p4 c3 c4 ch i4 i5 ms mt mo me m3 n3 m4 n4 m5 n5 m6 n6 m7; grind
  · clear n1 v1 v2 v3 v5 v6 v7 hc mx un p2 p4 c3 c4 ch i4 i5 ms mt mo me m3 n3 m4 n4 m5 n5 m6 n6 m7; grind
  · clear n1 v1 v2 v3 v4 v6 v7 hc mx un p2 p4 c3 c4 ch i4 i5 ms mt mo me m3 n3 m4 n4 m5 n5 m6 n6 m7; grind
  · clear n1 v1 v2 v3 v4 v5 v7 hc mx un p2 p4 c3 c4 ch i4 i5 ms mt mo me m3 n3 m4 n4 m5 n5 m6 n6 m7; grind
  · clear n1 v1 v2 v3 v4 v5 v6 hc mx un p2 p4 c3 c4 ch i4 i5 ms mt mo me m3 n3 m4 n4 m5 n5 m6 n6 m7; grind
  · clear n1 v1 v2 v3 v4 v5 v6 v7 mx un p2 p4 c3 c4 ch i4 i5 ms mt mo me m3 n3 m4 n4 m5 n5 m6 n6 m7; grind
  · clear n1 v1 v2 v3 v4 v5 v6 v7 hc un p2 p4 c3 c4 ch i4 i5 ms mt mo me m3 n3 m4 n4 m5 n5 m6 n6 m7; grind
  · clear n1 v1 v2 v3 v4 v5 v6 v7 hc mx p2 p4 c3 c4 ch i4 i5 ms mt mo me m3 n3 m4 n4 m5 n5 m6 n6 m7; grind
  · clear n1 v1 v2 v3 v4 v5 v6 v7 hc mx un p4 c3 c4 ch i4 i5 ms mt mo me m3 n3 m4 n4 m5 n5 m6 n6 m7; grind
  · clear n1 v1 v2 v3 v4 v5 v6 v7 hc mx un p2 c3 c4 ch i4 i5 ms mt mo me m3 n3 m4 n4 m5 n5 m6 n6 m7; grind
  · clear n1 v2 v3 v4 v5 v6 v7 hc mx un p2 p4 c4 ch i4 i5 ms mt mo me m3 n3 m4 n4 m5 n5 m6 n6 m7; grind
  · clear n1 v2 v3 v4 v5 v6 v7 hc mx un p2 p4 c3 ch i4 i5 ms mt mo me m3 n3 m4 n4 m5 n5 m6 n6 m7; grind
  · clear n1 v2 v3 v4 v5 v6 v7 hc mx un p2 p4 c3 c4 i4 i5 ms mt mo me m3 n3 m4 n4 m5 n5 m6 n6 m7; grind
  · clear n1 v2 v3 v4 v5 v6 v7 hc mx un p2 p4 c3 c4 ch i5 ms mt mo me m3 n3 m4 n4 m5 n5 m6 n6 m7; grind
  · clear n1 v2 v3 v4 v5 v6 v7 hc mx un p2 p4 c3 c4 ch i4 ms mt mo me m3 n3 m4 n4 m5 n5 m6 n6 m7; grind
  · clear n1 v1 v2 v3 v4 v5 v6 v7 hc mx un p2 p4 c3 c4 ch i4 i5 mt mo me m3 n3 m4 n4 m5 n5 m6 n6 m7; grind
  · clear n1 v1 v2 v3 v4 v5 v6 v7 hc mx un p2 p4 c3 c4 ch i4 i5 ms mo me m3 n3 m4 n4 m5 n5 m6 n6 m7; grind
  · clear n1 v1 v2 v3 v4 v5 v6 v7 hc mx un p2 p4 c3 c4 ch i4 i5 ms mt me m3 n3 m4 n4 m5 n5 m6 n6 m7; grind
  · clear n1 v1 v2 v3 v4 v5 v6 v7 hc mx un p2 p4 c3 c4 ch i4 i5 ms mt mo m3 n3 m4 n4 m5 n5 m6 n6 m7; grind
  · clear n1 v1 v2 v3 v4 v5 v6 v7 hc mx un p2 p4 c3 c4 ch i4 i5 ms mo me n3 m4 n4 m5 n5 m6 n6 m7; grind
  · clear n1 v1 v2 v3 v4 v5 v6 v7 hc mx un p2 p4 c3 c4 ch i4 i5 ms mo me m3 m4 n4 m5 n5 m6 n6 m7; grind
  · clear n1 v1 v2 v3 v4 v5 v6 v7 hc mx un p2 p4 c3 c4 ch i4 i5 ms mo me m3 n3 n4 m5 n5 m6 n6 m7; grind
  · clear n1 v1 v2 v3 v4 v5 v6 v7 hc mx un p2 p4 c3 c4 ch i4 i5 ms mo me m3 n3 m4 m5 n5 m6 n6 m7; grind
  · clear n1 v1 v2 v3 v4 v5 v6 v7 hc mx un p2 p4 c3 c4 ch i4 i5 ms mo me m3 n3 m4 n4 n5 m6 n6 m7; grind
  · clear n1 v1 v2 v3 v4 v5 v6 v7 hc mx un p2 p4 c3 c4 ch i4 i5 ms mo me m3 n3 m4 n4 m5 m6 n6 m7; grind
  · clear n1 v1 v2 v3 v4 v5 v6 v7 hc mx un p2 p4 c3 c4 ch i4 i5 ms mo me m3 n3 m4 n4 m5 n5 n6 m7; grind
  · clear n1 v1 v2 v3 v4 v5 v6 v7 hc mx un p2 p4 c3 c4 ch i4 i5 ms mo me m3 n3 m4 n4 m5 n5 m6 m7; grind
  · clear n1 v1 v2 v3 v4 v5 v6 v7 hc mx un p2 p4 c3 c4 ch i4 i5 ms mo me m3 n3 m4 n4 m5 n5 m6 n6; grind

/-- the invariant of a row and of what was sent -/
def InvL (row : List Ld) (sent : List Ml) : Prop := ∃ (S T : Int → Int) (h : Nat), Inv (row.length : Int) (fr row) (fun m => m ∈ sent) S T (h : Int)
theorem fr_set (row : List Ld) {k : Nat} (hk : k < row.length) (x : Ld) : ∀ i : Int, 0 ≤ i → i < (row.length : Int) → fr (row.set k x) i = if i = (k : Int) then x else fr row i := by
  intro i i0 i1
  obtain ⟨j, rfl⟩ : ∃ j : Nat, i = (j : Int) := ⟨i.toNat, by omega⟩
  rw [fr_nat, fr_nat]
  by_cases q : j = k
  · subst q
    rw [if_pos rfl, List.getD, List.getElem?_set_self hk]; rfl
  · rw [if_neg (by omega), List.getD, List.getElem?_set_ne (fun z => q z.symm)]; rfl
theorem invL_set {row : List Ld} {sent' : List Ml} {S T : Int → Int} {h : Int} {k : Nat} (hk : k < row.length) (x : Ld) (H : Inv (row.length : Int) (fun i => if i = (k : Int) then x else fr row i) (fun m => m ∈ sent') S T h) : InvL (row.set k x) sent' := by
  have hh := H.h0
  refine ⟨S, T, h.toNat, ?_⟩
  rw [List.length_set, show ((h.toNat : Nat) : Int) = h by omega]
  exact H.congr (fr_set row hk x)
theorem invL_offer {row : List Ld} {sent : List Ml} (HL : InvL row sent) {who peer : Nat} (hw : who < row.length) (hp : peer < row.length) :
    InvL (if rfs (who : Int) (row.getD who ⟨0, 0, 0⟩) 2 0 (peer : Int) = 0 then row.set who (stp (who : Int) (row.getD who ⟨0, 0, 0⟩) 2 0 (peer : Int)) else row) sent := by
  by_cases hr : rfs (who : Int) (row.getD who ⟨0, 0, 0⟩) 2 0 (peer : Int) = 0
  · rw [if_pos hr]
    obtain ⟨S, T, h, H⟩ := HL
    have hn8 := H.n1
    have hv := H.vld (i := (who : Int)) (by omega) (by omega)
    rw [fr_nat] at hv
    obtain ⟨c1, c2, c3⟩ := (can_offer hv (by omega)).1 hr
    have hwh : who = h := Classical.byContradiction fun q => (H.un (who : Int) (by omega) (by omega) (by omega)).1 (by rw [fr_nat]; exact c1)
    subst hwh
    rw [stp, if_pos hr]
    refine invL_set (S := fun e => if e = (fr row (who : Int)).ep + 1 then (who : Int) else S e) (T := fun e => if e = (fr row (who : Int)).ep + 1 then (peer : Int) else T e) (h := (who : Int)) hw _ ?_
    refine inv_offer H (p := (peer : Int)) (by rw [fr_nat]; exact c1) ⟨by omega, by omega, by omega⟩ (by rw [fr_nat]; exact c3) ?_ (fun i hi => by rw [if_neg hi]) (by simp) (fun e he => by rw [if_neg (by omega)]) (by simp) (fun e he => by rw [if_neg (by omega)])
    rw [if_pos rfl, fr_nat]
    rfl
  · rw [if_neg hr]; exact HL
theorem invL_cancel {row : List Ld} {sent : List Ml} (HL : InvL row sent) {who : Nat} (hw : who < row.length) :
    InvL (if rfs (who : Int) (row.getD who ⟨0, 0, 0⟩) 3 0 0 = 0 then row.set who (stp (who : Int) (row.getD who ⟨0, 0, 0⟩) 3 0 0) else row) sent := by
  by_cases hr : rfs (who : Int) (row.getD who ⟨0, 0, 0⟩) 3 0 0 = 0
  · rw [if_pos hr]
    obtain ⟨S, T, h, H⟩ := HL
    have hn8 := H.n1
    have hv := H.vld (i := (who : Int)) (by omega) (by omega)
    rw [fr_nat] at hv
    have c1 := (can_cancel hv).1 hr
    have hwh : who = h := Classical.byContradiction fun q => (H.un (who : Int) (by omega) (by omega) (by omega)).2 (by rw [fr_nat]; exact c1)
    subst hwh
    rw [stp, if_pos hr]
    refine invL_set (S := S) (T := T) (h := (who : Int)) hw _ ?_
    refine inv_cancel H (by rw [fr_nat]; exact c1) ?_ (fun i hi => by rw [if_neg hi])
    rw [if_pos rfl, fr_nat]
    rfl
  · rw [if_neg hr]; exact HL
theorem nag_zero {l : Ld} (h : nag l ≠ 0) : l.ph = 2 ∨ l.ph = 3 ∨ l.ph = 4 := by
  unfold nag at h
  by_cases a : l.ph = 2
  · exact Or.inl a
  by_cases b : l.ph = 3
  · exact Or.inr (Or.inl b)
  by_cases c : l.ph = 4
  · exact Or.inr (Or.inr c)
  rw [if_neg a, if_neg b, if_neg c] at h
  exact absurd rfl h
theorem invL_nag {row : List Ld} {sent : List Ml} (HL : InvL row sent) {who : Nat} (hw : who < row.length) :
    InvL row (if nag (row.getD who ⟨0, 0, 0⟩) = 0 then sent else sent ++ [⟨nag (row.getD who ⟨0, 0, 0⟩), (row.getD who ⟨0, 0, 0⟩).ep, (who : Int), (row.getD who ⟨0, 0, 0⟩).pe⟩]) := by
  by_cases hr : nag (row.getD who ⟨0, 0, 0⟩) = 0
  · rw [if_pos hr]; exact HL
  · rw [if_neg hr]
    obtain ⟨S, T, h, H⟩ := HL
    refine ⟨S, T, h, send_nag H (i := (who : Int)) (by omega) (by omega) (by rw [fr_nat]; exact nag_zero hr) (fun m hm => ?_)⟩
    rw [fr_nat]
    rcases List.mem_append.1 hm with q | q
    · exact Or.inl q
    · exact Or.inr (by simpa using q)
theorem InvL.mail {row : List Ld} {sent : List Ml} (HL : InvL row sent) {m : Ml} (hm : m ∈ sent) : ∃ t : Nat, m.to = (t : Int) ∧ t < row.length := by
  obtain ⟨S, T, h, H⟩ := HL
  have q1 := H.ms _ hm
  have q2 := H.mt _ hm
  have q3 := H.mo _ hm
  have q4 := H.me _ hm
  have : 0 ≤ m.to ∧ m.to < (row.length : Int) := by
    have hk : m.kind = 3 ∨ m.kind = 4 ∨ m.kind = 5 ∨ m.kind = 6 ∨ m.kind = 7 ∨ m.kind = 8 := by omega
    rcases hk with hk | hk | hk | hk | hk | hk <;> simp [hk] at q3 q4 <;> omega
  exact ⟨m.to.toNat, by omega, by omega⟩
theorem invL_hear {row : List Ld} {sent : List Ml} (HL : InvL row sent) {m : Ml} (hm : m ∈ sent) {t : Nat} (ht : m.to = (t : Int)) (htl : t < row.length) (full : Bool) {R Y : Int} (hans : ans full (her (t : Int) (row.getD t ⟨0, 0, 0⟩) m.kind m.ep m.fr) = (R, Y)) :
    InvL (rowH row t R m.ep m.fr) (sentH sent t Y m.ep m.fr) := by
  obtain ⟨S, T, h, H⟩ := HL
  have hf : fr row m.to = row.getD t ⟨0, 0, 0⟩ := by rw [ht, fr_nat]
  have hsub : ∀ x, x ∈ sentH sent t Y m.ep m.fr → x ∈ sent ∨ (Y ≠ 0 ∧ x = ⟨Y, m.ep, m.to, m.fr⟩) := by
    intro x hx
    unfold sentH at hx
    by_cases q : Y = 0
    · rw [if_pos q] at hx; exact Or.inl hx
    · rw [if_neg q] at hx
      rcases List.mem_append.1 hx with z | z
      · exact Or.inl z
      · exact Or.inr ⟨q, by rw [ht]; simpa using z⟩
  by_cases hR : R = 0
  · obtain ⟨h', H'⟩ := inv_hear (g := fr row) (M' := fun x => x ∈ sentH sent t Y m.ep m.fr) H hm full (r := (R, Y)) (by rw [hf, ht]; exact hans) (fun q => absurd hR q) (fun _ => rfl) (fun _ _ => rfl) hsub
    unfold rowH
    rw [if_pos hR]
    have hh := H'.h0
    exact ⟨S, T, h'.toNat, by rw [show ((h'.toNat : Nat) : Int) = h' by omega]; exact H'⟩
  · obtain ⟨h', H'⟩ := inv_hear (g := fun i => if i = (t : Int) then stp (t : Int) (row.getD t ⟨0, 0, 0⟩) R m.ep m.fr else fr row i) (M' := fun x => x ∈ sentH sent t Y m.ep m.fr) H hm full (r := (R, Y)) (by rw [hf, ht]; exact hans)
      (fun _ => by rw [ht, if_pos rfl, fr_nat]) (fun q => absurd q hR) (fun i hi => by rw [if_neg (by rw [← ht]; exact hi)]) hsub
    unfold rowH
    rw [if_neg hR]
    exact invL_set htl _ H'

/-- no epoch goes back -/
def Mono (row row' : List Ld) : Prop := row'.length = row.length ∧ ∀ k, k < row.length → (row.getD k ⟨0, 0, 0⟩).ep ≤ (row'.getD k ⟨0, 0, 0⟩).ep
theorem Mono.refl (row : List Ld) : Mono row row := ⟨rfl, fun _ _ => Int.le_refl _⟩
theorem mono_set {row : List Ld} {k : Nat} (hk : k < row.length) {x : Ld} (hx : (row.getD k ⟨0, 0, 0⟩).ep ≤ x.ep) : Mono row (row.set k x) := by
  refine ⟨by simp, fun j hj => ?_⟩
  by_cases q : j = k
  · subst q
    rw [show (row.set j x).getD j ⟨0, 0, 0⟩ = x by rw [List.getD, List.getElem?_set_self hk]; rfl]
    exact hx
  · rw [show (row.set k x).getD j ⟨0, 0, 0⟩ = row.getD j ⟨0, 0, 0⟩ by rw [List.getD, List.getElem?_set_ne (fun z => q z.symm)]; rfl]
    exact Int.le_refl _
theorem mono_if {row : List Ld} {k : Nat} (hk : k < row.length) (kd e p : Int) : Mono row (if rfs (k : Int) (row.getD k ⟨0, 0, 0⟩) kd e p = 0 then row.set k (stp (k : Int) (row.getD k ⟨0, 0, 0⟩) kd e p) else row) := by
  by_cases q : rfs (k : Int) (row.getD k ⟨0, 0, 0⟩) kd e p = 0
  · rw [if_pos q]; exact mono_set hk (stp_vld q).2
  · rw [if_neg q]; exact Mono.refl _
theorem mono_hear {row : List Ld} {t : Nat} (ht : t < row.length) {full : Bool} {kd ep f R Y : Int} (hans : ans full (her (t : Int) (row.getD t ⟨0, 0, 0⟩) kd ep f) = (R, Y)) : Mono row (rowH row t R ep f) := by
  unfold rowH
  by_cases q : R = 0
  · rw [if_pos q]; exact Mono.refl _
  · rw [if_neg q]
    have := rfs_ans (s := (t : Int)) (l := row.getD t ⟨0, 0, 0⟩) (k := kd) (e := ep) (f := f) (full := full) (by rw [hans]; exact q)
    rw [hans] at this
    exact mono_set ht (stp_vld this).2
theorem sentH_len (sent : List Ml) (t : Nat) (y ep f : Int) : (sentH sent t y ep f).length ≤ sent.length + 1 := by
  unfold sentH; split <;> simp
end Go.Proofs.Ytnpabeodakncfaa
