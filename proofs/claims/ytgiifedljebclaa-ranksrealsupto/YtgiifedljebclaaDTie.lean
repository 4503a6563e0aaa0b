/- The program's sketch and the document's: one row of entries, by place among the added and place among the values. -/
import Derived.Test.YtgiifedljebclaaRMap
import Derived.Test.YtgiifedljebclaaRRef
import Derived.Test.YtgiifedljebclaaDPlace
namespace Go.Proofs.Ytgiifedljebclaa.flo
open ref

/-- which of the added, which of the values -/
abbrev Sc := Nat × Nat
/-- a sketch: its inverse, the places of the values that were added, the entries -/
structure Sd where
  inv : Nat
  l : List Nat
  E : List (En Sc)
def fV (val : Nat → Nat) (a : Sc) : Nat := val a.2
def fC (code : Nat → Int) (a : Sc) : Wc := (a.1, code a.2)
def gtS (val : Nat → Nat) (a b : Sc) : Bool := gtV (val a.2) (val b.2)
/-- the codes are in the values' order -/
def Ord (L : Nat) (val : Nat → Nat) (code : Nat → Int) : Prop := ∀ a b, a < L → b < L → decide (code b < code a) = gtV (val a) (val b)
def Pl (L : Nat) (l : List Nat) (a : Sc) : Prop := l[a.1]? = some a.2 ∧ a.2 < L
structure Good (L : Nat) (val : Nat → Nat) (code : Nat → Int) (s : Sd) : Prop where
  i2 : 2 ≤ s.inv
  i1024 : s.inv ≤ 1024
  pl : ∀ e ∈ s.E, Pl L s.l e.v
  fv : Fit gtV s.l.length (mapE (fV val) s.E)
  fc : Fit gtC s.l.length (mapE (fC code) s.E)
def Sd.next (val : Nat → Nat) (s : Sd) (v : Nat) : Sd := ⟨s.inv, s.l ++ [v], stepE (gtS val) s.inv s.l.length s.E (s.l.length, v)⟩
theorem Good.new {L : Nat} {val : Nat → Nat} {code : Nat → Int} {inv : Nat} (h2 : 2 ≤ inv) (hi : inv ≤ 1024) : Good L val code ⟨inv, [], []⟩ := ⟨h2, hi, fun e he => (by cases he), fit_nil _, fit_nil _⟩
theorem Pl.more {L : Nat} {l : List Nat} {a : Sc} (h : Pl L l a) (v : Nat) : Pl L (l ++ [v]) a :=
  ⟨by rw [List.getElem?_append_left (List.getElem?_eq_some_iff.1 h.1).1]; exact h.1, h.2⟩
theorem Pl.last {L : Nat} (l : List Nat) {v : Nat} (hv : v < L) : Pl L (l ++ [v]) (l.length, v) := ⟨by rw [List.getElem?_append_right (Nat.le_refl _), Nat.sub_self]; rfl, hv⟩
theorem next_V {L : Nat} {val : Nat → Nat} {code : Nat → Int} {s : Sd} (h : Good L val code s) {v : Nat} (hv : v < L) : mapE (fV val) (s.next val v).E = stepE gtV s.inv s.l.length (mapE (fV val) s.E) (val v) :=
  (step_map (f := fV val) (gt1 := gtS val) (gt2 := gtV) (P := Pl L (s.l ++ [v])) (fun _ _ _ _ => rfl) s.inv s.l.length s.E (s.l.length, v) (fun e he => (h.pl e he).more v) (Pl.last s.l hv)).symm
theorem next_C {L : Nat} {val : Nat → Nat} {code : Nat → Int} (hO : Ord L val code) {s : Sd} (h : Good L val code s) {v : Nat} (hv : v < L) : mapE (fC code) (s.next val v).E = stepE gtC s.inv s.l.length (mapE (fC code) s.E) (s.l.length, code v) :=
  (step_map (f := fC code) (gt1 := gtS val) (gt2 := gtC) (P := Pl L (s.l ++ [v])) (fun a b ha hb => hO a.2 b.2 ha.2 hb.2) s.inv s.l.length s.E (s.l.length, v) (fun e he => (h.pl e he).more v) (Pl.last s.l hv)).symm
theorem Good.next {L : Nat} {val : Nat → Nat} {code : Nat → Int} (hO : Ord L val code) {s : Sd} (h : Good L val code s) {v : Nat} (hv : v < L) : Good L val code (s.next val v) := by
  refine ⟨h.i2, h.i1024, step_vals (gt1 := gtS val) (P := Pl L (s.l ++ [v])) s.inv s.l.length s.E (s.l.length, v) (fun e he => (h.pl e he).more v) (Pl.last s.l hv), ?_, ?_⟩
  · rw [next_V h hv]
    have := fit_step (inv := s.inv) behindV h.fv (val v)
    show Fit gtV (s.l ++ [v]).length _
    rw [List.length_append]; exact this
  · rw [next_C hO h hv]
    have := fit_step (inv := s.inv) behindC h.fc (s.l.length, code v)
    show Fit gtC (s.l ++ [v]).length _
    rw [List.length_append]; exact this
/-- the entry that a query finds -/
theorem query_tie {L : Nat} {val : Nat → Nat} {code : Nat → Int} {s : Sd} (h : Good L val code s) (z : Nat) {r : Nat} (h1 : 1 ≤ r) (hr : r ≤ s.l.length) :
    ∃ p v, s.l[p]? = some v ∧ v < L ∧ nearE z r (mapE (fV val) s.E) = val v ∧ (nearE (0, 0) r (mapE (fC code) s.E)).1 = p := by
  have hne : s.E ≠ [] := fun q => by
    have := h.fv.sum
    rw [q] at this
    have h0 : sumg (mapE (fV val) []) = 0 := rfl
    omega
  obtain ⟨e, t, he⟩ : ∃ e t, s.E = e :: t := by
    cases hq : s.E with
    | nil => exact absurd hq hne
    | cons e t => exact ⟨e, t, rfl⟩
  have hp := nearE_val (P := Pl L s.l) e.v r s.E h.pl (h.pl e (by rw [he]; exact List.mem_cons_self ..))
  refine ⟨(nearE e.v r s.E).1, (nearE e.v r s.E).2, hp.1, hp.2, nearE_map e.v z r s.E hne, ?_⟩
  rw [nearE_map e.v (0, 0) r s.E hne]
  rfl
theorem sumg_map {α β : Type} (f : α → β) (es : List (En α)) : sumg (mapE f es) = sumg es := by
  induction es with
  | nil => rfl
  | cons e es ih =>
    show sumg (mapN f e :: mapE f es) = _
    rw [sumg_cons, sumg_cons, ih]; rfl
theorem below_map {α β : Type} {f : α → β} {gt1 : α → α → Bool} {gt2 : β → β → Bool} {P : α → Prop} (h : ∀ a b, P a → P b → gt2 (f a) (f b) = gt1 a b) (n : Nat) (es : List (En α)) (x : α) (he : ∀ e ∈ es, P e.v) (hx : P x) : belowE gt2 n (mapE f es) (f x) = belowE gt1 n es x := by
  unfold belowE
  rw [plc_map h es x he hx]
  have ht : (mapE f es).take (plc gt1 es x) = mapE f (es.take (plc gt1 es x)) := by unfold mapE; rw [List.map_take]
  rw [ht, sumg_map]
  have hg : (mapE f es)[plc gt1 es x]? = (es[plc gt1 es x]?).map (mapN f) := by unfold mapE; rw [List.getElem?_map]
  rw [hg]
  cases es[plc gt1 es x]? <;> rfl
theorem below_tie {L : Nat} {val : Nat → Nat} {code : Nat → Int} (hO : Ord L val code) {s : Sd} (h : Good L val code s) {v : Nat} (hv : v < L) : belowE gtV s.l.length (mapE (fV val) s.E) (val v) = belowE gtC s.l.length (mapE (fC code) s.E) (0, code v) := by
  have a := below_map (f := fV val) (gt1 := gtS val) (gt2 := gtV) (P := fun a => a.2 < L) (fun _ _ _ _ => rfl) s.l.length s.E (0, v) (fun e he => (h.pl e he).2) hv
  have b := below_map (f := fC code) (gt1 := gtS val) (gt2 := gtC) (P := fun a => a.2 < L) (fun a b ha hb => hO a.2 b.2 ha hb) s.l.length s.E (0, v) (fun e he => (h.pl e he).2) hv
  exact a.trans b.symm
/-- codes: how many values come ahead -/
def codeOf (L : Nat) (val : Nat → Nat) (i : Nat) : Nat → Int
  | 0 => 0
  | k + 1 => if gtV (val i) (val k) = true then codeOf L val i k + 1 else codeOf L val i k
theorem codeOf_nn (L : Nat) (val : Nat → Nat) (i : Nat) : ∀ k, 0 ≤ codeOf L val i k ∧ codeOf L val i k ≤ k
  | 0 => by simp [codeOf]
  | k + 1 => by have := codeOf_nn L val i k; unfold codeOf; split <;> omega
theorem gtV_irr (a : Nat) : gtV a a = false := by
  cases h : gtV a a with
  | false => rfl
  | true => exact (h.symm.trans (behindV.2 a a h)).symm ▸ rfl
theorem gtV_le {a b c : Nat} (h : gtV a b = false) (hc : gtV a c = true) : gtV b c = true := by
  cases hb : gtV b c with
  | true => rfl
  | false => have := behindV.1 a b c h hb; rw [hc] at this; cases this
theorem codeOf_le {L : Nat} {val : Nat → Nat} {i j : Nat} (h : gtV (val i) (val j) = false) : ∀ k, codeOf L val i k ≤ codeOf L val j k
  | 0 => by simp [codeOf]
  | k + 1 => by
    have := codeOf_le (L := L) h k
    unfold codeOf
    by_cases a : gtV (val i) (val k) = true
    · rw [if_pos a, if_pos (gtV_le h a)]; omega
    · rw [if_neg a]; split <;> omega
theorem codeOf_lt {L : Nat} {val : Nat → Nat} {i j : Nat} (h : gtV (val j) (val i) = true) : ∀ k, i < k → codeOf L val i k < codeOf L val j k
  | 0, hi => by omega
  | k + 1, hi => by
    have hle := behindV.2 _ _ h
    unfold codeOf
    by_cases c : i = k
    · subst c
      have := codeOf_le (L := L) (i := i) (j := j) (val := val) hle i
      rw [if_neg (by rw [gtV_irr]; simp), if_pos h]; omega
    · have := codeOf_lt (L := L) h k (by omega)
      by_cases a : gtV (val i) (val k) = true
      · rw [if_pos a, if_pos (gtV_le hle a)]; omega
      · rw [if_neg a]; split <;> omega
theorem code_ord (L : Nat) (val : Nat → Nat) : Ord L val (fun i => codeOf L val i L) := by
  intro a b ha hb
  dsimp only
  cases h : gtV (val a) (val b) with
  | true => exact decide_eq_true (codeOf_lt (L := L) h L hb)
  | false =>
    have := codeOf_le (L := L) h L
    exact decide_eq_false (by omega)
end Go.Proofs.Ytgiifedljebclaa.flo
