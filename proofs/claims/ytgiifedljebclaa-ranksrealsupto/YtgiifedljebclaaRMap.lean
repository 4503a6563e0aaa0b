/- Two types of one order make one sketch. -/
import Derived.Test.YtgiifedljebclaaRPure
namespace Go.Proofs.Ytgiifedljebclaa

def mapN {α β : Type} (f : α → β) (e : En α) : En β := ⟨f e.v, e.g, e.d⟩
def mapE {α β : Type} (f : α → β) (es : List (En α)) : List (En β) := es.map (mapN f)
theorem mapE_len {α β : Type} (f : α → β) (es : List (En α)) : (mapE f es).length = es.length := by simp [mapE]

section
variable {α β : Type} {f : α → β} {gt1 : α → α → Bool} {gt2 : β → β → Bool} {P : α → Prop}

theorem plc_map (h : ∀ a b, P a → P b → gt2 (f a) (f b) = gt1 a b) : ∀ (es : List (En α)) (x : α), (∀ e ∈ es, P e.v) → P x → plc gt2 (mapE f es) (f x) = plc gt1 es x := by
  intro es x he hx
  induction es with
  | nil => rfl
  | cons e es ih =>
    have h1 := h e.v x (he e (List.mem_cons_self ..)) hx
    have h2 := ih (fun e h => he e (List.mem_cons_of_mem _ h))
    unfold plc mapE at *
    rw [List.map_cons, List.findIdx_cons, List.findIdx_cons, h2]
    show (bif gt2 (f e.v) (f x) then 0 else List.findIdx (fun e => gt1 e.v x) es + 1) = _
    rw [h1]
theorem gap_map (es : List (En α)) (i : Nat) : gapO (mapE f es) i = gapO es i := by
  unfold gapO mapE
  rw [List.getElem?_map]
  cases es[i]? <;> rfl
theorem add_map (h : ∀ a b, P a → P b → gt2 (f a) (f b) = gt1 a b) (es : List (En α)) (x : α) (he : ∀ e ∈ es, P e.v) (hx : P x) : addE gt2 (mapE f es) (f x) = mapE f (addE gt1 es x) := by
  unfold addE
  rw [plc_map h es x he hx, gap_map]
  simp [insE, mapE, mapN]
theorem sweep_map (b : Nat) : ∀ (m done : List (En α)), sweep b (mapE f m) (mapE f done) = mapE f (sweep b m done)
  | [], done => by simp [mapE, sweep]
  | e :: r, [] => by simp [mapE, sweep]
  | e :: r, h :: t => by
    show sweep b (mapN f e :: mapE f r) (mapN f h :: mapE f t) = _
    unfold sweep
    have hw : (mapN f e).g + (mapN f h).wd = e.g + h.wd := rfl
    rw [hw]
    split
    · exact sweep_map b r (⟨h.v, h.g + e.g, h.d⟩ :: t)
    · exact sweep_map b r (e :: h :: t)
theorem press_map (b : Nat) (es : List (En α)) : press b (mapE f es) = mapE f (press b es) := by
  cases es with
  | nil => rfl
  | cons e tl =>
    show (match (mapE f tl).reverse with
      | [] => [mapN f e]
      | l :: m => mapN f e :: sweep b m [l]) = mapE f (match tl.reverse with
      | [] => [e]
      | l :: m => e :: sweep b m [l])
    have hr : (mapE f tl).reverse = mapE f tl.reverse := by simp [mapE]
    rw [hr]
    cases tl.reverse with
    | nil => rfl
    | cons l m =>
      show mapN f e :: sweep b (mapE f m) (mapE f [l]) = mapE f (e :: sweep b m [l])
      rw [sweep_map]
      rfl
theorem step_map (h : ∀ a b, P a → P b → gt2 (f a) (f b) = gt1 a b) (inv n : Nat) (es : List (En α)) (x : α) (he : ∀ e ∈ es, P e.v) (hx : P x) : stepE gt2 inv n (mapE f es) (f x) = mapE f (stepE gt1 inv n es x) := by
  unfold stepE
  rw [add_map h es x he hx]
  split
  · exact press_map _ _
  · rfl
theorem step_vals (inv n : Nat) (es : List (En α)) (x : α) (he : ∀ e ∈ es, P e.v) (hx : P x) : ∀ e ∈ stepE gt1 inv n es x, P e.v := by
  have h1 : ∀ e ∈ addE gt1 es x, P e.v := by
    intro e h
    unfold addE insE at h
    rcases List.mem_append.1 h with h | h
    · exact he e (List.mem_of_mem_take h)
    · rcases List.mem_cons.1 h with rfl | h
      · exact hx
      · exact he e (List.mem_of_mem_drop h)
  unfold stepE
  split
  · refine press_keep (R := fun y => ∀ e ∈ y, P e.v) (fun g a e h t hh _ => ?_) _ h1
    intro y hy
    simp only [List.mem_cons, List.mem_append] at hy hh
    rcases hy with rfl | hy | rfl | hy
    · exact hh _ (Or.inl rfl)
    · exact hh _ (Or.inr (Or.inl hy))
    · exact hh h (Or.inr (Or.inr (Or.inr (Or.inl rfl))))
    · exact hh _ (Or.inr (Or.inr (Or.inr (Or.inr hy))))
  · exact h1
theorem fold_map (h : ∀ a b, P a → P b → gt2 (f a) (f b) = gt1 a b) (inv : Nat) (l : List α) : ∀ (n : Nat) (es : List (En α)), (∀ e ∈ es, P e.v) → (∀ x ∈ l, P x) → foldE gt2 inv n (mapE f es) (l.map f) = mapE f (foldE gt1 inv n es l) := by
  induction l with
  | nil => intro n es _ _; rfl
  | cons x l ih =>
    intro n es he hl
    have hx := hl x (List.mem_cons_self ..)
    show foldE gt2 inv (n + 1) (stepE gt2 inv n (mapE f es) (f x)) (l.map f) = _
    rw [step_map h inv n es x he hx]
    exact ih _ _ (step_vals inv n es x he hx) (fun y hy => hl y (List.mem_cons_of_mem _ hy))
theorem fold_vals (inv : Nat) (l : List α) : ∀ (n : Nat) (es : List (En α)), (∀ e ∈ es, P e.v) → (∀ x ∈ l, P x) → ∀ e ∈ foldE gt1 inv n es l, P e.v := by
  induction l with
  | nil => intro n es he _; exact he
  | cons x l ih => intro n es he hl; exact ih _ _ (step_vals inv n es x he (hl x (List.mem_cons_self ..))) (fun y hy => hl y (List.mem_cons_of_mem _ hy))
theorem near_vals (r : Nat) (es : List (En α)) : ∀ (F : Nat) (b : Option (α × Int)), (∀ e ∈ es, P e.v) → (∀ y m, b = some (y, m) → P y) → ∀ y m, nearGo r F b es = some (y, m) → P y := by
  induction es with
  | nil => intro F b _ hb y m h; exact hb y m h
  | cons e es ih =>
    intro F b he hb y m h
    refine ih _ _ (fun e h => he e (List.mem_cons_of_mem _ h)) (fun y' m' hy => ?_) y m h
    have hp := he e (List.mem_cons_self ..)
    cases b with
    | none => simp at hy; obtain ⟨rfl, _⟩ := hy; exact hp
    | some p =>
      obtain ⟨v, m0⟩ := p
      simp only at hy
      split at hy
      · simp at hy; obtain ⟨rfl, _⟩ := hy; exact hp
      · exact hb y' m' hy
theorem nearE_val (z : α) (r : Nat) (es : List (En α)) (he : ∀ e ∈ es, P e.v) (hz : P z) : P (nearE z r es) := by
  unfold nearE
  cases hq : nearGo r 0 none es with
  | none => exact hz
  | some p => exact near_vals r es 0 none he (fun _ _ h => by cases h) p.1 p.2 hq
theorem near_map (r : Nat) (es : List (En α)) : ∀ (F : Nat) (b : Option (α × Int)), nearGo r F (b.map fun p => (f p.1, p.2)) (mapE f es) = (nearGo r F b es).map fun p => (f p.1, p.2) := by
  induction es with
  | nil => intro F b; rfl
  | cons e es ih =>
    intro F b
    have hd : dist r F (mapN f e) = dist r F e := rfl
    cases b with
    | none => exact ih (F + e.g) (some (e.v, dist r F e))
    | some p =>
      obtain ⟨v, m⟩ := p
      show nearGo r (F + e.g) (if dist r F (mapN f e) < m then some (f e.v, dist r F (mapN f e)) else some (f v, m)) (mapE f es) = (nearGo r (F + e.g) (if dist r F e < m then some (e.v, dist r F e) else some (v, m)) es).map _
      rw [hd]
      split
      · exact ih (F + e.g) (some (e.v, dist r F e))
      · exact ih (F + e.g) (some (v, m))
theorem nearE_map (z1 : α) (z2 : β) (r : Nat) (es : List (En α)) (hne : es ≠ []) : nearE z2 r (mapE f es) = f (nearE z1 r es) := by
  have := near_map (f := f) r es 0 none
  unfold nearE
  rw [show (none : Option (β × Int)) = (none : Option (α × Int)).map (fun p => (f p.1, p.2)) from rfl, this]
  cases hq : nearGo r 0 none es with
  | some p => rfl
  | none =>
    exfalso
    have hl : 0 < es.length := List.length_pos_iff.2 hne
    have hno : ∀ (t : List (En α)) F v m, nearGo r F (some (v, m)) t ≠ none := by
      intro t
      induction t with
      | nil => intro F v m h; cases h
      | cons e t ih =>
        intro F v m
        show nearGo r (F + e.g) (if dist r F e < m then some (e.v, dist r F e) else some (v, m)) t ≠ none
        split <;> exact ih _ _ _
    cases es with
    | nil => exact hne rfl
    | cons e t => exact hno t _ _ _ hq
end
end Go.Proofs.Ytgiifedljebclaa
