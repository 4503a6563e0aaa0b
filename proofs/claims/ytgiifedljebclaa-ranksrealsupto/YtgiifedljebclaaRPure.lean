/- A sketch as a list: entries, what an Add makes of them, what is asked of them; and how near the answers are. -/
import Derived.WalkKit
namespace Go.Proofs.Ytgiifedljebclaa

structure En (α : Type) where
  v : α
  g : Nat
  d : Nat
def En.wd {α : Type} (e : En α) : Nat := e.g + e.d
def sumg {α : Type} (es : List (En α)) : Nat := (es.map (·.g)).sum
theorem sumg_nil {α : Type} : sumg ([] : List (En α)) = 0 := rfl
theorem sumg_cons {α : Type} (e : En α) (es : List (En α)) : sumg (e :: es) = e.g + sumg es := by simp [sumg]
theorem sumg_app {α : Type} (a b : List (En α)) : sumg (a ++ b) = sumg a + sumg b := by simp [sumg]

/-- an order: 'gt a b' says that a comes behind b -/
structure Behind {α : Type} (gt : α → α → Bool) : Prop where
  trans : ∀ a b c, gt a b = false → gt b c = false → gt a c = false
  asym : ∀ a b, gt a b = true → gt b a = false

def plc {α : Type} (gt : α → α → Bool) (es : List (En α)) (x : α) : Nat := es.findIdx fun e => gt e.v x
def gapO {α : Type} (es : List (En α)) (i : Nat) : Nat := if i = 0 then 0 else match es[i]? with | some e => e.wd - 1 | none => 0
def insE {α : Type} (es : List (En α)) (i : Nat) (e : En α) : List (En α) := es.take i ++ e :: es.drop i
def addE {α : Type} (gt : α → α → Bool) (es : List (En α)) (x : α) : List (En α) := insE es (plc gt es x) ⟨x, 1, gapO es (plc gt es x)⟩
def sweep {α : Type} (b : Nat) : List (En α) → List (En α) → List (En α)
  | [], done => done
  | _ :: _, [] => []
  | e :: r, h :: t => if e.g + h.wd ≤ b then sweep b r (⟨h.v, h.g + e.g, h.d⟩ :: t) else sweep b r (e :: h :: t)
def press {α : Type} (b : Nat) : List (En α) → List (En α)
  | [] => []
  | f :: tl => match tl.reverse with
    | [] => [f]
    | l :: m => f :: sweep b m [l]
def stepE {α : Type} (gt : α → α → Bool) (inv n : Nat) (es : List (En α)) (x : α) : List (En α) :=
  if (n + 1) % (inv / 2) = 0 then press (2 * (n + 1) / inv) (addE gt es x) else addE gt es x
def foldE {α : Type} (gt : α → α → Bool) (inv : Nat) : Nat → List (En α) → List α → List (En α)
  | _, es, [] => es
  | n, es, x :: l => foldE gt inv (n + 1) (stepE gt inv n es x) l
theorem foldE_snoc {α : Type} (gt : α → α → Bool) (inv : Nat) (l : List α) (x : α) : ∀ (n : Nat) (es : List (En α)), foldE gt inv n es (l ++ [x]) = stepE gt inv (n + l.length) (foldE gt inv n es l) x := by
  induction l with
  | nil => intro n es; rfl
  | cons y l ih => intro n es; simp only [List.cons_append, foldE, ih, List.length_cons]; congr 1; omega

/-- floors and ceilings within N, gains of one and more -/
def Cap {α : Type} (N : Nat) : Nat → List (En α) → Prop
  | _, [] => True
  | f, e :: r => (1 ≤ e.g ∧ f + e.wd ≤ N) ∧ Cap N (f + e.g) r
theorem Cap_app {α : Type} {N : Nat} (a b : List (En α)) : ∀ f, Cap N f (a ++ b) ↔ Cap N f a ∧ Cap N (f + sumg a) b := by
  induction a with
  | nil => intro f; simp [Cap, sumg]
  | cons e a ih => intro f; simp only [List.cons_append, Cap, ih, sumg_cons, Nat.add_assoc, and_assoc]
theorem Cap_shift {α : Type} {N : Nat} (a : List (En α)) : ∀ f, Cap N f a → Cap (N + 1) (f + 1) a := by
  induction a with
  | nil => intro f _; trivial
  | cons e a ih =>
    intro f h
    refine ⟨⟨h.1.1, by have := h.1.2; omega⟩, ?_⟩
    have := ih _ h.2
    rwa [show f + e.g + 1 = f + 1 + e.g by omega] at this
theorem Cap_more {α : Type} {N : Nat} (a : List (En α)) : ∀ f, Cap N f a → Cap (N + 1) f a := by
  induction a with
  | nil => intro f _; trivial
  | cons e a ih => intro f h; exact ⟨⟨h.1.1, by have := h.1.2; omega⟩, ih _ h.2⟩
theorem Cap_mem {α : Type} {N : Nat} (a : List (En α)) : ∀ f, Cap N f a → ∀ e ∈ a, 1 ≤ e.g ∧ f + e.wd ≤ N := by
  induction a with
  | nil => intro f _ e he; cases he
  | cons x a ih =>
    intro f h e he
    rcases List.mem_cons.1 he with rfl | he
    · exact h.1
    · have := ih _ h.2 e he; omega
theorem Cap_at {α : Type} {N : Nat} (a b : List (En α)) (e : En α) (f : Nat) (h : Cap N f (a ++ e :: b)) : f + sumg a + e.wd ≤ N := ((Cap_app _ _ _).1 h).2.1.2

/-- what the sweep keeps: any relation of a row's entries that a merge keeps -/
theorem sweep_keep {α : Type} {b : Nat} {R : List (En α) → Prop} (hR : ∀ a e h t, R (a ++ e :: h :: t) → e.g + h.wd ≤ b → R (a ++ ⟨h.v, h.g + e.g, h.d⟩ :: t)) :
    ∀ (m done : List (En α)), done ≠ [] → R (m.reverse ++ done) → R (sweep b m done)
  | [], done, _, h => by simpa [sweep] using h
  | e :: r, [], hne, _ => absurd rfl hne
  | e :: r, h :: t, _, hh => by
    have h1 : R (r.reverse ++ e :: h :: t) := by simpa using hh
    unfold sweep
    split
    · next hle => exact sweep_keep hR r _ (by simp) (hR _ _ _ _ h1 hle)
    · exact sweep_keep hR r _ (by simp) h1
theorem press_keep {α : Type} {b : Nat} {R : List (En α) → Prop} (hR : ∀ f a e h t, R (f :: (a ++ e :: h :: t)) → e.g + h.wd ≤ b → R (f :: (a ++ ⟨h.v, h.g + e.g, h.d⟩ :: t))) (es : List (En α)) (h : R es) : R (press b es) := by
  cases es with
  | nil => exact h
  | cons f tl =>
    show R (match tl.reverse with
    | [] => [f]
    | l :: m => f :: sweep b m [l])
    cases hr : tl.reverse with
    | nil =>
      have : tl = [] := by simpa using hr
      subst this; exact h
    | cons l m =>
      show R (f :: sweep b m [l])
      refine sweep_keep (R := fun y => R (f :: y)) (fun a e h t => hR f a e h t) m [l] (by simp) ?_
      have : tl = m.reverse ++ [l] := by
        have := congrArg List.reverse hr
        simpa using this
      rwa [this] at h

/-- what every sketch is: in order, all gains together n, ceilings within n -/
structure Fit {α : Type} (gt : α → α → Bool) (n : Nat) (es : List (En α)) : Prop where
  rise : es.Pairwise fun a b => gt a.v b.v = false
  sum : sumg es = n
  cap : Cap n 0 es
  head : ∀ e r, es = e :: r → e.g = 1 ∧ e.d = 0
  last : ∀ r e, es = r ++ [e] → e.d = 0

theorem fit_nil {α : Type} (gt : α → α → Bool) : Fit gt 0 ([] : List (En α)) := ⟨List.Pairwise.nil, rfl, trivial, fun _ _ h => (by cases h), fun r e h => (by cases r <;> cases h)⟩
theorem Cap_len {α : Type} {N : Nat} (a : List (En α)) : ∀ f, Cap N f a → a.length ≤ sumg a := by
  induction a with
  | nil => intro f _; simp
  | cons e a ih => intro f h; have := ih _ h.2; have := h.1.1; rw [sumg_cons, List.length_cons]; omega
theorem Fit.len {α : Type} {gt : α → α → Bool} {n : Nat} {es : List (En α)} (h : Fit gt n es) : es.length ≤ n := by have := Cap_len _ _ h.cap; rw [h.sum] at this; exact this
theorem Fit.wd {α : Type} {gt : α → α → Bool} {n : Nat} {es : List (En α)} (h : Fit gt n es) {e : En α} (he : e ∈ es) : 1 ≤ e.g ∧ e.wd ≤ n := by have := Cap_mem _ _ h.cap e he; omega

theorem plc_le {α : Type} (gt : α → α → Bool) (es : List (En α)) (x : α) : plc gt es x ≤ es.length := List.findIdx_le_length
theorem plc_ahead {α : Type} {gt : α → α → Bool} {es : List (En α)} {x : α} {j : Nat} (hj : j < es.length) (h : j < plc gt es x) : gt es[j].v x = false := by
  have := List.not_of_lt_findIdx h
  simpa using this
theorem plc_behind {α : Type} {gt : α → α → Bool} (ho : Behind gt) {es : List (En α)} (hr : es.Pairwise fun a b => gt a.v b.v = false) {x : α} {j : Nat} (hj : j < es.length) (h : plc gt es x ≤ j) : gt es[j].v x = true := by
  have hlt : plc gt es x < es.length := by omega
  have hp : gt es[plc gt es x].v x = true := List.findIdx_getElem (w := hlt)
  rcases Nat.lt_or_ge (plc gt es x) j with h1 | h1
  · have h2 := List.pairwise_iff_getElem.1 hr _ _ hlt hj h1
    cases hq : gt es[j].v x with
    | true => rfl
    | false =>
      have := ho.trans _ _ _ h2 hq
      rw [hp] at this
      cases this
  · have : plc gt es x = j := by omega
    subst this; exact hp
theorem mem_take {α : Type} {gt : α → α → Bool} {es : List (En α)} {x : α} {e : En α} (h : e ∈ es.take (plc gt es x)) : gt e.v x = false := by
  obtain ⟨j, hj, rfl⟩ := List.getElem_of_mem h
  rw [List.length_take] at hj
  rw [List.getElem_take]
  exact plc_ahead (by omega) (by omega)
theorem mem_drop {α : Type} {gt : α → α → Bool} (ho : Behind gt) {es : List (En α)} (hr : es.Pairwise fun a b => gt a.v b.v = false) {x : α} {e : En α} (h : e ∈ es.drop (plc gt es x)) : gt e.v x = true := by
  obtain ⟨j, hj, rfl⟩ := List.getElem_of_mem h
  rw [List.length_drop] at hj
  rw [List.getElem_drop]
  exact plc_behind ho hr (by omega) (by omega)

theorem gap_form {α : Type} {es : List (En α)} {i : Nat} (hi : i ≤ es.length) : gapO es i = match es.take i, es.drop i with
    | [], _ => 0
    | _, [] => 0
    | _, b :: _ => b.wd - 1 := by
  unfold gapO
  cases i with
  | zero => simp
  | succ i =>
    cases h1 : es.take (i + 1) with
    | nil => rw [List.take_eq_nil_iff] at h1; rcases h1 with h1 | h1
             · omega
             · subst h1; simp at hi
    | cons a A =>
      cases h2 : es.drop (i + 1) with
      | nil =>
        have : es.length ≤ i + 1 := by simpa using h2
        simp [List.getElem?_eq_none this]
      | cons b B =>
        have : es[i + 1]? = some b := by
          rw [← List.head?_drop, h2]; rfl
        simp [this]

theorem fit_add {α : Type} {gt : α → α → Bool} (ho : Behind gt) {n : Nat} {es : List (En α)} (h : Fit gt n es) (x : α) : Fit gt (n + 1) (addE gt es x) := by
  have hA : ∀ e ∈ es.take (plc gt es x), gt e.v x = false := fun e he => mem_take he
  have hB : ∀ e ∈ es.drop (plc gt es x), gt e.v x = true := fun e he => mem_drop ho h.rise he
  have hg := gap_form (plc_le gt es x)
  have hes := List.take_append_drop (plc gt es x) es
  unfold addE insE
  generalize gapO es (plc gt es x) = gp at *
  generalize es.take (plc gt es x) = A at *
  generalize es.drop (plc gt es x) = B at *
  subst hes
  have hc := (Cap_app _ _ _).1 h.cap
  have hs := h.sum
  rw [sumg_app] at hs
  refine ⟨?_, ?_, ?_, ?_, ?_⟩
  · have hr := List.pairwise_append.1 h.rise
    refine List.pairwise_append.2 ⟨hr.1, List.pairwise_cons.2 ⟨fun e he => ho.asym _ _ (hB e he), hr.2.1⟩, fun a ha b hb => ?_⟩
    rcases List.mem_cons.1 hb with rfl | hb
    · exact hA a ha
    · exact hr.2.2 a ha b hb
  · rw [sumg_app, sumg_cons]; simp only; omega
  · refine (Cap_app _ _ _).2 ⟨Cap_more _ _ hc.1, ⟨⟨Nat.le_refl _, ?_⟩, ?_⟩⟩
    · simp only [En.wd]
      cases A with
      | nil => simp at hg; simp [sumg_nil] at *; omega
      | cons a A =>
        cases B with
        | nil => simp at hg; simp [sumg_nil] at hs; omega
        | cons b B =>
          simp at hg
          have := hc.2.1
          rw [hg]; unfold En.wd at *
          omega
    · have := Cap_shift _ _ hc.2
      simpa using this
  · intro e r he
    cases A with
    | nil => simp at hg; simp at he; obtain ⟨rfl, _⟩ := he; exact ⟨rfl, hg⟩
    | cons a A => simp at he; obtain ⟨rfl, _⟩ := he; exact h.head a (A ++ B) rfl
  · intro r e he
    rcases List.eq_nil_or_concat B with rfl | ⟨B', b, rfl⟩
    · have := List.append_inj' (s₁ := A) (t₁ := [(⟨x, 1, gp⟩ : En α)]) (s₂ := r) (t₂ := [e]) he rfl
      have h2 := this.2
      simp at h2
      subst h2
      cases A <;> simpa using hg
    · have he' : (A ++ ⟨x, 1, gp⟩ :: B') ++ [b] = r ++ [e] := by simpa using he
      have := (List.append_inj' he' rfl).2
      simp at this
      subst this
      exact h.last (A ++ B') b (by simp)

theorem fit_merge {α : Type} {gt : α → α → Bool} {n : Nat} {f : En α} {a : List (En α)} {e h : En α} {t : List (En α)} (hf : Fit gt n (f :: (a ++ e :: h :: t))) : Fit gt n (f :: (a ++ ⟨h.v, h.g + e.g, h.d⟩ :: t)) := by
  have hc := (Cap_app (f :: a) (e :: h :: t) 0).1 (by simpa using hf.cap)
  refine ⟨?_, ?_, ?_, ?_, ?_⟩
  · have h1 : ((f :: (a ++ h :: t)) : List (En α)).Pairwise fun a b => gt a.v b.v = false := hf.rise.sublist (by
      refine List.Sublist.cons_cons _ (List.Sublist.append_left ?_ _)
      exact List.sublist_cons_self ..)
    have h2 : ((f :: (a ++ h :: t)).map (·.v)).Pairwise fun x y => gt x y = false := List.pairwise_map.2 h1
    have h3 : ((f :: (a ++ (⟨h.v, h.g + e.g, h.d⟩ : En α) :: t)).map (·.v)).Pairwise fun x y => gt x y = false := by simpa using h2
    exact List.pairwise_map.1 h3
  · have := hf.sum
    simp only [sumg_cons, sumg_app] at *; omega
  · have : Cap n 0 ((f :: a) ++ (⟨h.v, h.g + e.g, h.d⟩ : En α) :: t) := by
      refine (Cap_app _ _ _).2 ⟨hc.1, ⟨⟨?_, ?_⟩, ?_⟩⟩
      · have := hc.2.1.1; simp only; omega
      · have := hc.2.2.1.2; unfold En.wd at *; simp only at *; omega
      · have := hc.2.2.2
        simp only
        rw [show 0 + sumg (f :: a) + (h.g + e.g) = 0 + sumg (f :: a) + e.g + h.g by omega]
        exact this
    simpa using this
  · intro x r hx
    simp at hx
    obtain ⟨rfl, _⟩ := hx
    exact hf.head f _ rfl
  · intro r x hx
    rcases List.eq_nil_or_concat t with rfl | ⟨t', l, rfl⟩
    · have hx' : (f :: a) ++ [(⟨h.v, h.g + e.g, h.d⟩ : En α)] = r ++ [x] := by simpa using hx
      have := (List.append_inj' hx' rfl).2
      simp at this
      subst this
      exact hf.last (f :: (a ++ [e])) h (by simp)
    · have hx' : (f :: a ++ (⟨h.v, h.g + e.g, h.d⟩ : En α) :: t') ++ [l] = r ++ [x] := by simpa using hx
      have := (List.append_inj' hx' rfl).2
      simp at this
      subst this
      exact hf.last (f :: (a ++ e :: h :: t')) l (by simp)

theorem fit_step {α : Type} {gt : α → α → Bool} (ho : Behind gt) {n inv : Nat} {es : List (En α)} (h : Fit gt n es) (x : α) : Fit gt (n + 1) (stepE gt inv n es x) := by
  have h1 := fit_add ho h x
  unfold stepE
  split
  · exact press_keep (R := Fit gt (n + 1)) (fun f a e h t hf _ => fit_merge hf) _ h1
  · exact h1
theorem fit_fold {α : Type} {gt : α → α → Bool} (ho : Behind gt) {inv : Nat} (l : List α) : ∀ {n : Nat} {es : List (En α)}, Fit gt n es → Fit gt (n + l.length) (foldE gt inv n es l) := by
  induction l with
  | nil => intro n es h; exact h
  | cons x l ih => intro n es h; have := ih (fit_step (inv := inv) ho h x); rw [List.length_cons, show n + (l.length + 1) = n + 1 + l.length by omega]; exact this
theorem press_len {α : Type} (b : Nat) (es : List (En α)) : (press b es).length ≤ es.length := by
  refine press_keep (R := fun y => y.length ≤ es.length) (fun f a e h t hh _ => ?_) es (Nat.le_refl _)
  simp at hh ⊢; omega
theorem addE_len {α : Type} (gt : α → α → Bool) (es : List (En α)) (x : α) : (addE gt es x).length = es.length + 1 := by
  have := plc_le gt es x
  simp [addE, insE]; omega
theorem step_ne {α : Type} (gt : α → α → Bool) (inv n : Nat) (es : List (En α)) (x : α) : stepE gt inv n es x ≠ [] := by
  have h1 : addE gt es x ≠ [] := by simp [addE, insE]
  unfold stepE
  split
  · refine press_keep (R := fun y => y ≠ []) (fun f a e h t hh _ => by simp) _ h1
  · exact h1

/-- the distance of a rank from an entry's floor and ceiling; the nearest -/
def dist {α : Type} (r : Nat) (f : Nat) (e : En α) : Int := max ((r : Int) - ((f : Int) + e.g)) ((f : Int) + e.g + e.d - r)
def nearGo {α : Type} (r : Nat) : Nat → Option (α × Int) → List (En α) → Option (α × Int)
  | _, b, [] => b
  | f, b, e :: l => nearGo r (f + e.g) (match b with
      | none => some (e.v, dist r f e)
      | some (v, m) => if dist r f e < m then some (e.v, dist r f e) else some (v, m)) l
def nearE {α : Type} (z : α) (r : Nat) (es : List (En α)) : α := match nearGo r 0 none es with | some (v, _) => v | none => z
def belowE {α : Type} (gt : α → α → Bool) (n : Nat) (es : List (En α)) (x : α) : Nat × Nat :=
  (sumg (es.take (plc gt es x)), match es[plc gt es x]? with | none => n | some e => sumg (es.take (plc gt es x)) + e.wd - 1)
end Go.Proofs.Ytgiifedljebclaa
