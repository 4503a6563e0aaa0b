/- The nearest entry's value has a rank near the one that was asked for. -/
import Derived.Test.YtgiifedljebclaaRGk
namespace Go.Proofs.Ytgiifedljebclaa

/-- a value with a floor and a ceiling that it may have, no further than m from r -/
def Gd (l : List Int) (r : Nat) (y : Int) (m : Int) : Prop := ltc l y < lec l y ∧ ∃ F G : Nat, F ≤ lec l y ∧ ltc l y < G ∧ F ≤ G ∧ (r : Int) - F ≤ m ∧ (G : Int) - r ≤ m
theorem near_good {l : List Int} {r : Nat} (es : List (En Int)) : ∀ f b, Okf l f es → (∀ y m, b = some (y, m) → Gd l r y m) → ∀ y m, nearGo r f b es = some (y, m) → Gd l r y m := by
  induction es with
  | nil => intro f b _ hb y m h; exact hb y m h
  | cons e es ih =>
    intro f b ho hb y m h
    refine ih _ _ ho.2 (fun y' m' hy => ?_) y m h
    have hgd : Gd l r e.v (dist r f e) := by
      have h1 := ho.1
      refine ⟨h1.1, f + e.g, f + e.wd, h1.2.1, h1.2.2, by unfold En.wd; omega, ?_, ?_⟩
      · unfold dist; omega
      · unfold dist En.wd; omega
    cases b with
    | none => simp at hy; obtain ⟨rfl, rfl⟩ := hy; exact hgd
    | some p =>
      obtain ⟨v, m0⟩ := p
      simp only at hy
      split at hy
      · simp at hy; obtain ⟨rfl, rfl⟩ := hy; exact hgd
      · exact hb y' m' hy
theorem near_min {r : Nat} (es : List (En Int)) : ∀ f b y m, nearGo r f b es = some (y, m) → (∀ y' m', b = some (y', m') → m ≤ m') ∧ ∀ A e B, es = A ++ e :: B → m ≤ dist r (f + sumg A) e := by
  induction es with
  | nil =>
    intro f b y m h
    refine ⟨fun y' m' hb => ?_, fun A e B h2 => by cases A <;> cases h2⟩
    have h' : b = some (y, m) := h
    rw [hb] at h'; simp at h'; omega
  | cons e es ih =>
    intro f b y m h
    obtain ⟨h1, h2⟩ := ih _ _ _ _ h
    have hb : m ≤ dist r f e ∧ ∀ y' m', b = some (y', m') → m ≤ m' := by
      cases b with
      | none => exact ⟨h1 _ _ rfl, fun _ _ h => by cases h⟩
      | some p =>
        obtain ⟨v, m0⟩ := p
        simp only at h1
        split at h1
        · next hd =>
          have := h1 _ _ rfl
          refine ⟨this, fun y' m' h => ?_⟩
          simp at h; omega
        · next hd =>
          have := h1 _ _ rfl
          refine ⟨by omega, fun y' m' h => ?_⟩
          simp at h; omega
    refine ⟨hb.2, fun A x B hx => ?_⟩
    cases A with
    | nil => simp at hx; obtain ⟨rfl, _⟩ := hx; simpa [sumg] using hb.1
    | cons a A =>
      simp at hx
      obtain ⟨rfl, hx⟩ := hx
      have := h2 A x B hx
      rwa [sumg_cons, ← Nat.add_assoc]
/-- some entry is within E -/
theorem some_near {r E n : Nat} (es : List (En Int)) : ∀ f, es ≠ [] → (∀ e ∈ es, e.wd ≤ 2 * E + 1) → f + sumg es = n → r ≤ n →
    (f + E + 1 ≤ r ∨ ∃ e t, es = e :: t ∧ f + e.wd ≤ r + E) → ∃ A e B, es = A ++ e :: B ∧ dist r (f + sumg A) e ≤ E := by
  induction es with
  | nil => intro f h; exact absurd rfl h
  | cons e es ih =>
    intro f _ hw hs hr hc
    have hwe := hw e (List.mem_cons_self ..)
    have hce : f + e.wd ≤ r + E := by
      rcases hc with hc | ⟨e', t, he, hc⟩
      · omega
      · simp at he; obtain ⟨rfl, _⟩ := he; exact hc
    rw [sumg_cons] at hs
    by_cases h1 : r ≤ f + e.g + E
    · refine ⟨[], e, es, rfl, ?_⟩
      unfold dist En.wd at *
      simp only [sumg_nil, Nat.add_zero]
      omega
    · have hne : es ≠ [] := by
        intro h
        subst h
        simp [sumg] at hs
        omega
      obtain ⟨A, x, B, hx, hd⟩ := ih (f + e.g) hne (fun e he => hw e (List.mem_cons_of_mem _ he)) (by omega) hr (Or.inl (by omega))
      refine ⟨e :: A, x, B, by rw [hx]; rfl, ?_⟩
      rw [sumg_cons, ← Nat.add_assoc]
      exact hd
theorem pick {l : List Int} {r : Nat} {y : Int} {m : Int} {E : Nat} (h : Gd l r y m) (hm : m ≤ E) : ∃ k : Nat, (r : Int) - E ≤ k ∧ k ≤ r + E ∧ ltc l y < k ∧ k ≤ lec l y := by
  obtain ⟨h1, F, G, h2, h3, h4, h5, h6⟩ := h
  exact ⟨max (ltc l y + 1) F, by omega, by omega, by omega, by omega⟩
theorem near_ok {inv : Nat} {l : List Int} {es : List (En Int)} (h : Gk inv l es) {r : Nat} (h1 : 1 ≤ r) (hr : r ≤ l.length) :
    (∃ k : Nat, (r : Int) - (l.length / inv : Nat) ≤ k ∧ k ≤ r + l.length / inv ∧ ltc l (nearE 0 r es) < k ∧ k ≤ lec l (nearE 0 r es)) ∧
    (r = 1 ∨ r = l.length → ltc l (nearE 0 r es) < r ∧ r ≤ lec l (nearE 0 r es)) := by
  have hne : es ≠ [] := by
    intro he
    subst he
    have := h.fit.sum
    simp [sumg] at this
    omega
  obtain ⟨y, m, hy⟩ : ∃ y m, nearGo r 0 none es = some (y, m) := by
    cases es with
    | nil => exact absurd rfl hne
    | cons e t =>
      have : ∀ (t : List (En Int)) f v m, ∃ y m', nearGo r f (some (v, m)) t = some (y, m') := by
        intro t
        induction t with
        | nil => intro f v m; exact ⟨v, m, rfl⟩
        | cons e t ih =>
          intro f v m
          simp only [nearGo]
          split <;> exact ih _ _ _
      exact this t _ _ _
  have hn : nearE 0 r es = y := by unfold nearE; rw [hy]
  rw [hn]
  have hg := near_good es 0 none h.ok (fun _ _ h => by cases h) y m hy
  have hmin := (near_min es 0 none y m hy).2
  obtain ⟨e0, t0, he0⟩ : ∃ e t, es = e :: t := by
    cases es with
    | nil => exact absurd rfl hne
    | cons e t => exact ⟨e, t, rfl⟩
  have hh := h.fit.head e0 t0 he0
  refine ⟨?_, fun hc => ?_⟩
  · obtain ⟨A, e, B, hx, hd⟩ := some_near (r := r) (E := l.length / inv) es 0 hne (fun e he => by
      have h2 := h.wide e he
      unfold wid at h2
      have h3 : 2 * l.length / inv ≤ 2 * (l.length / inv) + 1 := by
        rcases Nat.eq_zero_or_pos inv with h0 | h0
        · subst h0; simp
        · have := Nat.div_add_mod l.length inv
          have h5 := Nat.mod_lt l.length h0
          have h6 : 2 * l.length / inv < 2 * (l.length / inv) + 2 := by
            rw [Nat.div_lt_iff_lt_mul h0]
            have : (2 * (l.length / inv) + 2) * inv = 2 * (inv * (l.length / inv)) + 2 * inv := by
              rw [Nat.add_mul, Nat.mul_assoc, Nat.mul_comm (l.length / inv) inv]
            omega
          omega
      omega) (by rw [Nat.zero_add]; exact h.fit.sum) hr (Or.inr ⟨e0, t0, he0, Nat.le_trans (show 0 + e0.wd ≤ r by unfold En.wd; omega) (Nat.le_add_right _ _)⟩)
    have hmm := hmin A e B hx
    exact pick hg (by omega)
  · have h0 : m ≤ ((0 : Nat) : Int) := by
      rcases hc with hc | hc
      · have := hmin [] e0 t0 he0
        unfold dist at this
        simp only [sumg_nil, Nat.add_zero] at this
        omega
      · rcases List.eq_nil_or_concat es with he | ⟨A, e, he⟩
        · exact absurd he hne
        · have hl := h.fit.last A e (by simpa using he)
          have := hmin A e [] (by simpa using he)
          have hs := h.fit.sum
          rw [he] at hs
          simp only [List.concat_eq_append, sumg_app, sumg_cons, sumg_nil] at hs
          unfold dist at this
          omega
    obtain ⟨k, k1, k2, k3, k4⟩ := pick hg h0
    have : k = r := by omega
    subst this
    exact ⟨k3, k4⟩

/-- a row that rises, of the same numbers: where a number lies -/
theorem place_of {l row : List Int} (hp : row.Perm l) (hs : row.Pairwise (· ≤ ·)) {y : Int} {k : Nat} (h1 : ltc l y < k) (h2 : k ≤ lec l y) : row.getD (k - 1) 0 = y := by
  have e1 : ltc l y = ltc row y := by unfold ltc; exact (hp.countP_eq _).symm
  have e2 : lec l y = lec row y := by unfold lec; exact (hp.countP_eq _).symm
  rw [e1] at h1
  rw [e2] at h2
  clear e1 e2 hp
  induction row generalizing k with
  | nil => simp [lec] at h2; omega
  | cons a row ih =>
    have hs' := List.pairwise_cons.1 hs
    have c1 : ltc (a :: row) y = ltc row y + if a < y then 1 else 0 := by unfold ltc; rw [List.countP_cons]; simp
    have c2 : lec (a :: row) y = lec row y + if a ≤ y then 1 else 0 := by unfold lec; rw [List.countP_cons]; simp
    rw [c1] at h1
    rw [c2] at h2
    by_cases ha : a < y
    · rw [if_pos ha] at h1
      rw [if_pos (by omega)] at h2
      obtain ⟨j, rfl⟩ : ∃ j, k = j + 1 := ⟨k - 1, by omega⟩
      have := ih hs'.2 (k := j) (by omega) (by omega)
      obtain ⟨i, rfl⟩ : ∃ i, j = i + 1 := ⟨j - 1, by omega⟩
      simpa using this
    · rw [if_neg ha] at h1
      by_cases hay : a = y
      · subst hay
        by_cases hk : k = 1
        · subst hk; simp
        · obtain ⟨j, rfl⟩ : ∃ j, k = j + 1 := ⟨k - 1, by omega⟩
          rw [if_pos (by omega)] at h2
          obtain ⟨i, rfl⟩ : ∃ i, j = i + 1 := ⟨j - 1, by omega⟩
          have hz : ltc row a = 0 := by
            unfold ltc
            rw [List.countP_eq_zero]
            intro z hz
            have := hs'.1 z hz
            simp; omega
          have := ih hs'.2 (k := i + 1) (by omega) (by omega)
          simpa using this
      · rw [if_neg (by omega)] at h2
        have hz : lec row y = 0 := by
          unfold lec
          rw [List.countP_eq_zero]
          intro z hz
          have := hs'.1 z hz
          simp; omega
        omega
end Go.Proofs.Ytgiifedljebclaa
