/- How near the answers are: plain arithmetic on lists. -/
import Derived.Test.YtgiifedljebclaaRPlace
namespace Go.Proofs.Ytgiifedljebclaa

def ltc (l : List Int) (v : Int) : Nat := l.countP fun y => decide (y < v)
def lec (l : List Int) (v : Int) : Nat := l.countP fun y => decide (y ≤ v)
theorem ltc_snoc (l : List Int) (x v : Int) : ltc (l ++ [x]) v = ltc l v + if x < v then 1 else 0 := by
  unfold ltc; rw [List.countP_append]; simp [List.countP_cons]
theorem lec_snoc (l : List Int) (x v : Int) : lec (l ++ [x]) v = lec l v + if x ≤ v then 1 else 0 := by
  unfold lec; rw [List.countP_append]; simp [List.countP_cons]
theorem lec_mono (l : List Int) {a b : Int} (h : a ≤ b) : lec l a ≤ lec l b := by
  unfold lec; exact List.countP_mono_left fun y _ hy => by simp at *; omega
theorem ltc_le (l : List Int) (a : Int) : ltc l a ≤ lec l a := by
  unfold lec ltc; exact List.countP_mono_left fun y _ hy => by simp at *; omega
theorem lec_lt (l : List Int) {a b : Int} (h : a < b) : lec l a ≤ ltc l b := by
  unfold lec ltc; exact List.countP_mono_left fun y _ hy => by simp at *; omega
theorem lec_len (l : List Int) (a : Int) : lec l a ≤ l.length := List.countP_le_length

def Okf (l : List Int) : Nat → List (En Int) → Prop
  | _, [] => True
  | f, e :: r => (ltc l e.v < lec l e.v ∧ f + e.g ≤ lec l e.v ∧ ltc l e.v < f + e.wd) ∧ Okf l (f + e.g) r
theorem Okf_app (l : List Int) (a b : List (En Int)) : ∀ f, Okf l f (a ++ b) ↔ Okf l f a ∧ Okf l (f + sumg a) b := by
  induction a with
  | nil => intro f; simp [Okf, sumg]
  | cons e a ih => intro f; simp only [List.cons_append, Okf, ih, sumg_cons, Nat.add_assoc, and_assoc]
theorem Okf_ahead (l : List Int) (x : Int) (a : List (En Int)) : ∀ f, (∀ e ∈ a, e.v ≤ x) → Okf l f a → Okf (l ++ [x]) f a := by
  induction a with
  | nil => intro f _ _; trivial
  | cons e a ih =>
    intro f h ho
    refine ⟨?_, ih _ (fun e he => h e (List.mem_cons_of_mem _ he)) ho.2⟩
    have hx := h e (List.mem_cons_self ..)
    have := ho.1
    rw [ltc_snoc, lec_snoc, if_neg (by omega)]
    omega
theorem Okf_behind (l : List Int) (x : Int) (a : List (En Int)) : ∀ f, (∀ e ∈ a, x < e.v) → Okf l f a → Okf (l ++ [x]) (f + 1) a := by
  induction a with
  | nil => intro f _ _; trivial
  | cons e a ih =>
    intro f h ho
    have h2 := ih _ (fun e he => h e (List.mem_cons_of_mem _ he)) ho.2
    refine ⟨?_, by rwa [show f + e.g + 1 = f + 1 + e.g by omega] at h2⟩
    have hx := h e (List.mem_cons_self ..)
    have := ho.1
    rw [ltc_snoc, lec_snoc, if_pos hx, if_pos (by omega)]
    omega
theorem Okf_sum (l : List Int) (x : Int) (a : List (En Int)) : ∀ f, a ≠ [] → (∀ e ∈ a, e.v ≤ x) → Okf l f a → f + sumg a ≤ lec l x := by
  induction a with
  | nil => intro f h; exact absurd rfl h
  | cons e a ih =>
    intro f _ h ho
    have hx := h e (List.mem_cons_self ..)
    rw [sumg_cons]
    by_cases ha : a = []
    · subst ha
      have := ho.1.2.1
      have := lec_mono l hx
      simp [sumg]
      omega
    · have := ih _ ha (fun e he => h e (List.mem_cons_of_mem _ he)) ho.2
      omega
theorem gtV_false {a b : Int} : gtV a b = false ↔ a ≤ b := by simp [gtV]
theorem gtV_true {a b : Int} : gtV a b = true ↔ b < a := by simp [gtV]

/-- the two halves of a row at a value's place -/
theorem halves {n : Nat} {es : List (En Int)} (h : Fit gtV n es) (x : Int) : (∀ e ∈ es.take (plc gtV es x), e.v ≤ x) ∧ ∀ e ∈ es.drop (plc gtV es x), x < e.v :=
  ⟨fun _ he => gtV_false.1 (mem_take he), fun _ he => gtV_true.1 (mem_drop behindV h.rise he)⟩

theorem okf_add {l : List Int} {n : Nat} {es : List (En Int)} (hn : l.length = n) (h : Fit gtV n es) (ho : Okf l 0 es) (x : Int) : Okf (l ++ [x]) 0 (addE gtV es x) := by
  obtain ⟨hA, hB⟩ := halves h x
  have hg := gap_form (plc_le gtV es x)
  have hes := List.take_append_drop (plc gtV es x) es
  unfold addE insE
  generalize gapO es (plc gtV es x) = gp at *
  generalize es.take (plc gtV es x) = A at *
  generalize es.drop (plc gtV es x) = B at *
  subst hes
  obtain ⟨o1, o2⟩ := (Okf_app l A B 0).1 ho
  have hs := h.sum
  rw [sumg_app] at hs
  have h1 := ltc_le l x
  have h2 := lec_len l x
  refine (Okf_app _ _ _ _).2 ⟨Okf_ahead l x A 0 hA o1, ⟨?_, ?_⟩⟩
  · simp only
    rw [ltc_snoc, lec_snoc, if_neg (by omega), if_pos (by omega)]
    refine ⟨by omega, ?_, ?_⟩
    · by_cases hAe : A = []
      · subst hAe; simp [sumg]
      · have := Okf_sum l x A 0 hAe hA o1
        omega
    · simp only [En.wd]
      cases A with
      | nil =>
        cases B with
        | nil => simp at hg; simp [sumg] at hs; omega
        | cons b B =>
          simp at hg
          have hb := h.head b B rfl
          have := o2.1.2.2
          have := lec_lt l (hB b (List.mem_cons_self ..))
          unfold En.wd at *
          simp [sumg] at *
          omega
      | cons a A =>
        cases B with
        | nil => simp [sumg] at hs hg ⊢; omega
        | cons b B =>
          simp at hg
          have := o2.1.2.2
          have := lec_lt l (hB b (List.mem_cons_self ..))
          have hc := (Cap_app _ _ _).1 h.cap
          have := hc.2.1.1
          unfold En.wd at *
          omega
  · have := Okf_behind l x B _ hB o2
    simpa using this
theorem okf_merge {l : List Int} {f : En Int} {a : List (En Int)} {e h : En Int} {t : List (En Int)} (ho : Okf l 0 (f :: (a ++ e :: h :: t))) : Okf l 0 (f :: (a ++ ⟨h.v, h.g + e.g, h.d⟩ :: t)) := by
  obtain ⟨o1, o2⟩ := (Okf_app l (f :: a) (e :: h :: t) 0).1 (by simpa using ho)
  have : Okf l 0 ((f :: a) ++ (⟨h.v, h.g + e.g, h.d⟩ : En Int) :: t) := by
    refine (Okf_app _ _ _ _).2 ⟨o1, ⟨?_, ?_⟩⟩
    · have := o2.2.1
      unfold En.wd at *
      simp only at *
      omega
    · have := o2.2.2
      simp only
      rw [show 0 + sumg (f :: a) + (h.g + e.g) = 0 + sumg (f :: a) + e.g + h.g by omega]
      exact this
  simpa using this

/-- how wide an entry may be -/
def wid (inv n : Nat) : Nat := max 1 (2 * n / inv)
theorem wid_mono (inv n : Nat) : wid inv n ≤ wid inv (n + 1) := by
  unfold wid
  have : 2 * n / inv ≤ 2 * (n + 1) / inv := Nat.div_le_div_right (by omega)
  omega
theorem wide_add {inv n : Nat} {es : List (En Int)} (hw : ∀ e ∈ es, e.wd ≤ wid inv n) (x : Int) : ∀ e ∈ addE gtV es x, e.wd ≤ wid inv (n + 1) := by
  intro e he
  have hm := wid_mono inv n
  have h1 : 1 ≤ wid inv n := by unfold wid; omega
  unfold addE insE at he
  rcases List.mem_append.1 he with he | he
  · have := hw e (List.mem_of_mem_take he); omega
  · rcases List.mem_cons.1 he with rfl | he
    · simp only [En.wd]
      unfold gapO
      split
      · omega
      · cases hj : es[plc gtV es x]? with
        | none => simp; omega
        | some b => have := hw b (List.mem_of_getElem? hj); simp only; omega
    · have := hw e (List.mem_of_mem_drop he); omega

structure Gk (inv : Nat) (l : List Int) (es : List (En Int)) : Prop where
  fit : Fit gtV l.length es
  ok : Okf l 0 es
  wide : ∀ e ∈ es, e.wd ≤ wid inv l.length
theorem gk_nil (inv : Nat) : Gk inv [] [] := ⟨fit_nil _, trivial, fun _ h => by cases h⟩
theorem gk_step {inv : Nat} {l : List Int} {es : List (En Int)} (h : Gk inv l es) (x : Int) : Gk inv (l ++ [x]) (stepE gtV inv l.length es x) := by
  have hl : (l ++ [x]).length = l.length + 1 := by simp
  have h0 : Gk inv (l ++ [x]) (addE gtV es x) := ⟨by rw [hl]; exact fit_add behindV h.fit x, okf_add rfl h.fit h.ok x, by rw [hl]; exact wide_add h.wide x⟩
  unfold stepE
  split
  · refine press_keep (R := Gk inv (l ++ [x])) (fun f a e h t hf hle => ⟨fit_merge hf.fit, okf_merge hf.ok, fun y hy => ?_⟩) _ h0
    rw [hl]
    rcases List.mem_cons.1 hy with rfl | hy
    · have := hf.wide y (List.mem_cons_self ..); rwa [hl] at this
    · rcases List.mem_append.1 hy with hy | hy
      · have := hf.wide y (List.mem_cons_of_mem _ (List.mem_append_left _ hy)); rwa [hl] at this
      · rcases List.mem_cons.1 hy with rfl | hy
        · unfold wid En.wd at *; simp only; omega
        · have := hf.wide y (List.mem_cons_of_mem _ (List.mem_append_right _ (List.mem_cons_of_mem _ (List.mem_cons_of_mem _ hy)))); rwa [hl] at this
  · exact h0
theorem gk_fold (inv : Nat) (l : List Int) : Gk inv l (foldE gtV inv 0 [] l) := by
  have : ∀ m : List Int, ∀ p es, Gk inv p es → Gk inv (p ++ m) (foldE gtV inv p.length es m) := by
    intro m
    induction m with
    | nil => intro p es h; simpa [foldE] using h
    | cons x m ih =>
      intro p es h
      have := ih (p ++ [x]) _ (gk_step h x)
      simpa [foldE] using this
  simpa using this l [] [] (gk_nil inv)

/-- Below: how many are not above a value -/
theorem below_ok {inv : Nat} {l : List Int} {es : List (En Int)} (h : Gk inv l es) (x : Int) :
    (belowE gtV l.length es x).1 ≤ lec l x ∧ lec l x ≤ (belowE gtV l.length es x).2 ∧ (belowE gtV l.length es x).2 ≤ l.length ∧ (belowE gtV l.length es x).2 - (belowE gtV l.length es x).1 ≤ 2 * l.length / inv - 1 := by
  obtain ⟨hA, hB⟩ := halves h.fit x
  have hes := List.take_append_drop (plc gtV es x) es
  have hd : es[plc gtV es x]? = (es.drop (plc gtV es x)).head? := by rw [List.head?_drop]
  unfold belowE
  rw [hd]
  have hw := h.wide
  have hfit := h.fit
  have hok := h.ok
  clear h hd
  generalize es.take (plc gtV es x) = A at *
  generalize es.drop (plc gtV es x) = B at *
  subst hes
  obtain ⟨o1, o2⟩ := (Okf_app l A B 0).1 hok
  have hs := hfit.sum
  rw [sumg_app] at hs
  have h2 := lec_len l x
  have h1 : sumg A ≤ lec l x := by
    by_cases hAe : A = []
    · subst hAe; simp [sumg]
    · have := Okf_sum l x A 0 hAe hA o1; omega
  cases B with
  | nil => rw [sumg_nil] at hs; simp only [List.head?_nil]; omega
  | cons b B =>
    have h3 := o2.1.2.2
    have h4 := lec_lt l (hB b (List.mem_cons_self ..))
    have h5 := Cap_at A B b 0 hfit.cap
    have h6 := hw b (by simp)
    simp only [List.head?_cons]
    unfold wid at h6
    omega
end Go.Proofs.Ytgiifedljebclaa
