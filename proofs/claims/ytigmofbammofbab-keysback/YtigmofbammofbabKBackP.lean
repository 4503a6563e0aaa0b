/- What is coded is read back; beginnings of codes. -/
import Derived.Test.YtigmofbammofbabKDecP
import Derived.Test.YtigmofbammofbabKSort
namespace Go.Proofs.Ytigmofbammofbab
open Go

theorem canon_canon (n : Nat) : canon (canon n) = canon n := by
  unfold canon
  by_cases h : nanB n
  · rw [if_pos h]; split <;> rfl
  · rw [if_neg h, if_neg h]
theorem back_turn {n : Nat} (h : n < 18446744073709551616) : backN (turnN n) = n := by
  unfold turnN backN top
  by_cases h1 : n < 9223372036854775808
  · rw [if_pos h1, if_neg (by omega)]; omega
  · rw [if_neg h1, if_pos (by omega)]; omega
theorem takeW_be8 {m : Nat} (h : m < 18446744073709551616) (t : List Nat) : takeW (be8 m ++ t) = some (m, t) := by
  unfold takeW
  rw [if_neg (by simp [be8_length])]
  have h1 : (be8 m ++ t).take 8 = be8 m := by rw [List.take_append_of_le_length (by rw [be8_length]; omega), List.take_of_length_le (by rw [be8_length]; omega)]
  have h2 : (be8 m ++ t).drop 8 = t := by rw [List.drop_append_of_le_length (by rw [be8_length]; omega), List.drop_of_length_le (by rw [be8_length]; omega), List.nil_append]
  rw [h1, h2, word_be8 m h]
theorem takeF_be8 {n : Nat} (h : n < 18446744073709551616) (t : List Nat) : takeF (be8 (placeR n) ++ t) = some (canon n, t) := by
  unfold takeF
  rw [takeW_be8 (placeR_lt h)]
  have h1 : backN (placeR n) = canon n := by unfold placeR; exact back_turn (canon_lt h)
  simp only
  rw [h1, if_pos (by unfold placeR; rw [canon_canon])]
/-- what may stand behind a row -/
def endsR (t : List Nat) : Prop := t = [] ∨ ∃ s, t = 0 :: s
theorem takeT_esc_end (x : List Nat) (t : List Nat) (h : ∀ y s, t = y :: s → y ≠ 255) : takeT (esc x ++ 0 :: t) = some (x, t) := by
  induction x with
  | nil =>
    simp only [esc, List.nil_append]
    cases t with
    | nil => exact takeT_end0
    | cons y s => exact takeT_end y s (h y s rfl)
  | cons b x ih =>
    unfold esc
    by_cases hb : b = 0
    · subst hb
      rw [if_pos rfl, List.cons_append, List.cons_append, takeT_esc, ih]
      rfl
    · rw [if_neg hb, List.cons_append, takeT_byte b _ hb, ih]
      rfl
theorem code_head {r : Row} (hf : fine r) {t : List Nat} (ht : endsR t) : ∀ y s, codeR r ++ t = y :: s → y ≤ 7 := by
  intro y s h
  cases r with
  | nil =>
    rcases ht with rfl | ⟨u, rfl⟩
    · cases h
    · cases h; omega
  | cons x p r =>
    rw [codeR_cons, List.cons_append, List.cons_append] at h
    have h1 := hf.1
    have h2 := hf.2.1
    injection h with h3 _
    omega
theorem take_code (r : Row) : ∀ (f d : Nat) (t : List Nat), okR r → faultR r d = 0 → endsR t → (codeR r ++ t).length < f → takeR f (codeR r ++ t) d = .ok (cleanR r, t) := by
  induction r with
  | nil =>
    intro f d t _ _ ht hl
    obtain ⟨f, rfl⟩ : ∃ g, f = g + 1 := ⟨f - 1, by omega⟩
    rcases ht with rfl | ⟨s, rfl⟩
    · exact takeR_nil f d
    · exact takeR_end f d s
  | cons h p r ihp ihr =>
    intro f d t hok hf ht hl
    obtain ⟨f, rfl⟩ : ∃ g, f = g + 1 := ⟨f - 1, by omega⟩
    have hfine := fine_of_fault hf
    obtain ⟨hk1, hk7, hfp, hfr⟩ := hfine
    have hfl := hf
    rw [faultR_cons] at hf
    rw [if_neg (by omega)] at hf
    have hrf : faultR r d = 0 := by
      by_cases h7 : h.kind = 7
      · rw [if_pos h7] at hf
        split at hf
        · omega
        · split at hf
          · rename_i hh; exact absurd hf hh
          · exact hf
      · rw [if_neg h7] at hf; exact hf
    obtain ⟨hoh, hop, hor⟩ := hok
    have hhead := code_head hfr ht
    rw [codeR_cons, List.cons_append, List.cons_append, List.append_assoc] at hl ⊢
    simp only [List.length_cons, List.length_append] at hl
    have hkn : h.kind.toNat ≠ 0 := by omega
    rw [takeR_succ _ _ _ _ hkn]
    have hih := ihr f d t hor hrf ht (by simp only [List.length_append]; omega)
    have hV : takeV (takeR f (body h (codeR p) ++ (codeR r ++ t)) (d + 1)) h.kind.toNat (body h (codeR p) ++ (codeR r ++ t)) d = .ok (cleanH h, (if h.kind = 7 then cleanR p else .nil), codeR r ++ t) := by
      obtain ⟨o1, o2, o3, o4, o5, o6, o7, o8⟩ := hoh
      obtain e | e | e | e | e | e | e : h.kind = 1 ∨ h.kind = 2 ∨ h.kind = 3 ∨ h.kind = 4 ∨ h.kind = 5 ∨ h.kind = 6 ∨ h.kind = 7 := by omega
      · simp [takeV, cleanH, body, e]
      · have hb : takeB (bitOf h.b :: (codeR r ++ t)) = some (h.b, codeR r ++ t) := by cases h.b <;> simp [takeB, bitOf]
        simp [takeV, cleanH, body, e, hb, liftO]
      · have hw := takeW_be8 (m := placeI h.n) (by unfold placeI; omega) (codeR r ++ t)
        have hi : intA (placeI h.n) = h.n := by unfold intA placeI; omega
        simp [takeV, cleanH, body, e, hw, liftO, hi]
      · have hw := takeF_be8 o5 (codeR r ++ t)
        simp [takeV, cleanH, body, e, hw, liftO]
      · have hw := takeF_be8 o6 (be8 (placeR h.im) ++ (codeR r ++ t))
        have hw2 := takeF_be8 o7 (codeR r ++ t)
        simp [takeV, cleanH, body, e, takeP, hw, hw2, liftO]
      · have hw := takeT_esc_end h.text (codeR r ++ t) (fun y s hy => by have := hhead y s hy; omega)
        simp [takeV, cleanH, body, e, hw, liftO]
      · have hd16 : d ≠ 16 ∧ faultR p (d + 1) = 0 := by
          rw [if_pos e] at hf
          split at hf
          · omega
          · rename_i hd
            split at hf
            · rename_i hh; exact absurd hf hh
            · rename_i hh; exact ⟨hd, Decidable.of_not_not hh⟩
        have hbl : (body h (codeR p)).length = (codeR p).length + 1 := by simp [body, e]
        have hip := ihp f (d + 1) (0 :: (codeR r ++ t)) hop hd16.2 (Or.inr ⟨_, rfl⟩) (by simp only [List.length_append, List.length_cons]; omega)
        simp [takeV, cleanH, body, e, hip, liftU, takeU, hd16.1]
    rw [hV]
    simp only
    rw [hih]
    rfl
theorem dec_code {r : Row} (hok : okR r) (hf : faultR r 0 = 0) : decR (codeR r) = .ok (cleanR r) := by
  have h := take_code r ((codeR r).length + 1) 0 [] hok hf (Or.inl rfl) (by simp)
  rw [List.append_nil] at h
  unfold decR
  rw [h]
  simp
theorem cleanR_len (r : Row) : (cleanR r).len = r.len := by
  induction r with
  | nil => rfl
  | cons h p r _ ih => simp [cleanR, Row.len, ih]

/-! beginnings -/
theorem takeW_ext {t r : List Nat} {m : Nat} (u : List Nat) (h : takeW t = some (m, r)) : takeW (t ++ u) = some (m, r ++ u) := by
  unfold takeW at h ⊢
  split at h
  · cases h
  · cases h
    rw [if_neg (by simp; omega), List.take_append_of_le_length (by omega), List.drop_append_of_le_length (by omega)]
theorem takeF_ext {t r : List Nat} {m : Nat} (u : List Nat) (h : takeF t = some (m, r)) : takeF (t ++ u) = some (m, r ++ u) := by
  unfold takeF at h ⊢
  cases hw : takeW t with
  | none => rw [hw] at h; cases h
  | some x =>
    obtain ⟨a, b⟩ := x
    rw [hw] at h
    rw [takeW_ext u hw]
    simp only at h ⊢
    split at h
    · rename_i hc; cases h; rw [if_pos hc]
    · cases h
theorem takeP_ext {t r : List Nat} {m : Nat × Nat} (u : List Nat) (h : takeP t = some (m, r)) : takeP (t ++ u) = some (m, r ++ u) := by
  unfold takeP at h ⊢
  cases hw : takeF t with
  | none => rw [hw] at h; cases h
  | some x =>
    obtain ⟨a, b⟩ := x
    rw [hw] at h
    rw [takeF_ext u hw]
    simp only at h ⊢
    cases hw2 : takeF b with
    | none => rw [hw2] at h; cases h
    | some y =>
      obtain ⟨c, d⟩ := y
      rw [hw2] at h
      rw [takeF_ext u hw2]
      simp only at h ⊢
      cases h; rfl
theorem takeT_ext {t : List Nat} (u : List Nat) : ∀ {x r : List Nat}, takeT t = some (x, r) → r ≠ [] → takeT (t ++ u) = some (x, r ++ u) := by
  induction t using takeT.induct with
  | case1 => intro x r h; simp [takeT] at h
  | case2 t ih =>
    intro x r h hr
    rw [takeT_esc] at h
    cases ht : takeT t with
    | none => rw [ht] at h; cases h
    | some y =>
      rw [ht] at h
      cases h
      rw [List.cons_append, List.cons_append, takeT_esc, ih ht hr]
      rfl
  | case3 t hn =>
    intro x r h hr
    have h' : takeT (0 :: t) = some ([], t) := by
      cases t with
      | nil => exact takeT_end0
      | cons y t => exact takeT_end y t (fun e => by subst e; exact hn t rfl)
    rw [h'] at h
    cases h
    cases t with
    | nil => exact absurd rfl hr
    | cons y t =>
      rw [List.cons_append, List.cons_append]
      exact takeT_end y _ (fun e => by subst e; exact hn t rfl)
  | case4 b t h1 h2 ih =>
    intro x r h hr
    have hb0 : b ≠ 0 := fun e => by subst e; exact h2 rfl
    rw [takeT_byte b t hb0] at h
    cases ht : takeT t with
    | none => rw [ht] at h; cases h
    | some y =>
      rw [ht] at h
      cases h
      rw [List.cons_append, takeT_byte b _ hb0, ih ht hr]
      rfl
/-- a value at a beginning: the same in the whole, or it ends where the beginning does -/
theorem takeV_ext {f n k d : Nat} {t u : List Nat} {h : Hd} {p : Row} {rest : List Nat} (hE : ∀ r y s, takeR f t (d + 1) = .ok (r, y :: s) → takeR (f + n) (t ++ u) (d + 1) = .ok (r, y :: s ++ u)) (hv : takeV (takeR f t (d + 1)) k t d = .ok (h, p, rest)) : rest = [] ∨ takeV (takeR (f + n) (t ++ u) (d + 1)) k (t ++ u) d = .ok (h, p, rest ++ u) := by
  rcases takeV_ok hv with ⟨rfl, rfl, rfl, rfl⟩ | ⟨rfl, x, hx, rfl, rfl⟩ | ⟨rfl, x, hx, rfl, rfl⟩ | ⟨rfl, x, hx, rfl, rfl⟩ | ⟨rfl, x, hx, rfl, rfl⟩ | ⟨rfl, x, hx, rfl, rfl⟩ | ⟨rfl, rfl, hd, y, hy⟩
  · exact Or.inr rfl
  · refine Or.inr ?_
    cases t with
    | nil => cases hx
    | cons z t =>
      have hz : takeB (z :: (t ++ u)) = some (x, rest ++ u) := by
        simp only [takeB] at hx ⊢
        by_cases hc : 1 < z
        · rw [if_pos hc] at hx; cases hx
        · rw [if_neg hc] at hx ⊢
          cases hx
          rfl
      simp [takeV, hz, liftO]
  · exact Or.inr (by simp [takeV, takeW_ext u hx, liftO])
  · exact Or.inr (by simp [takeV, takeF_ext u hx, liftO])
  · exact Or.inr (by simp [takeV, takeP_ext u hx, liftO])
  · by_cases hr : rest = []
    · exact Or.inl hr
    · exact Or.inr (by simp [takeV, takeT_ext u hx hr, liftO])
  · refine Or.inr ?_
    have := hE p y rest hy
    simp [takeV, this, liftU, takeU, hd]
theorem takeV_err41 {rec : Except Nat (Row × List Nat)} {k d : Nat} {t : List Nat} (e : takeV rec k t d = .error 41) : k = 7 ∧ (d = 16 ∨ rec = .error 41) := by
  unfold takeV at e
  split at e
  · cases e
  split at e
  · exact absurd (liftO_err e).1 (by omega)
  split at e
  · exact absurd (liftO_err e).1 (by omega)
  split at e
  · exact absurd (liftO_err e).1 (by omega)
  split at e
  · exact absurd (liftO_err e).1 (by omega)
  split at e
  · exact absurd (liftO_err e).1 (by omega)
  split at e
  · rename_i h7
    refine ⟨h7, ?_⟩
    have e2 := liftU_err e
    unfold takeU at e2
    split at e2
    · exact Or.inl ‹_›
    · split at e2
      · rename_i hr; cases e2; exact Or.inr rfl
      · split at e2
        · cases e2
        · cases e2
  · cases e
theorem takeR_ext (f : Nat) : ∀ (t u : List Nat) (d : Nat), t.length < f →
    (takeR f t d = .error 41 → takeR (f + u.length) (t ++ u) d = .error 41) ∧
    (∀ r y s, takeR f t d = .ok (r, y :: s) → takeR (f + u.length) (t ++ u) d = .ok (r, y :: s ++ u)) ∧
    (∀ r r' s', takeR f t d = .ok (r, []) → takeR (f + u.length) (t ++ u) d = .ok (r', s') → r.len ≤ r'.len) := by
  induction f with
  | zero => intro t u d h; omega
  | succ f ih =>
    intro t u d hl
    rw [show f + 1 + u.length = (f + u.length) + 1 by omega]
    cases t with
    | nil =>
      rw [takeR_nil]
      refine ⟨fun h => (by cases h), fun r y s h => (by cases h), fun r r' s' h _ => ?_⟩
      cases h
      simp [Row.len]
    | cons k t =>
      simp only [List.length_cons] at hl
      by_cases hk : k = 0
      · subst hk
        rw [List.cons_append, takeR_end, takeR_end]
        refine ⟨fun h => (by cases h), fun r y s h => ?_, fun r r' s' h _ => (by cases h)⟩
        cases h; rfl
      · rw [List.cons_append, takeR_succ _ _ _ _ hk, takeR_succ _ _ _ _ hk]
        obtain ⟨ia, ib, ic⟩ := ih t u (d + 1) (by omega)
        cases hv : takeV (takeR f t (d + 1)) k t d with
        | error e =>
          refine ⟨fun h => ?_, fun r y s h => (by cases h), fun r r' s' h _ => (by cases h)⟩
          have he : e = 41 := by cases h; rfl
          subst he
          obtain ⟨h7, hh⟩ := takeV_err41 hv
          subst h7
          rcases hh with hh | hh
          · simp [takeV, takeU, hh, liftU]
          · by_cases hd : d = 16
            · simp [takeV, takeU, hd, liftU]
            · simp [takeV, takeU, hd, liftU, ia hh]
        | ok x =>
          obtain ⟨h, p, rest⟩ := x
          have hrl : rest.length ≤ t.length := takeV_len hv (fun q x hq => takeR_len hq)
          obtain ⟨ja, jb, jc⟩ := ih rest u d (by omega)
          rcases takeV_ext (n := u.length) (u := u) ib hv with hr | hv'
          · subst hr
            obtain ⟨f', rfl⟩ : ∃ g, f = g + 1 := ⟨f - 1, by omega⟩
            simp only
            rw [takeR_nil]
            refine ⟨fun h => (by cases h), fun r y s h => (by cases h), fun r r' s' h1 h2 => ?_⟩
            cases h1
            cases hv2 : takeV (takeR (f' + 1 + u.length) (t ++ u) (d + 1)) k (t ++ u) d with
            | error e => rw [hv2] at h2; cases h2
            | ok z =>
              obtain ⟨h', p', rest'⟩ := z
              rw [hv2] at h2
              simp only at h2
              cases hv3 : takeR (f' + 1 + u.length) rest' d with
              | error e => rw [hv3] at h2; cases h2
              | ok z2 =>
                obtain ⟨r2, s2⟩ := z2
                rw [hv3] at h2
                cases h2
                simp [Row.len]
          · rw [hv']
            simp only
            cases hr1 : takeR f rest d with
            | error e =>
              refine ⟨fun h => ?_, fun r y s h => (by cases h), fun r r' s' h _ => (by cases h)⟩
              have he : e = 41 := by cases h; rfl
              subst he
              rw [ja hr1]
            | ok z =>
              obtain ⟨r1, s1⟩ := z
              refine ⟨fun h => (by cases h), fun r y s h => ?_, fun r r' s' h1 h2 => ?_⟩
              · cases h
                rw [jb r1 y s hr1]
              · cases h1
                cases hr2 : takeR (f + u.length) (rest ++ u) d with
                | error e => rw [hr2] at h2; cases h2
                | ok z2 =>
                  obtain ⟨r2, s2⟩ := z2
                  rw [hr2] at h2
                  cases h2
                  have := jc r1 r2 s' hr1 hr2
                  simp only [Row.len]
                  omega
theorem cmpL_prefix (a : List Nat) (x : Nat) (b : List Nat) : cmpL a (a ++ x :: b) = -1 := by
  induction a with
  | nil => rfl
  | cons y a ih => simp [cmpL, ih]
/-- a beginning of a code: the code of none, or of a row that comes ahead -/
theorem begin_code {r : Row} (hok : okR r) (hf : faultR r 0 = 0) {j : Nat} (hj : j < (codeR r).length) : decR ((codeR r).take j) = .error 40 ∨ ∃ s, decR ((codeR r).take j) = .ok s ∧ s.len ≤ r.len ∧ cmpL ((codeR r).take j) (codeR r) = -1 := by
  have hall := dec_code hok hf
  have hl : ((codeR r).take j).length = j := by simp; omega
  have hsplit := List.take_append_drop j (codeR r)
  obtain ⟨ea, eb, ec⟩ := takeR_ext (j + 1) ((codeR r).take j) ((codeR r).drop j) 0 (by omega)
  have hfu : j + 1 + ((codeR r).drop j).length = (codeR r).length + 1 := by simp; omega
  rw [hfu, hsplit] at ea eb ec
  have hp : takeR ((codeR r).length + 1) (codeR r) 0 = .ok (cleanR r, []) := by
    have h := take_code r ((codeR r).length + 1) 0 [] hok hf (Or.inl rfl) (by simp)
    rwa [List.append_nil] at h
  have hdd : decR ((codeR r).take j) = match takeR (j + 1) ((codeR r).take j) 0 with | .error e => .error e | .ok (r, rest) => if rest = [] then .ok r else .error 40 := by
    unfold decR
    rw [hl]
    rfl
  rw [hdd]
  cases ht : takeR (j + 1) ((codeR r).take j) 0 with
  | error e =>
    rcases takeR_err ht (by omega) with rfl | rfl
    · exact Or.inl rfl
    · have := ea ht
      rw [hp] at this
      cases this
  | ok x =>
    obtain ⟨s, rest⟩ := x
    cases rest with
    | nil =>
      refine Or.inr ⟨s, rfl, ?_, ?_⟩
      · have := ec s _ _ ht hp
        rwa [cleanR_len] at this
      · have h1 : (codeR r).drop j = (codeR r).getD j 0 :: (codeR r).drop (j + 1) := drop_at (codeR r) j hj
        have h2 : codeR r = (codeR r).take j ++ (codeR r).getD j 0 :: (codeR r).drop (j + 1) := by rw [← h1, hsplit]
        have h3 := cmpL_prefix ((codeR r).take j) ((codeR r).getD j 0) ((codeR r).drop (j + 1))
        rwa [← h2] at h3
    | cons y rest => exact Or.inl rfl
end Go.Proofs.Ytigmofbammofbab
