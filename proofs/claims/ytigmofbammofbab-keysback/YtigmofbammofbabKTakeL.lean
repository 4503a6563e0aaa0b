/- What is behind what was read is no longer; its faults are two. -/
import Derived.Test.YtigmofbammofbabKTakeV1
import Derived.Test.YtigmofbammofbabKTakeV2
import Derived.Test.YtigmofbammofbabKTakeV3
import Derived.Test.YtigmofbammofbabKTakeV4
import Derived.Test.YtigmofbammofbabKTakeV5
import Derived.Test.YtigmofbammofbabKTakeV6
import Derived.Test.YtigmofbammofbabKTakeV7
import Derived.Test.YtigmofbammofbabKTakeV8
namespace Go.Proofs.Ytigmofbammofbab
open Go.RowKit

theorem takeB_len {t r : List Nat} {x : Bool} (h : takeB t = some (x, r)) : r.length ≤ t.length := by
  unfold takeB at h
  split at h
  · cases h
  · split at h
    · cases h
    · cases h; simp
theorem takeW_len {t r : List Nat} {x : Nat} (h : takeW t = some (x, r)) : r.length ≤ t.length := by
  unfold takeW at h
  split at h
  · cases h
  · cases h; simp
theorem takeF_len {t r : List Nat} {x : Nat} (h : takeF t = some (x, r)) : r.length ≤ t.length := by
  unfold takeF at h
  split at h
  · cases h
  · rename_i hw
    split at h
    · cases h; exact takeW_len hw
    · cases h
theorem takeP_len {t r : List Nat} {x : Nat × Nat} (h : takeP t = some (x, r)) : r.length ≤ t.length := by
  unfold takeP at h
  split at h
  · cases h
  · rename_i hw
    split at h
    · cases h
    · rename_i hw2
      cases h
      have := takeF_len hw
      have := takeF_len hw2
      omega
theorem takeT_len {t r x : List Nat} (h : takeT t = some (x, r)) : r.length ≤ t.length := by
  induction t using takeT.induct generalizing x with
  | case1 => simp [takeT] at h
  | case2 t ih =>
    rw [takeT_esc] at h
    cases ht : takeT t with
    | none => rw [ht] at h; cases h
    | some y =>
      rw [ht] at h
      cases h
      have := ih ht
      simp; omega
  | case3 t hn =>
    have h' : takeT (0 :: t) = some ([], t) := by
      cases t with
      | nil => exact takeT_end0
      | cons y t => exact takeT_end y t (fun e => by subst e; exact hn t rfl)
    rw [h'] at h
    cases h
    simp
  | case4 b t h1 h2 ih =>
    have hb0 : b ≠ 0 := fun e => by subst e; exact h2 rfl
    rw [takeT_byte b t hb0] at h
    cases ht : takeT t with
    | none => rw [ht] at h; cases h
    | some y =>
      rw [ht] at h
      cases h
      have := ih ht
      simp; omega
theorem liftO_ok {α : Type} {f : α → Hd} {o : Option (α × List Nat)} {h : Hd} {p : Row} {r : List Nat} (e : liftO f o = .ok (h, p, r)) : ∃ x, o = some (x, r) ∧ h = f x ∧ p = .nil := by
  cases o with
  | none => cases e
  | some y => obtain ⟨a, b⟩ := y; cases e; exact ⟨a, rfl, rfl, rfl⟩
theorem liftO_err {α : Type} {f : α → Hd} {o : Option (α × List Nat)} {n : Nat} (e : liftO f o = .error n) : n = 40 ∧ o = none := by
  cases o with
  | none => cases e; exact ⟨rfl, rfl⟩
  | some y => obtain ⟨a, b⟩ := y; cases e
theorem takeU_ok {rec : Except Nat (Row × List Nat)} {d : Nat} {r : Row} {x : List Nat} (h : takeU rec d = .ok (r, x)) : d ≠ 16 ∧ ∃ y, rec = .ok (r, y :: x) := by
  unfold takeU at h
  split at h
  · cases h
  · rename_i hd
    split at h
    · cases h
    · split at h
      · cases h
      · cases h; exact ⟨hd, _, rfl⟩
theorem takeU_err {rec : Except Nat (Row × List Nat)} {d : Nat} {n : Nat} (h : takeU rec d = .error n) (hE : ∀ n, rec = .error n → n = 40 ∨ n = 41) : n = 40 ∨ n = 41 := by
  unfold takeU at h
  split at h
  · cases h; exact Or.inr rfl
  · split at h
    · cases h; exact hE _ rfl
    · split at h
      · cases h; exact Or.inl rfl
      · cases h
theorem liftU_ok {o : Except Nat (Row × List Nat)} {h : Hd} {p : Row} {r : List Nat} (e : liftU o = .ok (h, p, r)) : o = .ok (p, r) ∧ h = hd0 7 := by
  cases o with
  | error n => cases e
  | ok y => obtain ⟨a, b⟩ := y; cases e; exact ⟨rfl, rfl⟩
theorem liftU_err {o : Except Nat (Row × List Nat)} {n : Nat} (e : liftU o = .error n) : o = .error n := by
  cases o with
  | error n => cases e; rfl
  | ok y => obtain ⟨a, b⟩ := y; cases e
/-- the ways of takeV -/
theorem takeV_ok {rec : Except Nat (Row × List Nat)} {k d : Nat} {t : List Nat} {h : Hd} {p : Row} {r : List Nat} (e : takeV rec k t d = .ok (h, p, r)) :
    (k = 1 ∧ h = hd0 1 ∧ p = .nil ∧ r = t) ∨ (k = 2 ∧ ∃ x, takeB t = some (x, r) ∧ h = { hd0 2 with b := x } ∧ p = .nil) ∨ (k = 3 ∧ ∃ x, takeW t = some (x, r) ∧ h = { hd0 3 with n := intA x } ∧ p = .nil) ∨ (k = 4 ∧ ∃ x, takeF t = some (x, r) ∧ h = { hd0 4 with re := x } ∧ p = .nil) ∨ (k = 5 ∧ ∃ x, takeP t = some (x, r) ∧ h = { hd0 5 with pr := x.1, im := x.2 } ∧ p = .nil) ∨ (k = 6 ∧ ∃ x, takeT t = some (x, r) ∧ h = { hd0 6 with text := x } ∧ p = .nil) ∨ (k = 7 ∧ h = hd0 7 ∧ d ≠ 16 ∧ ∃ y, rec = .ok (p, y :: r)) := by
  unfold takeV at e
  split at e
  · cases e; exact Or.inl ⟨‹_›, rfl, rfl, rfl⟩
  split at e
  · exact Or.inr (Or.inl ⟨‹_›, liftO_ok e⟩)
  split at e
  · exact Or.inr (Or.inr (Or.inl ⟨‹_›, liftO_ok e⟩))
  split at e
  · exact Or.inr (Or.inr (Or.inr (Or.inl ⟨‹_›, liftO_ok e⟩)))
  split at e
  · exact Or.inr (Or.inr (Or.inr (Or.inr (Or.inl ⟨‹_›, liftO_ok e⟩))))
  split at e
  · exact Or.inr (Or.inr (Or.inr (Or.inr (Or.inr (Or.inl ⟨‹_›, liftO_ok e⟩)))))
  split at e
  · obtain ⟨e1, e2⟩ := liftU_ok e
    obtain ⟨e3, e4⟩ := takeU_ok e1
    exact Or.inr (Or.inr (Or.inr (Or.inr (Or.inr (Or.inr ⟨‹_›, e2, e3, e4⟩)))))
  · cases e
theorem takeV_err {rec : Except Nat (Row × List Nat)} {k d : Nat} {t : List Nat} {n : Nat} (e : takeV rec k t d = .error n) (hE : ∀ n, rec = .error n → n = 40 ∨ n = 41) : n = 40 ∨ n = 41 := by
  unfold takeV at e
  split at e
  · cases e
  split at e
  · exact Or.inl (liftO_err e).1
  split at e
  · exact Or.inl (liftO_err e).1
  split at e
  · exact Or.inl (liftO_err e).1
  split at e
  · exact Or.inl (liftO_err e).1
  split at e
  · exact Or.inl (liftO_err e).1
  split at e
  · exact takeU_err (liftU_err e) hE
  · cases e; exact Or.inl rfl
theorem takeV_len {rec : Except Nat (Row × List Nat)} {k d : Nat} {t : List Nat} {h : Hd} {p : Row} {r : List Nat} (e : takeV rec k t d = .ok (h, p, r)) (hr : ∀ q x, rec = .ok (q, x) → x.length ≤ t.length) : r.length ≤ t.length := by
  rcases takeV_ok e with ⟨_, _, _, rfl⟩ | ⟨_, x, hx, _⟩ | ⟨_, x, hx, _⟩ | ⟨_, x, hx, _⟩ | ⟨_, x, hx, _⟩ | ⟨_, x, hx, _⟩ | ⟨_, _, _, y, hy⟩
  · exact Nat.le_refl _
  · exact takeB_len hx
  · exact takeW_len hx
  · exact takeF_len hx
  · exact takeP_len hx
  · exact takeT_len hx
  · have := hr _ _ hy
    simp at this; omega
theorem takeR_succ (f k d : Nat) (t : List Nat) (hk : k ≠ 0) : takeR (f + 1) (k :: t) d = match takeV (takeR f t (d + 1)) k t d with
    | .error e => .error e
    | .ok (h, p, rest) => match takeR f rest d with
      | .error e => .error e
      | .ok (r, rest') => .ok (.cons h p r, rest') := by
  rw [takeR, if_neg hk]; rfl
theorem takeR_end (f d : Nat) (t : List Nat) : takeR (f + 1) (0 :: t) d = .ok (.nil, 0 :: t) := by rw [takeR, if_pos rfl]
theorem takeR_nil (f d : Nat) : takeR (f + 1) [] d = .ok (.nil, []) := by rw [takeR]
theorem takeR_len {f : Nat} {bs : List Nat} {d : Nat} {r : Row} {rest : List Nat} (h : takeR f bs d = .ok (r, rest)) : rest.length ≤ bs.length := by
  induction f generalizing bs d r rest with
  | zero => cases h
  | succ f ih =>
    cases bs with
    | nil => rw [takeR_nil] at h; cases h; simp
    | cons k t =>
      by_cases hk : k = 0
      · subst hk; rw [takeR_end] at h; cases h; simp
      · rw [takeR_succ _ _ _ _ hk] at h
        split at h
        · cases h
        · rename_i hv
          split at h
          · cases h
          · rename_i hr
            cases h
            have h1 := ih hr
            have h2 := takeV_len hv (fun q x hq => ih hq)
            simp; omega
theorem takeR_err {f : Nat} {bs : List Nat} {d n : Nat} (h : takeR f bs d = .error n) (hl : bs.length < f) : n = 40 ∨ n = 41 := by
  induction f generalizing bs d n with
  | zero => omega
  | succ f ih =>
    cases bs with
    | nil => rw [takeR_nil] at h; cases h
    | cons k t =>
      simp at hl
      by_cases hk : k = 0
      · subst hk; rw [takeR_end] at h; cases h
      · rw [takeR_succ _ _ _ _ hk] at h
        split at h
        · rename_i hv
          cases h
          exact takeV_err hv (fun n hn => ih hn hl)
        · rename_i hv
          split at h
          · rename_i hr
            cases h
            have h2 := takeV_len hv (fun q x hq => takeR_len hq)
            exact ih hr (by omega)
          · cases h

theorem takeValue_any {w : World} {v : Value} {k : Nat} {t : List Nat} {d : Nat} {rec : Except Nat (Row × List Nat)} (hs : Sees w v (k :: t)) (hl : t.length ≤ 1099511627776) (hd : d ≤ 16) (hC : ∀ (w : World) (v : Value), Sees w v t → d ≠ 16 → Calls Try.prog 30 #[v, .int .i64 ((d + 1 : Nat) : Int)] w fun e w' => OutR v.ownBlock rec w.heap.size w' e ∧ Kept [] w w') (hE : ∀ n, rec = .error n → n = 40 ∨ n = 41) :
    Calls Try.prog 36 #[v, .int .i64 (d : Int)] w fun e w' => OutV v.ownBlock (takeV rec k t d) w.heap.size w' e ∧ Kept [] w w' := by
  by_cases h8 : k = 0 ∨ 7 < k
  · exact takeValue_no hs h8
  · obtain rfl | rfl | rfl | rfl | rfl | rfl | rfl : k = 1 ∨ k = 2 ∨ k = 3 ∨ k = 4 ∨ k = 5 ∨ k = 6 ∨ k = 7 := by omega
    · exact takeValue_1 hs
    · exact takeValue_2 hs
    · exact takeValue_3 hs
    · exact takeValue_4 hs
    · exact takeValue_5 hs
    · exact takeValue_6 hs hl
    · exact takeValue_7 hs hd hC hE
end Go.Proofs.Ytigmofbammofbab
