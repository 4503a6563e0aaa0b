/- Rows with one beginning stand side by side. -/
import Derived.Test.YtigmofbammofbaaKSort
namespace Go.Proofs.Ytigmofbammofbaa
open Go.RowKit

/-- the first of a row; the others -/
def Row.take : Nat → Row → Row
  | 0, _ => .nil
  | _ + 1, .nil => .nil
  | n + 1, .cons h p r => .cons h p (r.take n)
def Row.drop : Nat → Row → Row
  | 0, r => r
  | _ + 1, .nil => .nil
  | n + 1, .cons _ _ r => r.drop n
theorem Row.take_drop (n : Nat) (r : Row) : (r.take n).app (r.drop n) = r := by
  induction n generalizing r with
  | zero => rfl
  | succ n ih => cases r with
    | nil => rfl
    | cons h p r => simp only [Row.take, Row.drop, Row.app, ih]
theorem Row.take_len (n : Nat) (r : Row) (h : n ≤ r.len) : (r.take n).len = n := by
  induction n generalizing r with
  | zero => rfl
  | succ n ih => cases r with
    | nil => simp [Row.len] at h
    | cons x p r => simp only [Row.take, Row.len] at *; rw [ih r (by omega)]
theorem Row.take_app (r s : Row) : (r.app s).take r.len = r := by
  induction r with
  | nil => simp [Row.len, Row.take]
  | cons h p r _ ih => simp only [Row.app, Row.len, Row.take, ih]
theorem fine_app {r s : Row} : fine (r.app s) ↔ fine r ∧ fine s := by
  induction r with
  | nil => simp [Row.app, fine]
  | cons h p r _ ih => simp only [Row.app, fine, ih, and_assoc]
theorem okR_app {r s : Row} : okR (r.app s) ↔ okR r ∧ okR s := by
  induction r with
  | nil => simp [Row.app, okR]
  | cons h p r _ ih => simp only [Row.app, okR, ih, and_assoc]
theorem fault_app (r s : Row) (d : Nat) (h : faultR (r.app s) d = 0) : faultR r d = 0 ∧ faultR s d = 0 := by
  induction r with
  | nil => exact ⟨rfl, h⟩
  | cons x p r _ ih =>
    simp only [Row.app] at h
    rw [faultR_cons] at h ⊢
    split at h
    · omega
    · rename_i h1
      rw [if_neg h1]
      split at h
      · rename_i h7
        rw [if_pos h7]
        split at h
        · omega
        · rename_i hd
          rw [if_neg hd]
          split at h
          · rename_i hp; exact absurd h hp
          · rename_i hp
            rw [if_neg hp]
            exact ih h
      · rename_i h7
        rw [if_neg h7]
        exact ih h
theorem code_low8 {r : Row} {X : List Nat} (hf : fine r) (hX : Low X) : Low (codeR r ++ X) := by
  cases r with
  | nil => exact hX
  | cons h p r =>
    obtain ⟨h1, h2, _⟩ := hf
    exact Or.inr ⟨h.kind.toNat, _, rfl, by omega⟩

/-- two rows of one length, whatever stands behind their codes -/
theorem sort_len (r : Row) : ∀ (s : Row) (X Y : List Nat), r.len = s.len → fine r → fine s → okR r → okR s → Low X → Low Y → cmpL (codeR r ++ X) (codeR s ++ Y) = orI (cmpR r s) (cmpL X Y) := by
  induction r with
  | nil =>
    intro s X Y hl _ _ _ _ _ _
    cases s with
    | nil => simp [codeR, cmpR, orI]
    | cons y q s => simp [Row.len] at hl
  | cons x p r _ ihr =>
    intro s X Y hl fr fs or_ os hX hY
    cases s with
    | nil => simp [Row.len] at hl
    | cons y q s =>
      simp only [Row.len] at hl
      obtain ⟨k1, k2, k3, k4⟩ := fr
      obtain ⟨l1, l2, l3, l4⟩ := fs
      obtain ⟨o1, o2, o3⟩ := or_
      obtain ⟨u1, u2, u3⟩ := os
      have hrest := ihr s X Y (by omega) k4 l4 o3 u3 hX hY
      have e0 : cmpR (.cons x p r) (.cons y q s) = orI (cmpH x y (cmpR p q)) (cmpR r s) := rfl
      rw [e0, orI_assoc, ← hrest, codeR_cons, codeR_cons]
      simp only [List.cons_append, List.append_assoc]
      rw [cmpL_two]
      by_cases hk : x.kind = y.kind
      · have hc : cmpI ((x.kind.toNat : Nat) : Int) ((y.kind.toNat : Nat) : Int) = 0 := by rw [hk]; exact cmpI_zero.2 rfl
        rw [hc]
        have z0 : ∀ c : Int, orI 0 c = c := fun c => by simp [orI]
        rw [z0]
        have T1 := code_low8 (r := r) k4 hX
        have T2 := code_low8 (r := s) l4 hY
        generalize codeR r ++ X = TX at *
        generalize codeR s ++ Y = TY at *
        obtain ⟨-, -, a1, a2, a3, a4, a5, a6⟩ := o1
        obtain ⟨-, -, b1, b2, b3, b4, b5, b6⟩ := u1
        obtain ⟨kx, bx, nx, rx, prx, imx, tx⟩ := x
        obtain ⟨ky, b_y, ny, ry, pry, imy, ty⟩ := y
        simp only at *
        subst hk
        obtain rfl | rfl | rfl | rfl | rfl | rfl | rfl : kx = 1 ∨ kx = 2 ∨ kx = 3 ∨ kx = 4 ∨ kx = 5 ∨ kx = 6 ∨ kx = 7 := by omega
        · simp [body, cmpH, orI]
        · simp only [body, cmpH]
          simp only [if_true, ne_eq, not_true, if_false, List.cons_append, List.nil_append]
          rw [cmpL_two]
        · have e1 : body ⟨3, bx, nx, rx, prx, imx, tx⟩ (codeR p) = be8 (placeI nx) := by simp [body]
          have e2 : body ⟨3, b_y, ny, ry, pry, imy, ty⟩ (codeR q) = be8 (placeI ny) := by simp [body]
          have e3 : cmpH ⟨3, bx, nx, rx, prx, imx, tx⟩ ⟨3, b_y, ny, ry, pry, imy, ty⟩ (cmpR p q) = cmpI nx ny := by simp [cmpH]
          rw [e1, e2, e3, cmpL_len (be8_len2 _ _), be8_cmp (placeI_lt a2) (placeI_lt b2), cmpI_place a1 b1]
        · have e1 : body ⟨4, bx, nx, rx, prx, imx, tx⟩ (codeR p) = be8 (placeR rx) := by simp [body]
          have e2 : body ⟨4, b_y, ny, ry, pry, imy, ty⟩ (codeR q) = be8 (placeR ry) := by simp [body]
          have e3 : cmpH ⟨4, bx, nx, rx, prx, imx, tx⟩ ⟨4, b_y, ny, ry, pry, imy, ty⟩ (cmpR p q) = cmpI (placeR rx) (placeR ry) := by simp [cmpH]
          rw [e1, e2, e3, cmpL_len (be8_len2 _ _), be8_cmp (placeR_lt a3) (placeR_lt b3)]
        · have e1 : body ⟨5, bx, nx, rx, prx, imx, tx⟩ (codeR p) = be8 (placeR prx) ++ be8 (placeR imx) := by simp [body]
          have e2 : body ⟨5, b_y, ny, ry, pry, imy, ty⟩ (codeR q) = be8 (placeR pry) ++ be8 (placeR imy) := by simp [body]
          have e3 : cmpH ⟨5, bx, nx, rx, prx, imx, tx⟩ ⟨5, b_y, ny, ry, pry, imy, ty⟩ (cmpR p q) = orI (cmpI (placeR prx) (placeR pry)) (cmpI (placeR imx) (placeR imy)) := by simp [cmpH]
          rw [e1, e2, e3, List.append_assoc, List.append_assoc, cmpL_len (be8_len2 _ _), cmpL_len (be8_len2 _ _), be8_cmp (placeR_lt a4) (placeR_lt b4), be8_cmp (placeR_lt a5) (placeR_lt b5), orI_assoc]
        · have e1 : body ⟨6, bx, nx, rx, prx, imx, tx⟩ (codeR p) = esc tx ++ [0] := by simp [body]
          have e2 : body ⟨6, b_y, ny, ry, pry, imy, ty⟩ (codeR q) = esc ty ++ [0] := by simp [body]
          have e3 : cmpH ⟨6, bx, nx, rx, prx, imx, tx⟩ ⟨6, b_y, ny, ry, pry, imy, ty⟩ (cmpR p q) = cmpL tx ty := by simp [cmpH]
          rw [e1, e2, e3, List.append_assoc, List.append_assoc]
          exact esc_cmp tx ty TX TY T1 T2
        · have e1 : body ⟨7, bx, nx, rx, prx, imx, tx⟩ (codeR p) = codeR p ++ [0] := by simp [body]
          have e2 : body ⟨7, b_y, ny, ry, pry, imy, ty⟩ (codeR q) = codeR q ++ [0] := by simp [body]
          have e3 : cmpH ⟨7, bx, nx, rx, prx, imx, tx⟩ ⟨7, b_y, ny, ry, pry, imy, ty⟩ (cmpR p q) = cmpR p q := by simp [cmpH]
          rw [e1, e2, e3, List.append_assoc, List.append_assoc, sort_ext p q ([0] ++ TX) ([0] ++ TY) (k3 rfl) (l3 rfl) o2 u2 (Or.inr ⟨TX, rfl⟩) (Or.inr ⟨TY, rfl⟩)]
          simp only [List.cons_append, List.nil_append]
          rw [cmpL_cons_eq]
      · have hc : cmpI ((x.kind.toNat : Nat) : Int) ((y.kind.toNat : Nat) : Int) = cmpI x.kind y.kind := by
          have h1 : ((x.kind.toNat : Nat) : Int) = x.kind := by omega
          have h2 : ((y.kind.toNat : Nat) : Int) = y.kind := by omega
          rw [h1, h2]
        have hne : cmpI x.kind y.kind ≠ 0 := fun h => hk (cmpI_zero.1 h)
        have e1 : cmpH x y (cmpR p q) = cmpI x.kind y.kind := by unfold cmpH; rw [if_pos hk]
        rw [hc, e1]
        simp only [orI, if_pos hne]
theorem cmpL_anti' (x y : List Nat) : cmpL y x = -cmpL x y := by
  induction x generalizing y with
  | nil => cases y <;> simp [cmpL]
  | cons a x ih =>
    cases y with
    | nil => simp [cmpL]
    | cons b y =>
      rcases Nat.lt_trichotomy a b with h | h | h
      · have : ¬ b < a := by omega
        simp [cmpL, h, this]
      · subst h; rw [cmpL_cons_eq, cmpL_cons_eq]; exact ih y
      · have : ¬ a < b := by omega
        simp [cmpL, h, this]
theorem cmpL_nil_le (Y : List Nat) : cmpL [] Y ≤ 0 := by cases Y <;> simp [cmpL]
theorem low_eight {r : Row} (hf : fine r) : cmpL (codeR r) [8] < 0 := by
  cases r with
  | nil => simp [codeR, cmpL]
  | cons h p r =>
    obtain ⟨h1, h2, _⟩ := hf
    have : h.kind.toNat < 8 := by omega
    rw [codeR_cons]
    simp [cmpL, this]
/-- the row's beginning is that of u: the code of u is in the span -/
theorem beside_in {r u : Row} (fr : fine r) (fu : fine u) (or_ : okR r) (ou : okR u) (hl : r.len ≤ u.len) (hc : cmpR r (u.take r.len) = 0) : cmpL (codeR r) (codeR u) ≤ 0 ∧ cmpL (codeR u) (codeR r ++ [8]) < 0 := by
  have e := Row.take_drop r.len u
  have hl2 := Row.take_len r.len u hl
  generalize u.take r.len = u1 at *
  generalize u.drop r.len = u2 at *
  subst e
  obtain ⟨f1, f2⟩ := fine_app.1 fu
  obtain ⟨o1, o2⟩ := okR_app.1 ou
  have L2 : Low (codeR u2) := by have := code_low8 (X := []) f2 (Or.inl rfl); simpa using this
  have h1 := sort_len r u1 [] (codeR u2) (by omega) fr f1 or_ o1 (Or.inl rfl) L2
  have h2 := sort_len r u1 [8] (codeR u2) (by omega) fr f1 or_ o1 (Or.inr ⟨8, [], rfl, by omega⟩) L2
  rw [List.append_nil, hc] at h1
  rw [hc] at h2
  have z0 : ∀ c : Int, orI 0 c = c := fun c => by simp [orI]
  rw [z0] at h1 h2
  rw [codeR_app]
  refine ⟨by rw [h1]; exact cmpL_nil_le _, ?_⟩
  rw [cmpL_anti', h2, ← cmpL_anti']
  exact low_eight f2
/-- it is not -/
theorem beside_out {r u : Row} (fr : fine r) (fu : fine u) (or_ : okR r) (ou : okR u) (hl : r.len ≤ u.len) (hc : cmpR r (u.take r.len) ≠ 0) : 0 < cmpL (codeR r) (codeR u) ∨ 0 ≤ cmpL (codeR u) (codeR r ++ [8]) := by
  have e := Row.take_drop r.len u
  have hl2 := Row.take_len r.len u hl
  generalize u.take r.len = u1 at *
  generalize u.drop r.len = u2 at *
  subst e
  obtain ⟨f1, f2⟩ := fine_app.1 fu
  obtain ⟨o1, o2⟩ := okR_app.1 ou
  have L2 : Low (codeR u2) := by have := code_low8 (X := []) f2 (Or.inl rfl); simpa using this
  have h1 := sort_len r u1 [] (codeR u2) (by omega) fr f1 or_ o1 (Or.inl rfl) L2
  have h2 := sort_len r u1 [8] (codeR u2) (by omega) fr f1 or_ o1 (Or.inr ⟨8, [], rfl, by omega⟩) L2
  rw [List.append_nil] at h1
  have z1 : ∀ c : Int, orI (cmpR r u1) c = cmpR r u1 := fun c => by simp [orI, hc]
  rw [z1] at h1 h2
  rw [codeR_app]
  by_cases hp : 0 < cmpR r u1
  · left; rw [h1]; exact hp
  · right; rw [cmpL_anti', h2]; omega
theorem beside_short {r u : Row} (fr : fine r) (fu : fine u) (or_ : okR r) (ou : okR u) (hl : u.len < r.len) : 0 < cmpL (codeR r) (codeR u) ∨ 0 ≤ cmpL (codeR u) (codeR r ++ [8]) := by
  have e := Row.take_drop u.len r
  have hl2 := Row.take_len u.len r (by omega)
  have hl3 : 0 < (r.drop u.len).len := by
    have := congrArg Row.len e
    rw [Row.app_len, hl2] at this
    omega
  generalize r.take u.len = r1 at *
  generalize r.drop u.len = r2 at *
  subst e
  obtain ⟨f1, f2⟩ := fine_app.1 fr
  obtain ⟨o1, o2⟩ := okR_app.1 or_
  have L2 : Low (codeR r2) := by have := code_low8 (X := []) f2 (Or.inl rfl); simpa using this
  have L3 : Low (codeR r2 ++ [8]) := code_low8 f2 (Or.inr ⟨8, [], rfl, by omega⟩)
  have h1 := sort_len r1 u (codeR r2) [] (by omega) f1 fu o1 ou L2 (Or.inl rfl)
  have h2 := sort_len r1 u (codeR r2 ++ [8]) [] (by omega) f1 fu o1 ou L3 (Or.inl rfl)
  rw [List.append_nil] at h1 h2
  rw [codeR_app]
  by_cases hz : cmpR r1 u = 0
  · left
    rw [h1, hz]
    cases r2 with
    | nil => simp [Row.len] at hl3
    | cons x p r => rw [codeR_cons]; simp [orI, cmpL]
  · have z1 : ∀ c : Int, orI (cmpR r1 u) c = cmpR r1 u := fun c => by simp [orI, hz]
    rw [z1] at h1 h2
    by_cases hp : 0 < cmpR r1 u
    · left; rw [h1]; exact hp
    · right
      rw [cmpL_anti', List.append_assoc, h2]; omega
end Go.Proofs.Ytigmofbammofbaa
