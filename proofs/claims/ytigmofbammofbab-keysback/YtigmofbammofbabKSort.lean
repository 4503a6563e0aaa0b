/- The codes sort as the rows do. -/
import Derived.Test.YtigmofbammofbabKDecP
namespace Go.Proofs.Ytigmofbammofbab
open Go.RowKit

/-- a text that goes on with no byte above a kind's -/
def Low (X : List Nat) : Prop := X = [] ∨ ∃ b Y, X = b :: Y ∧ b ≤ 8
/-- a text that goes on with an end, if at all -/
def End (X : List Nat) : Prop := X = [] ∨ ∃ Y, X = 0 :: Y

theorem cmpL_cons_eq (a : Nat) (x y : List Nat) : cmpL (a :: x) (a :: y) = cmpL x y := by simp [cmpL]
theorem cmpL_self (x : List Nat) : cmpL x x = 0 := by
  induction x with
  | nil => rfl
  | cons a x ih => rw [cmpL_cons_eq]; exact ih
theorem cmpL_app (p x y : List Nat) : cmpL (p ++ x) (p ++ y) = cmpL x y := by
  induction p with
  | nil => rfl
  | cons a p ih => rw [List.cons_append, List.cons_append, cmpL_cons_eq]; exact ih
theorem cmpI_zero {x y : Int} : cmpI x y = 0 ↔ x = y := by
  unfold cmpI
  by_cases h : x < y
  · simp [h]; omega
  · by_cases h2 : y < x
    · simp [h, h2]; omega
    · simp [h, h2]; omega
theorem cmpL_eq_zero {x y : List Nat} (h : cmpL x y = 0) : x = y := by
  induction x generalizing y with
  | nil => cases y with
    | nil => rfl
    | cons b y => simp [cmpL] at h
  | cons a x ih => cases y with
    | nil => simp [cmpL] at h
    | cons b y =>
      unfold cmpL at h
      split at h
      · simp at h
      · split at h
        · simp at h
        · have : a = b := by omega
          rw [this, ih h]

theorem orI_assoc (a b c : Int) : orI (orI a b) c = orI a (orI b c) := by
  unfold orI
  by_cases h : a = 0
  · simp [h]
  · simp [h]
theorem cmpI_of_lt {a b : Int} (h : a < b) : cmpI a b = -1 := by unfold cmpI; rw [if_pos h]
theorem cmpI_of_gt {a b : Int} (h : b < a) : cmpI a b = 1 := by unfold cmpI; rw [if_neg (by omega), if_pos h]
theorem cmpI_of_eq (a : Int) : cmpI a a = 0 := by unfold cmpI; simp
theorem cmpL_two (a b : Nat) (x y : List Nat) : cmpL (a :: x) (b :: y) = orI (cmpI a b) (cmpL x y) := by
  rw [cmpL]
  by_cases h : a < b
  · rw [if_pos h, cmpI_of_lt (by omega)]; rfl
  · rw [if_neg h]
    by_cases h2 : b < a
    · rw [if_pos h2, cmpI_of_gt (by omega)]; rfl
    · obtain rfl : a = b := by omega
      rw [if_neg h2, cmpI_of_eq]; simp [orI]
theorem be8_len2 (m n : Nat) : (be8 m).length = (be8 n).length := rfl
/-- byte by byte, of two of one length -/
theorem cmpL_len {x y : List Nat} (h : x.length = y.length) (X Y : List Nat) : cmpL (x ++ X) (y ++ Y) = orI (cmpL x y) (cmpL X Y) := by
  induction x generalizing y with
  | nil =>
    cases y with
    | nil => simp [cmpL, orI]
    | cons b y => simp at h
  | cons a x ih =>
    cases y with
    | nil => simp at h
    | cons b y => rw [List.cons_append, List.cons_append, cmpL_two, cmpL_two a b x y, ih (by simpa using h), orI_assoc]
theorem digit {a b x y : Nat} (hx : x < 256) (hy : y < 256) : cmpI ((a * 256 + x : Nat) : Int) ((b * 256 + y : Nat) : Int) = orI (cmpI a b) (cmpI x y) := by
  rcases Nat.lt_trichotomy a b with h | h | h
  · rw [cmpI_of_lt (by omega), cmpI_of_lt (a := (a : Int)) (by omega)]; rfl
  · subst h
    rw [cmpI_of_eq (a : Int)]
    have z0 : ∀ c : Int, orI 0 c = c := fun c => by simp [orI]
    rw [z0]
    rcases Nat.lt_trichotomy x y with h | h | h
    · rw [cmpI_of_lt (by omega), cmpI_of_lt (a := (x : Int)) (by omega)]
    · subst h; rw [cmpI_of_eq, cmpI_of_eq]
    · rw [cmpI_of_gt (by omega), cmpI_of_gt (a := (x : Int)) (by omega)]
  · rw [cmpI_of_gt (by omega), cmpI_of_gt (a := (a : Int)) (by omega)]; rfl
theorem be8_cmp {m n : Nat} (hm : m < 18446744073709551616) (hn : n < 18446744073709551616) : cmpL (be8 m) (be8 n) = cmpI m n := by
  have key : ∀ (x y : List Nat) (a b : Nat), x.length = y.length → (∀ z ∈ x, z < 256) → (∀ z ∈ y, z < 256) → cmpI ((x.foldl (fun a b => a * 256 + b) a : Nat) : Int) ((y.foldl (fun a b => a * 256 + b) b : Nat) : Int) = orI (cmpI a b) (cmpL x y) := by
    intro x
    induction x with
    | nil =>
      intro y a b hl _ _
      cases y with
      | nil => simp [cmpL, orI]
      | cons c y => simp at hl
    | cons c x ih =>
      intro y a b hl hx hy
      cases y with
      | nil => simp at hl
      | cons d y =>
        rw [List.foldl_cons, List.foldl_cons, ih y _ _ (by simpa using hl) (fun z hz => hx z (List.mem_cons_of_mem _ hz)) (fun z hz => hy z (List.mem_cons_of_mem _ hz)), digit (hx c (List.mem_cons_self ..)) (hy d (List.mem_cons_self ..)), cmpL_two, orI_assoc]
  have h := key (be8 m) (be8 n) 0 0 rfl (be8_lt m) (be8_lt n)
  have e1 := word_be8 m hm
  have e2 := word_be8 n hn
  unfold word at e1 e2
  rw [e1, e2] at h
  rw [h]
  simp [cmpI, orI]
/-- texts, each byte 0 being told -/
theorem esc_cmp (a b X Y : List Nat) (hX : Low X) (hY : Low Y) : cmpL (esc a ++ 0 :: X) (esc b ++ 0 :: Y) = orI (cmpL a b) (cmpL X Y) := by
  induction a generalizing b with
  | nil =>
    cases b with
    | nil => simp [esc, cmpL, orI]
    | cons y b =>
      by_cases hy : y = 0
      · subst hy
        simp only [esc, if_true, List.nil_append, List.cons_append]
        rw [cmpL_cons_eq]
        rcases hX with rfl | ⟨c, X', rfl, hc⟩
        · simp [cmpL, orI]
        · have : c < 255 := by omega
          simp [cmpL, orI, this]
      · simp only [esc, if_neg hy, List.nil_append, List.cons_append]
        have : 0 < y := by omega
        simp [cmpL, orI, this]
  | cons x a ih =>
    cases b with
    | nil =>
      by_cases hx : x = 0
      · subst hx
        simp only [esc, if_true, List.nil_append, List.cons_append]
        rw [cmpL_cons_eq]
        rcases hY with rfl | ⟨c, Y', rfl, hc⟩
        · simp [cmpL, orI]
        · have h1 : ¬ 255 < c := by omega
          have h2 : c < 255 := by omega
          simp [cmpL, orI, h1, h2]
      · simp only [esc, if_neg hx, List.nil_append, List.cons_append]
        have : 0 < x := by omega
        simp [cmpL, orI, this]
    | cons y b =>
      by_cases hx : x = 0
      · by_cases hy : y = 0
        · subst hx hy
          simp only [esc, if_true, List.cons_append]
          rw [cmpL_cons_eq, cmpL_cons_eq, cmpL_cons_eq]
          exact ih b
        · subst hx
          simp only [esc, if_true, if_neg hy, List.cons_append]
          have : 0 < y := by omega
          simp [cmpL, orI, this]
      · by_cases hy : y = 0
        · subst hy
          simp only [esc, if_true, if_neg hx, List.cons_append]
          have : 0 < x := by omega
          simp [cmpL, orI, this]
        · simp only [esc, if_neg hx, if_neg hy, List.cons_append]
          rw [cmpL_two, cmpL_two x y a b, ih b, orI_assoc]

/-- all heads of a row are what they can be -/
def okR : Row → Prop
  | .nil => True
  | .cons h p r => h.ok ∧ okR p ∧ okR r
theorem RowV.okR_of {S : Nat → Prop} {w : World} {r : Row} : ∀ {b off : Nat}, AtV S w r b off → okR r := by
  induction r with
  | nil => intro _ _ _; trivial
  | cons h p r ihp ihr =>
    intro b off ha
    obtain ⟨⟨h0, tv, pv, _, _, a, cap, _, _, _, h3⟩, hr⟩ := ha
    refine ⟨h0, ?_, ihr hr⟩
    rcases h3 with rfl | ⟨b', off', _, _, _, h6⟩
    · trivial
    · exact ihp h6
theorem RowV.ok {S : Nat → Prop} {w : World} {v : Value} {r : Row} (h : RowV S w v r) : okR r := by
  obtain ⟨a, cap, _, _, _, h3⟩ := h
  rcases h3 with rfl | ⟨b, off, _, _, _, h6⟩
  · trivial
  · exact RowV.okR_of h6

theorem code_lt {r : Row} (ho : okR r) (hf : fine r) : ∀ x ∈ codeR r, x < 256 := by
  induction r with
  | nil => simp [codeR]
  | cons h p r ihp ihr =>
    obtain ⟨o1, o2, o3⟩ := ho
    obtain ⟨f1, f2, f3, f4⟩ := hf
    intro x hx
    rw [codeR_cons] at hx
    simp only [List.cons_append, List.mem_cons, List.mem_append] at hx
    rcases hx with rfl | hx | hx
    · omega
    · unfold body at hx
      split at hx
      · simp [bitOf] at hx; subst hx; split <;> omega
      split at hx
      · exact be8_lt _ x hx
      split at hx
      · exact be8_lt _ x hx
      split at hx
      · rcases List.mem_append.1 hx with hx | hx
        · exact be8_lt _ x hx
        · exact be8_lt _ x hx
      split at hx
      · rcases List.mem_append.1 hx with hx | hx
        · exact esc_lt o1.2.2.2.2.2.2.2 x hx
        · simp at hx; omega
      split at hx
      · rename_i h7
        rcases List.mem_append.1 hx with hx | hx
        · exact ihp o2 (f3 h7) x hx
        · simp at hx; omega
      · simp at hx
    · exact ihr o3 f4 x hx
theorem code_low {r : Row} {X : List Nat} (hf : fine r) (hX : End X) : Low (codeR r ++ X) := by
  cases r with
  | nil =>
    rcases hX with rfl | ⟨Y, rfl⟩
    · exact Or.inl rfl
    · exact Or.inr ⟨0, Y, rfl, by omega⟩
  | cons h p r =>
    obtain ⟨h1, h2, _⟩ := hf
    exact Or.inr ⟨h.kind.toNat, _, rfl, by omega⟩
theorem cmpI_place {a b : Int} (a1 : -9223372036854775808 ≤ a) (b1 : -9223372036854775808 ≤ b) : cmpI (placeI a) (placeI b) = cmpI a b := by
  unfold placeI cmpI
  by_cases h : a < b
  · rw [if_pos (by omega), if_pos h]
  · rw [if_neg (by omega), if_neg h]
    by_cases h2 : b < a
    · rw [if_pos (by omega), if_pos h2]
    · rw [if_neg (by omega), if_neg h2]
theorem placeI_lt {a : Int} (a2 : a ≤ 9223372036854775807) : placeI a < 18446744073709551616 := by unfold placeI; omega

theorem sort_ext (r : Row) : ∀ (s : Row) (X Y : List Nat), fine r → fine s → okR r → okR s → End X → End Y → cmpL (codeR r ++ X) (codeR s ++ Y) = orI (cmpR r s) (cmpL X Y) := by
  induction r with
  | nil =>
    intro s X Y _ fs _ _ hX _
    cases s with
    | nil => simp [codeR, cmpR, orI]
    | cons y q s =>
      obtain ⟨k1, k2, _⟩ := fs
      have hk : 0 < y.kind.toNat := by omega
      rw [codeR_cons]
      rcases hX with rfl | ⟨X', rfl⟩
      · simp [codeR, cmpR, cmpL, orI]
      · simp [codeR, cmpR, cmpL, orI, hk]
  | cons x p r ihp ihr =>
    intro s X Y fr fs or_ os hX hY
    cases s with
    | nil =>
      obtain ⟨k1, k2, _⟩ := fr
      have hk : 0 < x.kind.toNat := by omega
      rw [codeR_cons]
      rcases hY with rfl | ⟨Y', rfl⟩
      · simp [codeR, cmpR, cmpL, orI]
      · simp [codeR, cmpR, cmpL, orI, hk]
    | cons y q s =>
      obtain ⟨k1, k2, k3, k4⟩ := fr
      obtain ⟨l1, l2, l3, l4⟩ := fs
      obtain ⟨o1, o2, o3⟩ := or_
      obtain ⟨u1, u2, u3⟩ := os
      have hrest := ihr s X Y k4 l4 o3 u3 hX hY
      have e0 : cmpR (.cons x p r) (.cons y q s) = orI (cmpH x y (cmpR p q)) (cmpR r s) := rfl
      rw [e0, orI_assoc, ← hrest, codeR_cons, codeR_cons]
      simp only [List.cons_append, List.append_assoc]
      rw [cmpL_two]
      by_cases hk : x.kind = y.kind
      · have hc : cmpI ((x.kind.toNat : Nat) : Int) ((y.kind.toNat : Nat) : Int) = 0 := by rw [hk]; exact cmpI_zero.2 rfl
        rw [hc]
        have z0 : ∀ c : Int, orI 0 c = c := fun c => by simp [orI]
        rw [z0]
        have T1 := code_low (r := r) k4 hX
        have T2 := code_low (r := s) l4 hY
        generalize codeR r ++ X = TX at *
        generalize codeR s ++ Y = TY at *
        obtain ⟨-, -, a1, a2, a3, a4, a5, a6⟩ := o1
        obtain ⟨-, -, b1, b2, b3, b4, b5, b6⟩ := u1
        obtain ⟨kx, bx, nx, rx, prx, imx, tx⟩ := x
        obtain ⟨ky, b_y, ny, ry, pry, imy, ty⟩ := y
        simp only at *
        subst hk
        obtain rfl | rfl | rfl | rfl | rfl | rfl | rfl : kx = 1 ∨ kx = 2 ∨ kx = 3 ∨ kx = 4 ∨ kx = 5 ∨ kx = 6 ∨ kx = 7 := by omega
        · simp [body, cmpH, orI]
        · simp only [body, cmpH]
          simp only [if_true, ne_eq, not_true, if_false, List.cons_append, List.nil_append]
          rw [cmpL_two]
        · have e1 : body ⟨3, bx, nx, rx, prx, imx, tx⟩ (codeR p) = be8 (placeI nx) := by simp [body]
          have e2 : body ⟨3, b_y, ny, ry, pry, imy, ty⟩ (codeR q) = be8 (placeI ny) := by simp [body]
          have e3 : cmpH ⟨3, bx, nx, rx, prx, imx, tx⟩ ⟨3, b_y, ny, ry, pry, imy, ty⟩ (cmpR p q) = cmpI nx ny := by simp [cmpH]
          rw [e1, e2, e3, cmpL_len (be8_len2 _ _), be8_cmp (placeI_lt a2) (placeI_lt b2), cmpI_place a1 b1]
        · have e1 : body ⟨4, bx, nx, rx, prx, imx, tx⟩ (codeR p) = be8 (placeR rx) := by simp [body]
          have e2 : body ⟨4, b_y, ny, ry, pry, imy, ty⟩ (codeR q) = be8 (placeR ry) := by simp [body]
          have e3 : cmpH ⟨4, bx, nx, rx, prx, imx, tx⟩ ⟨4, b_y, ny, ry, pry, imy, ty⟩ (cmpR p q) = cmpI (placeR rx) (placeR ry) := by simp [cmpH]
          rw [e1, e2, e3, cmpL_len (be8_len2 _ _), be8_cmp (placeR_lt a3) (placeR_lt b3)]
        · have e1 : body ⟨5, bx, nx, rx, prx, imx, tx⟩ (codeR p) = be8 (placeR prx) ++ be8 (placeR imx) := by simp [body]
          have e2 : body ⟨5, b_y, ny, ry, pry, imy, ty⟩ (codeR q) = be8 (placeR pry) ++ be8 (placeR imy) := by simp [body]
          have e3 : cmpH ⟨5, bx, nx, rx, prx, imx, tx⟩ ⟨5, b_y, ny, ry, pry, imy, ty⟩ (cmpR p q) = orI (cmpI (placeR prx) (placeR pry)) (cmpI (placeR imx) (placeR imy)) := by simp [cmpH]
          rw [e1, e2, e3, List.append_assoc, List.append_assoc, cmpL_len (be8_len2 _ _), cmpL_len (be8_len2 _ _), be8_cmp (placeR_lt a4) (placeR_lt b4), be8_cmp (placeR_lt a5) (placeR_lt b5), orI_assoc]
        · have e1 : body ⟨6, bx, nx, rx, prx, imx, tx⟩ (codeR p) = esc tx ++ [0] := by simp [body]
          have e2 : body ⟨6, b_y, ny, ry, pry, imy, ty⟩ (codeR q) = esc ty ++ [0] := by simp [body]
          have e3 : cmpH ⟨6, bx, nx, rx, prx, imx, tx⟩ ⟨6, b_y, ny, ry, pry, imy, ty⟩ (cmpR p q) = cmpL tx ty := by simp [cmpH]
          rw [e1, e2, e3, List.append_assoc, List.append_assoc]
          exact esc_cmp tx ty TX TY T1 T2
        · have e1 : body ⟨7, bx, nx, rx, prx, imx, tx⟩ (codeR p) = codeR p ++ [0] := by simp [body]
          have e2 : body ⟨7, b_y, ny, ry, pry, imy, ty⟩ (codeR q) = codeR q ++ [0] := by simp [body]
          have e3 : cmpH ⟨7, bx, nx, rx, prx, imx, tx⟩ ⟨7, b_y, ny, ry, pry, imy, ty⟩ (cmpR p q) = cmpR p q := by simp [cmpH]
          rw [e1, e2, e3, List.append_assoc, List.append_assoc, ihp q ([0] ++ TX) ([0] ++ TY) (k3 rfl) (l3 rfl) o2 u2 (Or.inr ⟨TX, rfl⟩) (Or.inr ⟨TY, rfl⟩)]
          simp only [List.cons_append, List.nil_append]
          rw [cmpL_cons_eq]
      · have hc : cmpI ((x.kind.toNat : Nat) : Int) ((y.kind.toNat : Nat) : Int) = cmpI x.kind y.kind := by
          have h1 : ((x.kind.toNat : Nat) : Int) = x.kind := by omega
          have h2 : ((y.kind.toNat : Nat) : Int) = y.kind := by omega
          rw [h1, h2]
        have hne : cmpI x.kind y.kind ≠ 0 := fun h => hk (cmpI_zero.1 h)
        have e1 : cmpH x y (cmpR p q) = cmpI x.kind y.kind := by unfold cmpH; rw [if_pos hk]
        rw [hc, e1]
        simp only [orI, if_pos hne]
/-- the codes of good rows sort as the rows do -/
theorem sort_code {r s : Row} (fr : fine r) (fs : fine s) (or_ : okR r) (os : okR s) : cmpR r s = cmpL (codeR r) (codeR s) := by
  have h := sort_ext r s [] [] fr fs or_ os (Or.inl rfl) (Or.inl rfl)
  rw [List.append_nil, List.append_nil] at h
  rw [h]
  have : cmpL ([] : List Nat) [] = 0 := rfl
  rw [this]
  unfold orI
  split
  · rfl
  · rename_i h; exact (Decidable.of_not_not h)
end Go.Proofs.Ytigmofbammofbab
