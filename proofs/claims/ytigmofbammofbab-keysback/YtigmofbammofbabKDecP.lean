/- What is read has the code that was read. -/
import Derived.Test.YtigmofbammofbabKDec
namespace Go.Proofs.Ytigmofbammofbab
open Go.RowKit

theorem takeB_sound {t r : List Nat} {x : Bool} (h : takeB t = some (x, r)) : t = bitOf x :: r := by
  unfold takeB at h
  split at h
  · cases h
  · rename_i y r'
    split at h
    · cases h
    · rename_i hy
      cases h
      have : bitOf (decide (y = 1)) = y := by
        unfold bitOf
        by_cases h1 : y = 1
        · simp [h1]
        · simp [h1]; omega
      rw [this]
theorem takeW_sound {t r : List Nat} {m : Nat} (h : takeW t = some (m, r)) (hb : ∀ x ∈ t, x < 256) : t = be8 m ++ r := by
  unfold takeW at h
  split at h
  · cases h
  · rename_i hl
    cases h
    rw [(be8_word _ (by rw [List.length_take]; omega) (fun x hx => hb x (List.mem_of_mem_take hx))).1, List.take_append_drop]
theorem placeI_intA {m : Nat} (h : m < 18446744073709551616) : placeI (intA m) = m := by unfold placeI intA; omega

/-- a row is read as it is coded, but for what does not count -/
def cleanH (h : Hd) : Hd :=
  if h.kind = 2 then { hd0 2 with b := h.b }
  else if h.kind = 3 then { hd0 3 with n := h.n }
  else if h.kind = 4 then { hd0 4 with re := canon h.re }
  else if h.kind = 5 then { hd0 5 with pr := canon h.pr, im := canon h.im }
  else if h.kind = 6 then { hd0 6 with text := h.text }
  else hd0 h.kind
def cleanR : Row → Row
  | .nil => .nil
  | .cons h p r => .cons (cleanH h) (if h.kind = 7 then cleanR p else .nil) (cleanR r)

theorem takeV_sound {rec : Except Nat (Row × List Nat)} {k d : Nat} {t : List Nat} {h : Hd} {p : Row} {r : List Nat} (e : takeV rec k t d = .ok (h, p, r)) (hb : ∀ x ∈ t, x < 256)
    (hr : ∀ q y x, rec = .ok (q, y :: x) → t = codeR q ++ (0 :: x) ∧ faultR q (d + 1) = 0) :
    k :: t = (h.kind.toNat :: body h (codeR p)) ++ r ∧ 1 ≤ h.kind ∧ h.kind ≤ 7 ∧ (h.kind = 7 → d ≠ 16 ∧ faultR p (d + 1) = 0) := by
  rcases takeV_ok e with ⟨rfl, rfl, rfl, rfl⟩ | ⟨rfl, x, hx, rfl, rfl⟩ | ⟨rfl, x, hx, rfl, rfl⟩ | ⟨rfl, x, hx, rfl, rfl⟩ | ⟨rfl, x, hx, rfl, rfl⟩ | ⟨rfl, x, hx, rfl, rfl⟩ | ⟨rfl, rfl, hd, y, hy⟩
  · refine ⟨by simp [body, hd0], by simp [hd0], by simp [hd0], by simp [hd0]⟩
  · rw [takeB_sound hx]
    refine ⟨by simp [body, hd0], by simp [hd0], by simp [hd0], by simp [hd0]⟩
  · rw [takeW_sound hx hb]
    refine ⟨?_, by simp [hd0], by simp [hd0], by simp [hd0]⟩
    simp [body, hd0, placeI_intA (takeW_lt hx hb).1]
  · have h1 := (takeF_lt hx hb).2.2.2.1
    refine ⟨?_, by simp [hd0], by simp [hd0], by simp [hd0]⟩
    rw [h1]
    simp [body, hd0]
  · have h1 := (takeP_lt hx hb).2.2.2.2.1
    refine ⟨?_, by simp [hd0], by simp [hd0], by simp [hd0]⟩
    rw [h1]
    simp [body, hd0]
  · have h1 := (takeT_lt hx hb).2.2.2.1
    refine ⟨?_, by simp [hd0], by simp [hd0], by simp [hd0]⟩
    rw [h1]
    simp [body, hd0]
  · obtain ⟨h1, h2⟩ := hr _ _ _ hy
    refine ⟨?_, by simp [hd0], by simp [hd0], fun _ => ⟨hd, h2⟩⟩
    rw [h1]
    simp [body, hd0]

theorem takeR_sound {f : Nat} {bs : List Nat} {d : Nat} {r : Row} {rest : List Nat} (h : takeR f bs d = .ok (r, rest)) (hb : ∀ x ∈ bs, x < 256) :
    bs = codeR r ++ rest ∧ faultR r d = 0 ∧ (rest = [] ∨ ∃ x, rest = 0 :: x) := by
  induction f generalizing bs d r rest with
  | zero => cases h
  | succ f ih =>
    cases bs with
    | nil => rw [takeR_nil] at h; cases h; exact ⟨rfl, rfl, Or.inl rfl⟩
    | cons k t =>
      by_cases hk : k = 0
      · subst hk; rw [takeR_end] at h; cases h; exact ⟨rfl, rfl, Or.inr ⟨_, rfl⟩⟩
      · rw [takeR_succ _ _ _ _ hk] at h
        split at h
        · cases h
        · rename_i hd p rest1 hv
          split at h
          · cases h
          · rename_i r1 rest2 hr
            cases h
            have hbt : ∀ x ∈ t, x < 256 := fun x hx => hb x (List.mem_cons_of_mem _ hx)
            obtain ⟨s1, s2, s3, s4⟩ := takeV_sound hv hbt (fun q y x hq => by
              obtain ⟨u1, u2, u3⟩ := ih hq hbt
              rcases u3 with u3 | ⟨z, u3⟩
              · cases u3
              · cases u3; exact ⟨u1, u2⟩)
            have hb1 : ∀ x ∈ rest1, x < 256 := fun x hx => hb x (by rw [s1]; exact List.mem_append_right _ hx)
            obtain ⟨v1, v2, v3⟩ := ih hr hb1
            refine ⟨by rw [s1, v1, codeR_cons, List.append_assoc], ?_, v3⟩
            rw [faultR_cons, if_neg (by omega)]
            by_cases h7 : hd.kind = 7
            · obtain ⟨w1, w2⟩ := s4 h7
              rw [if_pos h7, if_neg w1, w2]
              simpa using v2
            · rw [if_neg h7]; exact v2
theorem decR_sound {bs : List Nat} {r : Row} (h : decR bs = .ok r) (hb : ∀ x ∈ bs, x < 256) : codeR r = bs ∧ faultR r 0 = 0 := by
  unfold decR at h
  split at h
  · cases h
  · rename_i hr
    split at h
    · rename_i h0
      cases h
      subst h0
      obtain ⟨h1, h2, _⟩ := takeR_sound hr hb
      exact ⟨by rw [h1, List.append_nil], h2⟩
    · cases h
end Go.Proofs.Ytigmofbammofbab
