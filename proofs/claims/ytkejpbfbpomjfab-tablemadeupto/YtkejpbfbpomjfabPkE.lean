/- A text of the base. -/
import Derived.Test.YtkejpbfbpomjfabPkB
import Derived.Laws.Strings
/- Texts in their order. -/
namespace Go.Proofs.Ytkejpbfbpomjfab.tre
open Go

theorem bl_asym : ∀ x y : List UInt8, Op.bytesLess x y = true → Op.bytesLess y x = false
  | _, [], h => by simp [Op.bytesLess] at h
  | [], _ :: _, _ => rfl
  | a :: x, b :: y, h => by
    simp only [Op.bytesLess, Bool.or_eq_true, Bool.and_eq_true, beq_iff_eq, decide_eq_true_eq, Bool.or_eq_false_iff, Bool.and_eq_false_imp, decide_eq_false_iff_not] at h ⊢
    rcases h with h | ⟨rfl, h⟩
    · rw [UInt8.lt_iff_toNat_lt] at h
      refine ⟨by rw [UInt8.lt_iff_toNat_lt]; omega, fun e => ?_⟩
      subst e; omega
    · exact ⟨by rw [UInt8.lt_iff_toNat_lt]; omega, fun _ => bl_asym x y h⟩
theorem bl_trans : ∀ x y z : List UInt8, Op.bytesLess y x = false → Op.bytesLess z y = false → Op.bytesLess z x = false
  | [], _, z, _, _ => by cases z <;> rfl
  | _ :: _, [], _, h, _ => by simp [Op.bytesLess] at h
  | _ :: _, _ :: _, [], _, h => by simp [Op.bytesLess] at h
  | a :: x, b :: y, c :: z, h1, h2 => by
    simp only [Op.bytesLess, Bool.or_eq_false_iff, Bool.and_eq_false_imp, decide_eq_false_iff_not, beq_iff_eq, UInt8.lt_iff_toNat_lt] at h1 h2 ⊢
    refine ⟨by omega, fun e => ?_⟩
    subst e
    have hb : b = c := UInt8.toNat_inj.1 (by omega)
    subst hb
    exact bl_trans x y z (h1.2 rfl) (h2.2 rfl)
theorem bl_irr (x : List UInt8) : Op.bytesLess x x = false := by
  cases h : Op.bytesLess x x with
  | false => rfl
  | true => have := bl_asym x x h; rw [h] at this; cases this
theorem bl_tri : ∀ x y : List UInt8, Op.bytesLess x y = false → Op.bytesLess y x = false → x = y
  | [], [], _, _ => rfl
  | [], _ :: _, h, _ => by simp [Op.bytesLess] at h
  | _ :: _, [], _, h => by simp [Op.bytesLess] at h
  | a :: x, b :: y, h1, h2 => by
    simp only [Op.bytesLess, Bool.or_eq_false_iff, Bool.and_eq_false_imp, decide_eq_false_iff_not, beq_iff_eq, UInt8.lt_iff_toNat_lt] at h1 h2
    have hb : a = b := UInt8.toNat_inj.1 (by omega)
    subst hb
    rw [bl_tri x y (h1.2 rfl) (h2.2 rfl)]
instance : KOrd ByteArray where
  lt a b := Op.bytesLess a.toList b.toList
  irr a := bl_irr _
  tr a b c h1 h2 := by
    cases h : Op.bytesLess a.toList c.toList with
    | true => rfl
    | false => have := bl_trans _ _ _ h (bl_asym _ _ h1); rw [h2] at this; cases this
  ntr a b c h := by
    cases h1 : Op.bytesLess a.toList b.toList with
    | true => exact Or.inl rfl
    | false =>
      cases h2 : Op.bytesLess b.toList c.toList with
      | true => exact Or.inr rfl
      | false => have := bl_trans _ _ _ h2 h1; rw [h] at this; cases this
theorem klt_str (a b : ByteArray) : KOrd.lt a b = Op.bytesLess a.toList b.toList := rfl
theorem toList_inj {a b : ByteArray} (h : a.toList = b.toList) : a = b := by
  rw [ByteArray.toList_eq, ByteArray.toList_eq] at h
  exact ByteArray.ext (Array.toList_inj.1 h)
theorem klt_tri {a b : ByteArray} (h : KOrd.lt a b = false) (h2 : KOrd.lt b a = false) : a = b := toList_inj (bl_tri _ _ h h2)
end Go.Proofs.Ytkejpbfbpomjfab.tre
