/- The rhythm, in plain words. -/
import Derived.Test.YthhgeobfolhpoaaVSgn
import Derived.Test.YthhgeobfolhpoaaVPure
namespace Go.Proofs.Ythhgeobfolhpoaa

/-- the turns' parts -/
def reW : Nat → Nat
  | 0 => 4607182418800017408
  | 1 => 4604544271217802189
  | 2 => 0
  | 3 => 13827916308072577997
  | 4 => 13830554455654793216
  | 5 => 13827916308072577997
  | 6 => 0
  | _ => 4604544271217802189
def imW : Nat → Nat
  | 0 => 0
  | 1 => 4604544271217802189
  | 2 => 4607182418800017408
  | 3 => 4604544271217802189
  | 4 => 0
  | 5 => 13827916308072577997
  | 6 => 13830554455654793216
  | _ => 13827916308072577997
/-- a part of a turn: at most one, of either sign -/
def part (y : Nat) : Prop := y ≤ 4607182418800017408 ∨ (9223372036854775808 < y ∧ y ≤ 13830554455654793216)
theorem re_part (n : Nat) : part (reW n) := by unfold part reW; split <;> decide
theorem im_part (n : Nat) : part (imW n) := by unfold part imW; split <;> decide
theorem mul_part {x y : Nat} (hx : low x) (hy : part y) : floatBits .mul .f64 x y = some (mulF x y) ∧ fil (mulF x y) := by
  rcases hy with h | ⟨h, h'⟩
  · have h1 := mul_eq hx.lt (s := y) (by omega)
    have h2 := mul_le hx.lt h
    exact ⟨h1.1, fil_low (by unfold low at hx ⊢; omega)⟩
  · obtain ⟨z, rfl⟩ : ∃ z, y = 9223372036854775808 + z := ⟨y - 9223372036854775808, by omega⟩
    have h1 := mul_neg hx.lt (y := z) (by omega)
    have h2 := mul_le hx.lt (y := z) (by omega)
    have e : mulF x (9223372036854775808 + z) = 9223372036854775808 + mulF x z := by
      show (floatBits .mul .f64 x (9223372036854775808 + z)).getD 0 = _
      rw [h1]; rfl
    rw [e]
    have hl : mulF x z ≤ 5057542381537067008 := by unfold low at hx; omega
    exact ⟨h1, ⟨by omega, by unfold mg; rw [show (9223372036854775808 + mulF x z) % 9223372036854775808 = mulF x z by omega]; exact hl⟩⟩
/-- entry k after the first t windows: its real part, its imaginary part -/
def wv (f : Nat → Nat) (l : List Nat) (k : Nat) : Nat → Nat
  | 0 => 0
  | t + 1 => addS (wv f l k t) (mulF (l.getD t 0) (f (k * t % 8)))
theorem fin_zero : fin 0 := fin_mid (Nat.zero_le _)
theorem wv_fin {f : Nat → Nat} (hf : ∀ n, part (f n)) {l : List Nat} (hl : ∀ j, low (l.getD j 0)) (k t : Nat) : fin (wv f l k t) := by
  induction t with
  | zero => exact fin_zero
  | succ t ih => exact (add_fin ih (mul_part (hl t) (hf _)).2).2.1
theorem wv_add {f : Nat → Nat} (hf : ∀ n, part (f n)) {l : List Nat} (hl : ∀ j, low (l.getD j 0)) (k t : Nat) : floatBits .add .f64 (wv f l k t) (mulF (l.getD t 0) (f (k * t % 8))) = some (wv f l k (t + 1)) :=
  (add_fin (wv_fin hf hl k t) (mul_part (hl t) (hf _)).2).1
/-- the whole answer -/
def waveC (l : List Nat) : List Value := (List.range 8).map fun k => .complex .f64 (wv reW l k 8) (wv imW l k 8)
end Go.Proofs.Ythhgeobfolhpoaa
