/- Again and again the strongest that is left: plain rows. -/
import Derived.Test.YtiafnfjgmfnnoaaJKnown
namespace Go.Proofs.Ytiafnfjgmfnnoaa
open Go.RowKit Go.Sort Go.Shelf

/-- those of the first n that are left, with their scores -/
def rl (sc : Nat → Nat) (f : Nat → Bool) : Nat → List (Int × Nat)
  | 0 => []
  | k + 1 => rl sc f k ++ (if f k = true then [((k : Int), sc k)] else [])
theorem rl_succ (sc : Nat → Nat) (f : Nat → Bool) (k : Nat) : rl sc f (k + 1) = rl sc f k ++ (if f k = true then [((k : Int), sc k)] else []) := rfl
theorem mem_rl {sc : Nat → Nat} {f : Nat → Bool} {n : Nat} {x : Int × Nat} : x ∈ rl sc f n ↔ ∃ k, k < n ∧ f k = true ∧ x = ((k : Int), sc k) := by
  induction n with
  | zero => simp [rl]
  | succ n ih =>
    rw [rl_succ, List.mem_append, ih]
    constructor
    · rintro (⟨k, h1, h2, h3⟩ | h)
      · exact ⟨k, by omega, h2, h3⟩
      · split at h
        · rename_i hf
          simp at h
          exact ⟨n, by omega, hf, h⟩
        · cases h
    · rintro ⟨k, h1, h2, h3⟩
      by_cases hk : k < n
      · exact Or.inl ⟨k, hk, h2, h3⟩
      · obtain rfl : k = n := by omega
        right
        rw [if_pos h2, h3]
        simp
theorem rl_congr {sc : Nat → Nat} {f g : Nat → Bool} {n : Nat} (h : ∀ k, k < n → f k = g k) : rl sc f n = rl sc g n := by
  induction n with
  | zero => rfl
  | succ n ih => rw [rl_succ, rl_succ, ih (fun k hk => h k (by omega)), h n (by omega)]
/-- one is taken away -/
def off (f : Nat → Bool) (b : Nat) : Nat → Bool := fun k => if k = b then false else f k
theorem rl_perm {sc : Nat → Nat} {f : Nat → Bool} {b : Nat} : ∀ {n : Nat}, b < n → f b = true → (((b : Int), sc b) :: rl sc (off f b) n).Perm (rl sc f n)
  | 0, h, _ => by omega
  | n + 1, h, hf => by
    rw [rl_succ, rl_succ]
    by_cases hb : b = n
    · subst hb
      have h1 : off f b b = false := by simp [off]
      rw [h1, hf, if_pos rfl, if_neg (by simp), List.append_nil, rl_congr (g := f) (fun k hk => by simp [off]; omega)]
      exact (List.perm_append_singleton _ _).symm
    · have h1 : off f b n = f n := by simp [off]; omega
      rw [h1]
      have := (rl_perm (sc := sc) (n := n) (by omega) hf).append_right (if f n = true then [((n : Int), sc n)] else [])
      exact this
theorem rl_length_off {sc : Nat → Nat} {f : Nat → Bool} {b n : Nat} (hb : b < n) (hf : f b = true) : (rl sc (off f b) n).length + 1 = (rl sc f n).length := by
  have := (rl_perm (sc := sc) hb hf).length_eq
  simpa using this

theorem sorted_perm (d : List (Int × Nat)) : (sorted d).Perm d := List.mergeSort_perm _ _
theorem sorted_pairwise (d : List (Int × Nat)) : (sorted d).Pairwise fun x y => ¬ ahd y x := by
  have hle : ∀ x y, (fun x y => !(ltOf ordI) y x) x y = true ↔ ¬ ahd y x := fun x y => by simp [ltOrd]
  have := List.pairwise_mergeSort (le := fun x y => !(ltOf ordI) y x) (fun a b c h1 h2 => by
      rw [hle] at *
      unfold ahd at *
      omega) (fun a b => by
      simp only [ltOrd, Bool.or_eq_true, Bool.not_eq_true', decide_eq_false_iff_not]
      unfold ahd
      omega) d
  exact this.imp fun {a b} h => (hle a b).1 h
/-- the first of all stands first -/
theorem sorted_first {d e : List (Int × Nat)} {x : Int × Nat} (hp : (x :: e).Perm d) (hx : ∀ y ∈ d, ¬ ahd y x) : sorted d = x :: sorted e := by
  refine sorted_eq (((sorted_perm e).cons x).trans hp) (List.pairwise_cons.2 ⟨fun y hy => hx y ?_, sorted_pairwise e⟩)
  exact hp.mem_iff.1 (List.mem_cons_of_mem _ ((sorted_perm e).mem_iff.1 hy))
theorem sorted_nil : sorted [] = [] := by unfold sorted; simp

/-- whether a server has slots -/
def wf (ws : List Int) (k : Nat) : Bool := decide (1 ≤ ws.getD k 0 ∧ ws.getD k 0 ≤ 64)
theorem rat_rl (h : Nat) (ws : List Int) (n : Nat) : rat h ws n = rl (fun k => score h k (ws.getD k 0)) (wf ws) n := by
  induction n with
  | zero => rfl
  | succ n ih =>
    rw [rat_succ, rl_succ, ih]
    congr 1
    unfold wf
    by_cases hx : 1 ≤ ws.getD n 0 ∧ ws.getD n 0 ≤ 64
    · rw [if_pos hx, if_pos (decide_eq_true hx)]
    · rw [if_neg hx, if_neg (by rw [decide_eq_false hx]; simp)]
end Go.Proofs.Ytiafnfjgmfnnoaa
