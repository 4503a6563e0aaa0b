/- A weight that changes: the order of all others. -/
import Derived.Test.YtiafnfjgmfnnoaaJLentI
namespace Go.Proofs.Ytiafnfjgmfnnoaa
open Go.RowKit Go.Sort Go.Shelf

/-- a list without a number -/
def wout (l : List Int) (n : Int) : List Int := l.filter fun x => decide (x ≠ n)
/-- where a number stands -/
def idx : List Int → Int → Nat
  | [], _ => 0
  | x :: l, n => if x = n then 0 else idx l n + 1
def plc (l : List Int) (n : Int) : Int := if n ∈ l then (idx l n : Int) else -1

theorem idx_at : ∀ {l : List Int} {n : Int} {k : Nat}, k < l.length → l.getD k 0 = n → (∀ j, j < k → l.getD j 0 ≠ n) → idx l n = k
  | [], n, k, hk, _, _ => by simp at hk
  | x :: l, n, 0, _, he, _ => by
    have : x = n := by simpa using he
    unfold idx
    rw [if_pos this]
  | x :: l, n, k + 1, hk, he, hb => by
    have h0 : x ≠ n := by simpa using hb 0 (by omega)
    have := idx_at (l := l) (n := n) (k := k) (by simpa using hk) (by simpa using he) (fun j hj => by simpa using hb (j + 1) (by omega))
    unfold idx
    rw [if_neg h0, this]
theorem plc_at {l : List Int} {n : Int} {k : Nat} (hk : k < l.length) (he : l.getD k 0 = n) (hb : ∀ j, j < k → l.getD j 0 ≠ n) : plc l n = k := by
  have e1 : l[k] = n := by rw [List.getD, List.getElem?_eq_getElem hk] at he; exact he
  have hm : n ∈ l := by rw [← e1]; exact List.getElem_mem hk
  unfold plc
  rw [if_pos hm, idx_at hk he hb]
theorem plc_none {l : List Int} {n : Int} (hb : ∀ j, j < l.length → l.getD j 0 ≠ n) : plc l n = -1 := by
  unfold plc
  rw [if_neg]
  intro hm
  obtain ⟨j, hj, he⟩ := List.getElem_of_mem hm
  exact hb j hj (by rw [List.getD, List.getElem?_eq_getElem hj]; exact he)
theorem wout_take {l : List Int} {n : Int} {k : Nat} (hk : k < l.length) : wout (l.take (k + 1)) n = wout (l.take k) n ++ (if l.getD k 0 ≠ n then [l.getD k 0] else []) := by
  unfold wout
  rw [List.take_add_one, List.filter_append, List.getElem?_eq_getElem hk, Option.toList_some, List.getD, List.getElem?_eq_getElem hk, Option.getD_some]
  congr 1
  by_cases h : l[k] = n
  · simp [h]
  · simp [h]

theorem sorted_filter (d : List (Int × Nat)) (p : Int × Nat → Bool) : (sorted d).filter p = sorted (d.filter p) :=
  (sorted_eq ((sorted_perm d).filter p) ((sorted_pairwise d).filter p)).symm
theorem rl_filter {sc : Nat → Nat} {f : Nat → Bool} {q : Nat} : ∀ {n : Nat}, (rl sc f n).filter (fun x => decide (x.1 ≠ (q : Int))) = rl sc (off f q) n
  | 0 => rfl
  | n + 1 => by
    rw [rl_succ, rl_succ, List.filter_append, rl_filter]
    congr 1
    by_cases hn : n = q
    · subst hn
      have h1 : off f n n = false := by simp [off]
      rw [h1]
      cases f n <;> simp
    · have h1 : off f q n = f n := by simp [off]; omega
      rw [h1]
      split
      · simp; omega
      · rfl
theorem wout_map (d : List (Int × Nat)) (n : Int) : wout (d.map (·.1)) n = (d.filter fun x => decide (x.1 ≠ n)).map (·.1) := by
  unfold wout
  rw [List.filter_map]
  rfl
/-- the order without one server -/
theorem wout_rl (sc : Nat → Nat) (f : Nat → Bool) (n q : Nat) : wout ((sorted (rl sc f n)).map (·.1)) q = (sorted (rl sc (off f q) n)).map (·.1) := by
  rw [wout_map, sorted_filter, rl_filter]
theorem rl_length_eq (sc sc' : Nat → Nat) (f : Nat → Bool) (n : Nat) : (rl sc f n).length = (rl sc' f n).length := by
  induction n with
  | zero => rfl
  | succ n ih => rw [rl_succ, rl_succ, List.length_append, List.length_append, ih]; split <;> rfl
theorem rl_congr2 {sc sc' : Nat → Nat} {f g : Nat → Bool} {n : Nat} (h : ∀ k, k < n → f k = g k ∧ (f k = true → sc k = sc' k)) : rl sc f n = rl sc' g n := by
  induction n with
  | zero => rfl
  | succ n ih =>
    rw [rl_succ, rl_succ, ih (fun k hk => h k (by omega)), (h n (by omega)).1]
    by_cases hg : g n = true
    · rw [if_pos hg, if_pos hg, (h n (by omega)).2 (by rw [(h n (by omega)).1]; exact hg)]
    · rw [if_neg hg, if_neg hg]
/-- how often a server stands in the order -/
theorem count_rl {sc : Nat → Nat} {f : Nat → Bool} {n i : Nat} (hi : i < n) : ((sorted (rl sc f n)).map (·.1)).length = (wout ((sorted (rl sc f n)).map (·.1)) i).length + (if f i = true then 1 else 0) := by
  rw [wout_rl, List.length_map, List.length_map, sorted_length, sorted_length]
  by_cases hf : f i = true
  · rw [if_pos hf, rl_length_off hi hf]
  · rw [if_neg hf, Nat.add_zero]
    congr 1
    refine rl_congr (fun k hk => ?_)
    unfold off
    by_cases hk2 : k = i
    · rw [if_pos hk2, hk2]; simpa using hf
    · rw [if_neg hk2]
theorem rl_fst {sc : Nat → Nat} {f : Nat → Bool} : ∀ {n : Nat}, (rl sc f n).Pairwise fun x y => x.1 ≠ y.1
  | 0 => List.Pairwise.nil
  | n + 1 => by
    rw [rl_succ]
    refine List.pairwise_append.2 ⟨rl_fst, ?_, ?_⟩
    · split
      · exact List.pairwise_singleton _ _
      · exact List.Pairwise.nil
    · intro x hx y hy
      obtain ⟨k, h1, _, h3⟩ := mem_rl.1 hx
      split at hy
      · simp at hy
        rw [h3, hy]
        simp; omega
      · cases hy
theorem sorted_fst (sc : Nat → Nat) (f : Nat → Bool) (n : Nat) : (sorted (rl sc f n)).Pairwise fun x y => x.1 ≠ y.1 :=
  (sorted_perm _).symm.pairwise rl_fst (fun h => fun e => h e.symm)
/-- who stands in the order, and how -/
theorem order_facts {sc : Nat → Nat} {f : Nat → Bool} {n j : Nat} (hj : j < ((sorted (rl sc f n)).map (·.1)).length) :
    ∃ k : Nat, ((sorted (rl sc f n)).map (·.1)).getD j 0 = (k : Int) ∧ k < n ∧ f k = true ∧
      (∀ i, i < j → ∃ q : Nat, ((sorted (rl sc f n)).map (·.1)).getD i 0 = (q : Int) ∧ q < n ∧ ¬ sc q < sc k ∧ (sc q = sc k → q < k)) := by
  rw [List.length_map] at hj
  have hx : ∀ i, i < (sorted (rl sc f n)).length → ∃ k : Nat, (sorted (rl sc f n)).getD i (0, 0) = ((k : Int), sc k) ∧ k < n ∧ f k = true := by
    intro i hi
    have hm : (sorted (rl sc f n))[i] ∈ rl sc f n := (sorted_perm _).mem_iff.1 (List.getElem_mem hi)
    obtain ⟨k, h1, h2, h3⟩ := mem_rl.1 hm
    exact ⟨k, by rw [List.getD, List.getElem?_eq_getElem hi]; exact h3, h1, h2⟩
  have hg : ∀ i, i < (sorted (rl sc f n)).length → ((sorted (rl sc f n)).map (·.1)).getD i 0 = ((sorted (rl sc f n)).getD i (0, 0)).1 := by
    intro i hi
    simp [List.getD, List.getElem?_map, List.getElem?_eq_getElem hi]
  obtain ⟨k, h1, h2, h3⟩ := hx j hj
  refine ⟨k, by rw [hg j hj, h1], h2, h3, fun i hi => ?_⟩
  obtain ⟨q, g1, g2, g3⟩ := hx i (by omega)
  refine ⟨q, by rw [hg i (by omega), g1], g2, ?_⟩
  have p1 := List.pairwise_iff_getElem.1 (sorted_pairwise (rl sc f n)) i j (by omega) hj hi
  have p2 := List.pairwise_iff_getElem.1 (sorted_fst sc f n) i j (by omega) hj hi
  rw [List.getD, List.getElem?_eq_getElem (by omega)] at g1
  rw [List.getD, List.getElem?_eq_getElem hj] at h1
  simp only [Option.getD_some] at g1 h1
  rw [g1, h1] at p1 p2
  unfold ahd at p1
  simp only at p1 p2
  omega

/-- what stands ahead of a number that stands once -/
theorem plc_split {l1 l2 : List Int} {n : Int} (h : n ∉ l1) : plc (l1 ++ n :: l2) n = l1.length := by
  refine plc_at (by simp) ?_ ?_
  · rw [List.getD, List.getElem?_append_right (Nat.le_refl _), Nat.sub_self]; rfl
  · intro j hj he
    rw [List.getD, List.getElem?_append_left hj, List.getElem?_eq_getElem hj] at he
    exact h (by rw [← he]; exact List.getElem_mem hj)
theorem wout_split {l1 l2 : List Int} {n : Int} (h1 : n ∉ l1) (h2 : n ∉ l2) : wout (l1 ++ n :: l2) n = l1 ++ l2 := by
  have e : ∀ l : List Int, n ∉ l → wout l n = l := fun l hl => List.filter_eq_self.2 (fun x hx => by
    simp; intro he; rw [he] at hx; exact hl hx)
  unfold wout at *
  rw [List.filter_append, List.filter_cons]
  simp only [ne_eq, not_true_eq_false, decide_false, Bool.false_eq_true, if_false]
  rw [show l1.filter (fun x => decide (¬ x = n)) = l1 from e l1 h1, show l2.filter (fun x => decide (¬ x = n)) = l2 from e l2 h2]

/-- a server with a greater score comes no later -/
theorem place_le {sc sc' : Nat → Nat} {f f' : Nat → Bool} {n n' q : Nat} (hq : q < n) (hq' : q < n') (hf : f q = true) (hf' : f' q = true) (hle : sc q ≤ sc' q) (hsc : ∀ k, k ≠ q → f k = true → sc' k = sc k)
    (hw : wout ((sorted (rl sc f n)).map (·.1)) q = wout ((sorted (rl sc' f' n')).map (·.1)) q) :
    0 ≤ plc ((sorted (rl sc' f' n')).map (·.1)) q ∧ plc ((sorted (rl sc' f' n')).map (·.1)) q ≤ plc ((sorted (rl sc f n)).map (·.1)) q := by
  have split : ∀ (sc : Nat → Nat) (f : Nat → Bool) (n : Nat), q < n → f q = true → ∃ d1 d2, sorted (rl sc f n) = d1 ++ ((q : Int), sc q) :: d2 ∧ (∀ x ∈ d1, x.1 ≠ (q : Int) ∧ ahd x ((q : Int), sc q) ∧ ∃ k : Nat, f k = true ∧ x = ((k : Int), sc k)) ∧ (∀ x ∈ d2, x.1 ≠ (q : Int) ∧ ahd ((q : Int), sc q) x ∧ ∃ k : Nat, f k = true ∧ x = ((k : Int), sc k)) := by
    intro sc f n hq hf
    have hm : ((q : Int), sc q) ∈ sorted (rl sc f n) := (sorted_perm _).mem_iff.2 (mem_rl.2 ⟨q, hq, hf, rfl⟩)
    obtain ⟨d1, d2, hd⟩ := List.append_of_mem hm
    have p1 := sorted_pairwise (rl sc f n)
    have p2 := sorted_fst sc f n
    rw [hd] at p1 p2
    obtain ⟨-, a2, a3⟩ := List.pairwise_append.1 p1
    obtain ⟨-, b2, b3⟩ := List.pairwise_append.1 p2
    have hmem : ∀ x ∈ d1 ++ ((q : Int), sc q) :: d2, ∃ k : Nat, f k = true ∧ x = ((k : Int), sc k) := by
      intro x hx
      rw [← hd] at hx
      obtain ⟨k, _, h2, h3⟩ := mem_rl.1 ((sorted_perm _).mem_iff.1 hx)
      exact ⟨k, h2, h3⟩
    refine ⟨d1, d2, hd, fun x hx => ?_, fun x hx => ?_⟩
    · have h1 := a3 x hx _ (List.mem_cons_self ..)
      have h2 := b3 x hx _ (List.mem_cons_self ..)
      refine ⟨h2, ?_, hmem x (List.mem_append_left _ hx)⟩
      unfold ahd at *
      simp only at *
      omega
    · have h1 := (List.pairwise_cons.1 a2).1 x hx
      have h2 := (List.pairwise_cons.1 b2).1 x hx
      refine ⟨fun e => h2 e.symm, ?_, hmem x (List.mem_append_right _ (List.mem_cons_of_mem _ hx))⟩
      unfold ahd at *
      simp only at *
      omega
  obtain ⟨d1, d2, hd, hd1, hd2⟩ := split sc f n hq hf
  obtain ⟨e1, e2, he, he1, he2⟩ := split sc' f' n' hq' hf'
  rw [hd, he] at hw ⊢
  rw [List.map_append, List.map_append, List.map_cons, List.map_cons] at hw ⊢
  have n1 : (q : Int) ∉ d1.map (·.1) := fun h => by
    obtain ⟨x, hx, hxe⟩ := List.mem_map.1 h
    exact (hd1 x hx).1 hxe
  have n2 : (q : Int) ∉ d2.map (·.1) := fun h => by
    obtain ⟨x, hx, hxe⟩ := List.mem_map.1 h
    exact (hd2 x hx).1 hxe
  have m1 : (q : Int) ∉ e1.map (·.1) := fun h => by
    obtain ⟨x, hx, hxe⟩ := List.mem_map.1 h
    exact (he1 x hx).1 hxe
  have m2 : (q : Int) ∉ e2.map (·.1) := fun h => by
    obtain ⟨x, hx, hxe⟩ := List.mem_map.1 h
    exact (he2 x hx).1 hxe
  rw [wout_split n1 n2, wout_split m1 m2] at hw
  rw [plc_split n1, plc_split m1, List.length_map, List.length_map]
  refine ⟨by omega, ?_⟩
  rcases Nat.lt_or_ge d1.length e1.length with hlt | hge
  · exfalso
    have hx1 : (e1.map (·.1))[d1.length]? = some (e1[d1.length].1) := by simp [List.getElem?_eq_getElem hlt]
    have h3 : (d1.map (·.1) ++ d2.map (·.1))[d1.length]? = some (e1[d1.length].1) := by
      rw [hw, List.getElem?_append_left (by simpa using hlt)]; exact hx1
    rw [List.getElem?_append_right (by simp)] at h3
    simp only [List.length_map, Nat.sub_self] at h3
    obtain ⟨y, hy, hye⟩ : ∃ y, y ∈ d2 ∧ y.1 = e1[d1.length].1 := by
      cases d2 with
      | nil => simp at h3
      | cons y d2 => exact ⟨y, by simp, by simpa using h3⟩
    obtain ⟨_, ay, ky, fy, hky⟩ := hd2 y hy
    obtain ⟨ne, ax, kx, fx, hkx⟩ := he1 _ (List.getElem_mem hlt)
    generalize e1[d1.length] = x at *
    subst hky hkx
    simp only at *
    obtain rfl : ky = kx := by omega
    have := hsc ky (by omega) fy
    unfold ahd at ax ay
    simp only at ax ay
    omega
  · omega

theorem best_mono (h s : Nat) {n m : Nat} (hnm : n ≤ m) : best h s n ≤ best h s m := by
  induction m with
  | zero => have : n = 0 := by omega
            rw [this]; exact Nat.le_refl _
  | succ m ih =>
    by_cases e : n = m + 1
    · rw [e]; exact Nat.le_refl _
    · have := ih (by omega)
      rw [best_succ]
      omega
theorem score_mono (h : Nat) {s : Nat} {a b : Int} (hs : s < 65536) (h1 : 1 ≤ a) (h2 : a ≤ b) (h3 : b ≤ 64) : score h s a ≤ score h s b := by
  have f1 : fits s a := ⟨h1, by omega, by omega, by omega⟩
  have f2 : fits s b := ⟨by omega, h3, by omega, by omega⟩
  unfold score
  rw [if_pos f1, if_pos f2]
  exact best_mono _ _ (by omega)
end Go.Proofs.Ytiafnfjgmfnnoaa
