/- TreeDepth: binary digits, and marks taken off one by one. -/
import Derived.Test.YtbpeeifgfjpghaaTDepK
namespace Go.Proofs.Ytbpeeifgfjpghaa
open Go.RowKit Go.Shelf
set_option linter.unusedVariables false

/-- how many binary digits -/
def dig (n : Nat) : Nat := if h : n = 0 then 0 else dig (n / 2) + 1
termination_by n
decreasing_by omega
theorem dig_zero : dig 0 = 0 := by unfold dig; simp
theorem dig_pos {n : Nat} (h : 0 < n) : dig n = dig (n / 2) + 1 := by rw [dig]; simp; omega
theorem dig_up (n : Nat) : n < 2 ^ dig n := by
  induction n using Nat.strongRecOn with
  | _ n ih =>
    by_cases h : n = 0
    · subst h; rw [dig_zero]; decide
    · rw [dig_pos (by omega), Nat.pow_succ]
      have := ih (n / 2) (by omega)
      omega
theorem dig_min : ∀ (d n : Nat), n < 2 ^ d → dig n ≤ d
  | 0, n, h => by
    have : n = 0 := by simpa using h
    subst this; rw [dig_zero]; exact Nat.le_refl _
  | d + 1, n, h => by
    by_cases h0 : n = 0
    · subst h0; rw [dig_zero]; exact Nat.zero_le _
    · rw [dig_pos (by omega)]
      rw [Nat.pow_succ] at h
      have := dig_min d (n / 2) (by omega)
      omega
theorem depth_ok (t : TI) (h : t.avl) : t.depth ≤ 2 * dig t.size ∧ dig t.size ≤ t.depth := by
  have h1 := Tr.size_le t
  have h2 := Tr.le_size t h
  have h3 := dig_up t.size
  constructor
  · have h4 : 2 ^ ((t.depth + 1) / 2) ≤ 2 ^ dig t.size := by omega
    have h5 := (Nat.pow_le_pow_iff_right (by decide : 1 < 2)).1 h4
    omega
  · exact dig_min _ _ (by omega)

theorem leaves_all {F : Fence} {m : Nat} {fn : Func} {tmps : Array Value} {R : Ending → World → Prop} : ∀ (Ds : List Nat) (W : World), Ds.Nodup → (∀ D ∈ Ds, W.heap[D]? = some (.deferred (some []))) →
    (∀ W', Kept Ds W W' → LeavesIn F m Try.prog fn tmps R [] .returning W') → LeavesInM F m Try.prog fn tmps R (Ds.map fun D => { target := .collected D, args := #[] }) .returning W
  | [], W, _, _, h => h W (Kept.refl _ _)
  | D :: Ds, W, hn, hd, h => by
    have hnd := List.nodup_cons.1 hn
    have hD := hd D (List.mem_cons_self ..)
    refine ⟨by simp, .inl ⟨D, _, rfl, run_takeDeferred hD, ?_⟩⟩
    refine leaves_all Ds _ hnd.2 (fun D' hD' => (World.putObj_heap_other (show D' ≠ D from fun e => hnd.1 (by rw [← e]; exact hD'))).trans (hd D' (List.mem_cons_of_mem _ hD'))) (fun W' hW => h W' ?_)
    have hp : Kept [D] W (W.putObj D (.deferred none)) := (Kept.refl [D] W).grown (grownBy_putObj' W D _) (fun k e => by cases e; exact Or.inl (by simp))
    refine (hp.mono (G := D :: Ds) (fun x hx => Or.inl (by simp at hx; simp [hx]))).trans hW (fun x hx => Or.inl (List.mem_cons_of_mem _ hx))
end Go.Proofs.Ytbpeeifgfjpghaa
