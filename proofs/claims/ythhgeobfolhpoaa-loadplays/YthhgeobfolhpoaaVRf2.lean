/- The document's Hit. -/
import Derived.Test.YthhgeobfolhpoaaVPl0
import Derived.BigRegion
import Derived.Deep.RegionLaw
import Derived.Deep.DeepCutAuto
import Derived.Deep.OwnRows
import Derived.Deep.AppendLies
namespace Go.Proofs.Ythhgeobfolhpoaa
open Go.RowKit

theorem infoHt : (Try.prog.info? 81).map (fun i => (i.zero, i.size, i.bytes)) = some (some (.agg #[.int .i64 0, .int .i64 0, .float .f64 0]), 3, 24) := by kernel_rfl
theorem hc_one (x : Ht) : ∀ u ∈ hc x, u.oneCell' = true := by
  intro u hu
  simp [hc] at hu
  rcases hu with rfl | rfl | rfl <;> rfl
theorem flatH_app (a : List Ht) (x : Ht) : flatH (a ++ [x]) = flatH a ++ hc x := by simp [flatH]
theorem step_append_runE {P : Program} {ops : Array Oper} {o : Oper} {a : Act} {w : World} {K : Act → World → Prop} {Q : Exit → Act → World → Prop} {E : Prop}
    (hg : o.guard = none) (d x : Operand) (dT sT : TypeId) (hop : o.op = Op.call { callee := Callee.builtin Builtin.append, args := #[d, x], argTypes := #[dT, sT] })
    (v u : Value) (hd : a.eval d = v) (hx : a.eval x = u) {v' : Value} {w' : World} (hr : (Builtin.append_ #[dT, sT] o.type #[v, u]).run P w = .ok v' w') (hK : K (a.put o.dst v') w') :
    if Region.wanted o (yielded ops a.tmps) = true then Oper.wp P o a w K Q else E := by
  have hw : Region.wanted o (yielded ops a.tmps) = true := by simp [Region.wanted, hg]
  rw [if_pos hw]
  unfold Oper.wp
  simp [execOp, hop, resolve, invoke, builtin, hd, hx, hr, Result.andThen]
  exact hK
/-- one hit more -/
theorem rh_append {w : World} {b pc : Nat} {pa : Option Addr} {r : Rt} (h : Rp w b pa pc r) (x : Ht) (hb : b < w.heap.size) (hpl : (r.all.length + 1) * 24 ≤ 140737488355328) (ty : TypeId) :
    ∃ a2 c2 w2, (Builtin.append_ #[66, 66] ty #[.slice pa r.all.length pc, .slice (some ⟨w.heap.size, 0, none⟩) 1 1]).run Try.prog (w.alloc (.cells (hc x).toArray 81)) = .ok (.slice a2 (r.all.length + 1) c2) w2 ∧
      Kept (Value.slice pa r.all.length pc).ownBlock.toList w w2 ∧ (∀ q, (Value.slice a2 (r.all.length + 1) c2).ownBlock = some q → (Value.slice pa r.all.length pc).ownBlock = some q ∨ w.heap.size ≤ q) ∧ (∀ q, (Value.slice a2 (r.all.length + 1) c2).ownBlock = some q → q < w2.heap.size) ∧
      Rp (w2.setCell ⟨b, 3, none⟩ (.slice a2 (r.all.length + 1) c2)) b a2 c2 { r with all := r.all ++ [x] } := by
  obtain ⟨i0, hi, hz0, hz1, hz2⟩ := info_parts infoHt
  obtain ⟨W, hW⟩ : ∃ W, W = w.alloc (.cells (hc x).toArray 81) := ⟨_, rfl⟩
  have hka : Kept [] w W := by rw [hW]; exact (Kept.refl [] w).alloc _
  have hsz : W.heap.size = w.heap.size + 1 := by rw [hW]; simp
  have hnew : Blk W w.heap.size (hc x).toArray 81 := by rw [hW]; exact Blk.new _ _ _
  have hW2 := own_kept h.row hka (by simp)
  rw [← hW]
  obtain ⟨v2, w2, hr, ho2, hg3, _, hat2⟩ := run_append_own_at (P := Try.prog) W 0 66 ty 81 i0 _ 3 24 Try.underlying66 hi hz0 hz1 hz2 rfl (by omega) _ r.all.length (flatH r.all) hW2 ⟨w.heap.size, 0, none⟩ 1 1 (hc x) rfl
    (fun j u hu => by rw [Addr.add_mid, Nat.zero_add, hnew.cell]; simpa using hu) (hc_one x) (by unfold maxLen; omega) (by omega) (by omega)
  obtain ⟨a2, c2, rfl⟩ := own_len ho2
  have hkw : Kept (Value.slice pa r.all.length pc).ownBlock.toList w w2 := (hka.mono (G := (Value.slice pa r.all.length pc).ownBlock.toList) (fun _ hx => by cases hx)).grown hg3 (fun q hq => Or.inl (by simp [hq]))
  have hnb : ∀ q, (Value.slice a2 (r.all.length + 1) c2).ownBlock = some q → (Value.slice pa r.all.length pc).ownBlock = some q ∨ q = w.heap.size + 1 := by
    intro q hq
    rcases hat2 with e | e
    · left; rw [← e]; exact hq
    · right; rw [hq, hsz] at e; injection e
  have hlt2 : ∀ q, (Value.slice a2 (r.all.length + 1) c2).ownBlock = some q → q < w2.heap.size := fun q hq => (ho2.lt q hq).2
  have hapart : ∀ q, (Value.slice a2 (r.all.length + 1) c2).ownBlock = some q → q ≠ b := fun q hq => by
    rcases hnb q hq with e | e
    · exact h.apart q e
    · omega
  have hbn : b ∉ (Value.slice pa r.all.length pc).ownBlock.toList := fun hm => by simp at hm; exact h.apart b hm rfl
  have hkm : Kept [b] w2 (w2.setCell ⟨b, 3, none⟩ (.slice a2 (r.all.length + 1) c2)) := (Kept.refl _ _).setCell (p := ⟨b, 3, none⟩) (Or.inl (by simp)) _
  refine ⟨a2, c2, w2, hr, hkw, fun q hq => ?_, hlt2, ?_, ?_, fun q hq => ?_⟩
  · rcases hnb q hq with e | e
    · exact Or.inl e
    · right; omega
  · have := (h.head.kept hkw hbn).set 3 (.slice a2 (r.all.length + 1) c2)
    rw [List.setIfInBounds_toArray] at this
    simpa [rcells] using this
  · have := own_kept ho2 hkm (fun p hp => by simp; exact hapart p hp)
    show World.ownsRow _ 0 _ 3 (.slice a2 (r.all ++ [x]).length c2) (r.all ++ [x]).length (flatH (r.all ++ [x]))
    rw [flatH_app]
    simpa using this
  · exact hapart q (by simpa using hq)
end Go.Proofs.Ythhgeobfolhpoaa
