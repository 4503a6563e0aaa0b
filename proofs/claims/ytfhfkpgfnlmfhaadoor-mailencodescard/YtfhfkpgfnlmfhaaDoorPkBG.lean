/- A text of the base. -/
import Derived.Test.YtfhfkpgfnlmfhaaDoorPkBF
import Derived.BigRegion
import Derived.Deep.DeepCutAuto
import Derived.Deep.RegionLaw
import Derived.Deep.AppendLies
/- The document's reader: the next bytes. -/
namespace Go.Proofs.YtfhfkpgfnlmfhaaDoor
open Go.RowKit

/-- 'append' as one step of a region that draws, by its run -/
theorem step_append_runE {P : Program} {ops : Array Oper} {o : Oper} {a : Act} {w : World} {K : Act → World → Prop} {Q : Exit → Act → World → Prop} {E : Prop}
    (hg : o.guard = none) (d x : Operand) (dT sT : TypeId) (hop : o.op = Op.call { callee := Callee.builtin Builtin.append, args := #[d, x], argTypes := #[dT, sT] })
    (v u : Value) (hd : a.eval d = v) (hx : a.eval x = u) {v' : Value} {w' : World} (hr : (Builtin.append_ #[dT, sT] o.type #[v, u]).run P w = .ok v' w') (hK : K (a.put o.dst v') w') :
    if Region.wanted o (yielded ops a.tmps) = true then Oper.wp P o a w K Q else E := by
  have hw : Region.wanted o (yielded ops a.tmps) = true := by simp [Region.wanted, hg]
  rw [if_pos hw]
  unfold Oper.wp
  simp [execOp, hop, resolve, invoke, builtin, hd, hx, hr, Result.andThen]
  exact hK

/-- one more byte behind bytes of the call's own -/
theorem app_byte {w : World} {base : Nat} {a : Option Addr} {k cap : Nat} {xs : List Nat} (h : w.ownsRow base 5 1 (.slice a k cap) k (u8s xs)) (hk : xs.length = k) (x : Nat) (hl : k + 1 ≤ 140737488355328) (hb : base ≤ w.heap.size) (ty : TypeId) :
    ∃ a' cap' w', (Builtin.append_ #[23, 23] ty #[.slice a k cap, .slice (some ⟨w.heap.size, 0, none⟩) 1 1]).run Tryd.prog (w.alloc (.cells #[.int .u8 (x : Int)] 5)).drew = .ok (.slice a' (k + 1) cap') w' ∧ w'.ownsRow base 5 1 (.slice a' (k + 1) cap') (k + 1) (u8s (xs ++ [x])) ∧ ∀ w0, Kept [] w0 w → w0.heap.size ≤ base → Kept [] w0 w' := by
  obtain ⟨i0, hi, hz0, hz1, hz2⟩ := info_parts Tryd.info5
  subst hk
  have k1 : Kept [] w (w.alloc (.cells #[.int .u8 (x : Int)] 5)).drew := ((Kept.refl [] w).alloc _).drew
  have s1 : Sees (w.alloc (.cells #[.int .u8 (x : Int)] 5)).drew (.slice (some ⟨w.heap.size, 0, none⟩) 1 1) [x] := (news_one w x).kept (F := []) (Kept.refl [] _).drew (by simp)
  obtain ⟨v', w', h1, h2, h3, h4⟩ := run_append_sees (P := Tryd.prog) (w.alloc (.cells #[.int .u8 (x : Int)] 5)).drew base 23 ty 5 i0 (.int .u8 0) Tryd.underlying23 hi hz0 hz1 hz2 rfl _ xs (own_kept h k1 (by simp)) _ [x] s1 (by simp; omega) (by simp; omega)
  obtain ⟨a', cap', rfl⟩ := own_len h2
  have hl1 : (xs ++ [x]).length = xs.length + 1 := by simp
  rw [hl1] at h1 h2
  refine ⟨a', cap', w', h1, h2, fun w0 hk0 hb0 => ?_⟩
  exact (hk0.trans k1 (by simp)).grown h3 (fun q hq => Or.inr (by have := (h.lt q hq).1; omega))

theorem Sees.spot {w : World} {v : Value} {bs : List Nat} (h : Sees w v bs) {j : Nat} (hj : j < bs.length) : ∃ b off cap, v = .slice (some ⟨b, off, none⟩) bs.length cap ∧ bs.length ≤ cap ∧ cap ≤ maxLen ∧ w.cell? ⟨b, off + j, none⟩ = some (.int .u8 (bs.getD j 0 : Nat)) := by
  rcases h with ⟨_, h2⟩ | ⟨b, off, cap, hv, h1, h2, _, h4⟩
  · rw [h2] at hj; simp at hj
  · exact ⟨b, off, cap, hv, h1, h2, h4 j hj⟩
theorem take_next (ps : List Nat) (a k : Nat) (h : a + k < ps.length) : (ps.drop a).take k ++ [ps.getD (a + k) 0] = (ps.drop a).take (k + 1) := by
  rw [List.take_add_one]
  simp [h]

end Go.Proofs.YtfhfkpgfnlmfhaaDoor
