/- Two arrays of integers held against each other. -/
import Derived.Test.YtlcepoomjnpfpaaDoorArr
import Derived.ChangeKeysEq
namespace Go.Proofs.YtlcepoomjnpfpaaDoor
open Go.RowKit

theorem run_eqItems_ints {P : Program} (w : World) (d : Nat) {e : TypeId} {kd : IntKind} (hu : P.underlying e = some (.int kd)) (xs ys : Array Value) (f g : Nat → Nat) :
    ∀ (is : List Nat), (∀ i ∈ is, xs[i]? = some (.int kd (f i : Nat))) → (∀ i ∈ is, ys[i]? = some (.int kd (g i : Nat))) →
    ∃ r : Bool, (Op.eqItems (d + 1) e 1 xs ys is).run P w = .ok r w ∧ (r = true ↔ ∀ i ∈ is, f i = g i)
  | [], _, _ => ⟨true, by simp [Op.eqItems], by simp⟩
  | i :: is, hx, hy => by
    obtain ⟨r, hr, hi⟩ := run_eqItems_ints w d hu xs ys f g is (fun j hj => hx j (by simp [hj])) (fun j hj => hy j (by simp [hj]))
    have hagg : (isAgg e).run P w = .ok false w := by
      unfold isAgg
      rw [Sem.run_bind, run_underlying hu w]
      simp
    have px : (part e xs i).run P w = .ok (.int kd (f i : Nat)) w := by simp [part, Sem.run_bind, hagg, hx i (by simp)]
    have py : (part e ys i).run P w = .ok (.int kd (g i : Nat)) w := by simp [part, Sem.run_bind, hagg, hy i (by simp)]
    by_cases h : f i = g i
    · refine ⟨r, ?_, ?_⟩
      · simp [Op.eqItems, Sem.run_bind, px, py, run_equalIn_int w d e kd kd _ _ hu, h, hr]
      · rw [hi]; simp [h]
    · refine ⟨false, ?_, ?_⟩
      · have h2 : ((f i : Int) == (g i : Int)) = false := by rw [beq_eq_false_iff_ne]; omega
        simp [Op.eqItems, Sem.run_bind, px, py, run_equalIn_int w d e kd kd _ _ hu, h2]
      · simp [h]

theorem run_equal_ints {P : Program} (w : World) {t e : TypeId} {n : Nat} {kd : IntKind} {i : TypeInfo} (ht : P.underlying t = some (.array n e)) (hu : P.underlying e = some (.int kd)) (hi : P.info? e = some i) (hc : P.cellsOf e = 1)
    (xs ys : Array Value) (f g : Nat → Nat) (hx : ∀ i, i < n → xs[i]? = some (.int kd (f i : Nat))) (hy : ∀ i, i < n → ys[i]? = some (.int kd (g i : Nat))) :
    ∃ r : Bool, (Op.equal t (.agg xs) (.agg ys)).run P w = .ok r w ∧ (r = true ↔ ∀ i, i < n → f i = g i) := by
  obtain ⟨r, h1, h2⟩ := run_eqItems_ints w 9998 hu xs ys f g (List.range n) (fun i hi => hx i (by simpa using hi)) (fun i hi => hy i (by simpa using hi))
  refine ⟨r, ?_, by rw [h2]; simp⟩
  unfold Op.equal
  rw [show Op.maxDepth = 9999 + 1 from rfl, run_equalIn_array w 9999 xs ys ht hi, hc]
  exact h1

theorem wp_eql_arr {P : Program} {op : Oper} {a : Act} {w : World} {K : Act → World → Prop} {Q : Exit → Act → World → Prop} (t u : TypeId) (x y : Operand) (ho : op.op = .binOp .eql t x y u)
    (xs ys : Array Value) (hx : a.eval x = .agg xs) (hy : a.eval y = .agg ys) (hg : P.eqGuardType P.depth t = false) (r : Bool) (hr : (Op.equal t (.agg xs) (.agg ys)).run P w = .ok r w)
    (h : K (a.put op.dst (.bool r)) w) : op.wp P a w K Q := by
  have e1 : (eqGuard .eql t x y (.agg xs) (.agg ys)).run P w = .ok () w := by
    simp [eqGuard, hg]
  have e2 : (binOp .eql t (.agg xs) (.agg ys)).run P w = .ok (.bool r) w := by
    simp [binOp, hr]
  unfold Oper.wp execOp
  simp only [ho, hx, hy, Sem.run_bind, e1, e2, Result.andThen_ok, Sem.run_pure]
  exact h
end Go.Proofs.YtlcepoomjnpfpaaDoor
