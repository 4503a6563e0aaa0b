/- Whole arrays: a load and a store of one, as operations of a walk. -/
import Derived.Test.YtlcepoomjnpfpaaDoorSteps
import Derived.Deep.WholeRow
namespace Go.Proofs.YtlcepoomjnpfpaaDoor
open Go.RowKit

theorem wpList_load_arr {P : Program} {w : World} {ops : Array Oper} {rest : List Oper} {o : Oper} {a : Act} {Q : Exit → Act → World → Prop} (p : Operand) (t : TypeId)
    (ho : o.op = .load t p) (hgd : o.guard = none) (b n : Nat) (e : TypeId) (cs : Array Value) (hp : a.eval p = .pointer (some ⟨b, 0, none⟩)) (hb : Blk w b cs t)
    (hu : P.underlying t = some (.array n e)) (hi : (P.info? t).map (·.size) = some cs.size)
    (h : wpList P ops Q rest (a.put o.dst (.agg cs)) w) : wpList P ops Q (o :: rest) a w := by
  refine wpList_plain hgd fun K hK => ?_
  unfold Oper.wp execOp
  simp only [ho, Instr.loadAt, Instr.sureAddr, Sem.run_bind, Sem.run_pure, Result.andThen_ok, hp, run_loadVar_row w b t t cs (0, 0) _ hb hu rfl hi]
  exact hK _ _ h

theorem wpList_store_arr {P : Program} {w : World} {ops : Array Oper} {rest : List Oper} {o : Oper} {a : Act} {Q : Exit → Act → World → Prop} (p x : Operand) (t : TypeId)
    (ho : o.op = .store t p x) (hgd : o.guard = none) (b : Nat) (old cs : Array Value) (hp : a.eval p = .pointer (some ⟨b, 0, none⟩)) (hx : a.eval x = .agg cs) (hb : Blk w b old t)
    (hi : (P.info? t).map (·.size) = some cs.size) (hs : old.size = cs.size) (h1 : cs.all (·.oneCell') = true)
    (hd : o.dst = none) (h : wpList P ops Q rest a (w.setRow b cs)) : wpList P ops Q (o :: rest) a w := by
  have e : a.put o.dst undef = a := by rw [hd]; rfl
  refine wpList_plain hgd fun K hK => ?_
  unfold Oper.wp execOp
  simp only [ho, Instr.storeAt, Instr.sureAddr, Sem.run_bind, Sem.run_pure, Result.andThen_ok, hp, hx, run_storeVar_row w b t t old cs hb hi hs h1]
  exact hK _ _ (by rw [e]; exact h)

theorem Blk.row {w : World} {b : Nat} {old cs : Array Value} {t : TypeId} (h : Blk w b old t) : Blk (w.setRow b cs) b cs t := by
  unfold Blk at h ⊢
  simp [World.setRow, Array.getElem?_modify, h]
theorem Kept.row {F : List Nat} {a w : World} (h : Kept F a w) {b : Nat} (hp : b ∈ F ∨ a.heap.size ≤ b) (cs : Array Value) : Kept F a (w.setRow b cs) :=
  h.trans (G := [b]) ⟨rfl, rfl, rfl, by simp [World.setRow], fun k _ hn => by
    have : ¬ b = k := fun e => hn (by simp [e])
    simp [World.setRow, Array.getElem?_modify, this]⟩ (fun x hx => by simp at hx; subst hx; exact hp)

theorem ret_arr {P : Program} {fn : Func} {R : Ending → World → Prop} {a : Act} {w : World} {p : Tmp} {ty e : TypeId} {b n : Nat} {cs : Array Value}
    (hr : fn.results = #[.cell p ty]) (hp : a.tmps.getD p undef = .pointer (some ⟨b, 0, none⟩)) (hb : Blk w b cs ty)
    (hu : P.underlying ty = some (.array n e)) (hi : (P.info? ty).map (·.size) = some cs.size) (hd : a.defers = []) (hR : R (.returned (.agg cs)) w) : bodyPost P fn R .ret a w := by
  refine bodyPost_ret (v := .agg cs) ?_ hd hR
  have hp2 : a.tmps[p]?.getD undef = .pointer (some ⟨b, 0, none⟩) := by simpa using hp
  simp [results, hr, hp2, asAddr, run_loadVar_row w b ty ty cs (0, 0) _ hb hu rfl hi]
end Go.Proofs.YtlcepoomjnpfpaaDoor
