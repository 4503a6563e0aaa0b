/- Steps of a script; the state grows. -/
import Derived.Test.YtgiifedljebclaaDStart
namespace Go.Proofs.Ytgiifedljebclaa.flo
open Go.RowKit ref

structure Opr where
  kind : Int
  who : Int
  n : Int
def opc (o : Opr) : List Value := [.int .i64 o.kind, .int .i64 o.who, .int .i64 o.n]
def Ops (w : World) (v : Value) (os : List Opr) : Prop :=
  ∃ a cap, v = .slice a os.length cap ∧ os.length ≤ 1048576 ∧ ∀ k o, os[k]? = some o → ∃ b off, a = some ⟨b, off, none⟩ ∧ b < w.heap.size ∧ w.rangeAt b (off + k * 3) (opc o)
theorem Ops.kept {w w' : World} {v : Value} {os : List Opr} (h : Ops w v os) (hk : Kept [] w w') : Ops w' v os := by
  obtain ⟨a, cap, rfl, h1, h2⟩ := h
  refine ⟨a, cap, rfl, h1, fun k o ho => ?_⟩
  obtain ⟨b, off, rfl, h4, h5⟩ := h2 k o ho
  exact ⟨b, off, rfl, Nat.lt_of_lt_of_le h4 hk.size, fun j u hu => (hk.cell (p := ⟨b, off + k * 3 + j, none⟩) h4 (by simp)).trans (h5 j u hu)⟩
theorem three_at (f : Nat → Value) {i : Nat} (hi : i < 3) : (#[f 0, f 1, f 2] : Array Value)[i]? = some (f i) := by
  have : i = 0 ∨ i = 1 ∨ i = 2 := by omega
  rcases this with rfl | rfl | rfl <;> rfl
theorem Og.more {L N M : Nat} {val : Nat → Nat} {code : Nat → Int} {o : Option Sd} (g : Og L val code N o) (h : N ≤ M) : Og L val code M o := fun s hs => ⟨(g s hs).1, by have := (g s hs).2; omega⟩
theorem RSt.more {L : Nat} {val : Nat → Nat} {code : Nat → Int} {w0 w : World} {lB mB aB : Nat} {pp qq rr : Nat → Value} {cv : Value} {op oq : Nat → Option Sd} {lst : Nat → List Nat} {D : Nat → List Nat} {N M : Nat} (h : RSt L val code w0 w lB mB aB pp qq rr cv op oq lst D N) (hM : N ≤ M) : RSt L val code w0 w lB mB aB pp qq rr cv op oq lst D M :=
  ⟨h.fam, h.kp, h.hp, h.hq, fun k hk => (h.gp k hk).more hM, fun k hk => (h.gq k hk).more hM, h.lb, h.d6, h.mb, h.d7, h.cs, h.d8, h.ab, h.d9, h.ar, h.d10, h.ll, h.lv, fun k hk => Nat.le_trans (h.ln k hk) hM⟩
theorem codes_at {w : World} {g L : Nat} {code : Nat → Int} (h : w.ownsRow 0 3 1 (.slice (some ⟨g, 0, none⟩) L L) L (ints ((List.range L).map code))) {v : Nat} (hv : v < L) : w.cell? ⟨g, v, none⟩ = some (.int .i64 (code v)) := by
  have := h.cells (g := g) rfl v (.int .i64 (code v)) (by simp [ints, hv])
  have hadd : (⟨g, 0, none⟩ : Addr).add v = ⟨g, v, none⟩ := by unfold Addr.add; split <;> simp_all
  rw [hadd] at this
  exact this
theorem added_at {w : World} {v : Value} {l : List Nat} (h : w.ownsRow 0 3 1 v l.length (ints (nums l))) {k x : Nat} (hx : l[k]? = some x) : ∃ g cap, v = .slice (some ⟨g, 0, none⟩) l.length cap ∧ g < w.heap.size ∧ w.cell? ⟨g, k, none⟩ = some (.int .i64 (x : Int)) := by
  have hk := (List.getElem?_eq_some_iff.1 hx).1
  rcases h.2 with ⟨_, h0⟩ | ⟨g, cap, cur, hv, _, hg, _⟩
  · omega
  · refine ⟨g, cap, hv, (Array.getElem?_eq_some_iff.1 hg).1, ?_⟩
    have := h.cells (g := g) (by rw [hv]; rfl) k (.int .i64 (x : Int)) (by simp [ints, nums, List.getElem?_map, hx])
    have hadd : (⟨g, 0, none⟩ : Addr).add k = ⟨g, k, none⟩ := by unfold Addr.add; split <;> simp_all
    rw [hadd] at this
    exact this
end Go.Proofs.Ytgiifedljebclaa.flo
