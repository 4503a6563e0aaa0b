/- A bag in memory. -/
import Derived.Test.YtcohdkemfkiekaaUPureZ
namespace Go.Proofs.Ytcohdkemfkiekaa
open Go.RowKit Go.Maps

theorem keyedI : Keyed Try.prog 3 := int_keyed Try.underlying3
theorem zeroM_run (w : World) : (zeroValue 77).run Try.prog w = .ok (msV zeroMs) w := by kernel_rfl
theorem keyI {n : Int} (h1 : -9223372036854775808 ≤ n) (h2 : n ≤ 9223372036854775807) : keyOf Try.prog 3 (.int .i64 n) = some (.int .i64 n) := keyOf_int_mk Try.underlying3 (by simp [Lit.wf]; first | omega | exact ⟨h1, h2⟩)
theorem Kept.of_turned {w w' : World} {b : Nat} (h : w.mapTurned w' b) : Kept [b] w w' :=
  ⟨h.grown.os, h.grown.tape, h.grown.output, h.grown.size, fun k hk hn => h.grown.block k hk (fun e => hn (by simp at e; simp [e]))⟩
theorem Kept.of_grown {w w' : World} (h : w.grownBy w' none) : Kept [] w w' := ⟨h.os, h.tape, h.output, h.size, fun k hk _ => h.block k hk (by simp)⟩
theorem map_kept {w w' : World} {m : Nat} {F : List Nat} (h : Kept F w w') (hm : m ∉ F) {P : Program} {k : TypeId} {R : Value → Option (DataW Value × List MemPlace)} {n : Nat} {D : DataW Value} (ho : w.ownsMap P k R m n D) : w'.ownsMap P k R m n D := by
  have hlt := ho.lt
  obtain ⟨es, clock, hb, r⟩ := ho
  exact ⟨es, clock, (h.block m hlt hm).trans hb, r⟩
/-- The bound of a map is its size. -/
theorem map_size {w : World} {m n : Nat} {P : Program} {k : TypeId} {R : Value → Option (DataW Value × List MemPlace)} {row : List (Int × Ms)} (h : w.ownsMap P k R m n (Dof row)) : w.ownsMap P k R m row.length (Dof row) := by
  obtain ⟨es, clock, hb, F, _, hD⟩ := h
  refine ⟨es, clock, hb, F, ?_, hD⟩
  have e1 := congrArg Maps.size hD
  rw [Dof_size] at e1
  rw [e1]
  simp [Maps.size, length_sorted]
def bagC (mv : Value) (g : Bg) : Array Value := #[mv, .int .i64 g.sent, .int .i64 g.twice, .int .i64 g.deliv, .int .i64 g.drop, .int .i64 g.lost]
/-- The map that a bag has, at F. -/
def MapAt (w : World) (b : Nat) (F : List Nat) (mv : Value) (row : List (Int × Ms)) : Prop :=
  (mv = .map none ∧ row = [] ∧ F = [b]) ∨ ∃ m, mv = .map (some m) ∧ F = [b, m] ∧ m ≠ b ∧ w.ownsMap Try.prog 3 RM m row.length (Dof row)
/-- A bag in memory: its block b, its blocks F. -/
def Bk (w : World) (b : Nat) (F : List Nat) (g : Bg) : Prop := g.ok ∧ ∃ mv, Blk w b (bagC mv g) 67 ∧ MapAt w b F mv g.row
theorem MapAt.kept {w w' : World} {b : Nat} {F G : List Nat} {mv : Value} {row : List (Int × Ms)} (h : MapAt w b F mv row) (k : Kept G w w') (hG : ∀ x ∈ F, x ≠ b → x ∉ G) : MapAt w' b F mv row := by
  rcases h with h | ⟨m, e1, e2, e3, h⟩
  · exact Or.inl h
  · exact Or.inr ⟨m, e1, e2, e3, map_kept k (hG m (by rw [e2]; simp) e3) h⟩
theorem Bk.kept {w w' : World} {b : Nat} {F G : List Nat} {g : Bg} (h : Bk w b F g) (k : Kept G w w') (hG : ∀ x ∈ F, x ∉ G) : Bk w' b F g := by
  obtain ⟨h0, mv, h1, h2⟩ := h
  have hb : b ∈ F := by rcases h2 with ⟨_, _, e⟩ | ⟨m, _, e, _⟩ <;> rw [e] <;> simp
  exact ⟨h0, mv, h1.kept k (hG b hb), h2.kept k (fun x hx _ => hG x hx)⟩
theorem Bk.mem {w : World} {b : Nat} {F : List Nat} {g : Bg} (h : Bk w b F g) : b ∈ F := by
  obtain ⟨_, mv, _, h2⟩ := h
  rcases h2 with ⟨_, _, e⟩ | ⟨m, _, e, _⟩ <;> rw [e] <;> simp
theorem Bk.lt {w : World} {b : Nat} {F : List Nat} {g : Bg} (h : Bk w b F g) : ∀ x ∈ F, x < w.heap.size := by
  obtain ⟨_, mv, h1, h2⟩ := h
  rcases h2 with ⟨_, _, e⟩ | ⟨m, _, e, _, h3⟩
  · rw [e]; intro x hx; simp at hx; subst hx; exact h1.lt
  · rw [e]; intro x hx; simp at hx; rcases hx with rfl | rfl
    · exact h1.lt
    · exact h3.lt
/-- Behind a call of a bag's. -/
def BkP (w : World) (b : Nat) (F : List Nat) (g : Bg) (w' : World) : Prop := ∃ F', Bk w' b F' g ∧ Kept F w w' ∧ ∀ x ∈ F', x ∈ F ∨ w.heap.size ≤ x
theorem BkP.same {w w' : World} {b : Nat} {F : List Nat} {g : Bg} (h : Bk w b F g) (k : Kept [] w w') : BkP w b F g w' := ⟨F, h.kept k (by simp), k.mono (by simp), fun _ hx => Or.inl hx⟩
end Go.Proofs.Ytcohdkemfkiekaa
