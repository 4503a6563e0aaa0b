/- A meter in memory. -/
import Derived.Test.YthhgeobfolhpoaaVKit
import Derived.Test.YthhgeobfolhpoaaVPure
import Derived.OwnWalk
import Derived.BigQuiet
import Derived.Deep.MidRow
import Derived.Deep.WholeRow
namespace Go.Proofs.Ythhgeobfolhpoaa
open Go.RowKit

/-- words as cells -/
def flts (l : List Nat) : List Value := l.map (Value.float .f64)
theorem flts_append (l m : List Nat) : flts (l ++ m) = flts l ++ flts m := by simp [flts]
theorem flts_length (l : List Nat) : (flts l).length = l.length := by simp [flts]
theorem flts_at (l : List Nat) {j : Nat} (hj : j < l.length) : (flts l)[j]? = some (.float .f64 (l.getD j 0)) := by
  simp [flts, List.getElem?_eq_getElem hj]
theorem flts_one (l : List Nat) : ∀ u ∈ flts l, u.oneCell' = true := by
  intro u hu
  obtain ⟨x, _, rfl⟩ := List.mem_map.1 hu
  rfl
theorem flts_set (l : List Nat) (i x : Nat) : flts (l.set i x) = (flts l).set i (.float .f64 x) := by simp [flts, List.map_set]

/-- the cells of a meter -/
def mcells (m : Mt) (g : Nat) : List Value := .int .i64 (m.half : Int) :: .int .i64 (m.clock : Int) :: .slice (some ⟨g, 0, none⟩) m.loads.length m.loads.length :: flts m.wins
/-- a meter in memory: its own block, that of the loads -/
structure Mp (w : World) (b g : Nat) (m : Mt) : Prop where
  ok : m.ok
  head : Blk w b (mcells m g).toArray 65
  row : Blk w g (flts m.loads).toArray 46
  bg : b ≠ g

theorem Mp.kept {F : List Nat} {w w' : World} {b g : Nat} {m : Mt} (h : Mp w b g m) (hk : Kept F w w') (hb : b ∉ F) (hg : g ∉ F) : Mp w' b g m := ⟨h.ok, h.head.kept hk hb, h.row.kept hk hg, h.bg⟩
theorem Mp.cells {w : World} {b g : Nat} {m : Mt} (h : Mp w b g m) : w.cell? ⟨b, 0, none⟩ = some (.int .i64 (m.half : Int)) ∧ w.cell? ⟨b, 1, none⟩ = some (.int .i64 (m.clock : Int)) ∧ w.cell? ⟨b, 2, none⟩ = some (.slice (some ⟨g, 0, none⟩) m.loads.length m.loads.length) := by
  refine ⟨?_, ?_, ?_⟩ <;> (rw [h.head.cell]; simp [mcells])
theorem Mp.load {w : World} {b g : Nat} {m : Mt} (h : Mp w b g m) {j : Nat} (hj : j < m.loads.length) : w.cell? ⟨g, j, none⟩ = some (.float .f64 (m.loads.getD j 0)) := by
  rw [h.row.cell]; simpa using flts_at m.loads hj
theorem Mp.win {w : World} {b g : Nat} {m : Mt} (h : Mp w b g m) {j : Nat} (hj : j < 8) : w.cell? ⟨b, 3 + j, none⟩ = some (.float .f64 (m.wins.getD j 0)) := by
  rw [h.head.cell, Nat.add_comm]; simpa [mcells] using flts_at m.wins (by rw [h.ok.wl]; exact hj)
theorem run_store_float {P : Program} {w : World} {a : Addr} {m : Mode} (y : Nat) : (store a (.float .f64 y) m).run P w = stored P w a (.float .f64 y) m := run_store P w a _ m rfl
theorem store_flt {w : World} {b o x : Nat} {cs : Array Value} {t : TypeId} (h : Blk w b cs t) (ho : o < cs.size) : (store ⟨b, o, none⟩ (.float .f64 x)).run Try.prog w = .ok () (w.setCell ⟨b, o, none⟩ (.float .f64 x)) := by
  have c := h.cell o
  rw [Array.getElem?_eq_getElem ho] at c
  have f := h.frozen o
  rw [run_store_float]; simp [stored, c, f]
end Go.Proofs.Ythhgeobfolhpoaa
