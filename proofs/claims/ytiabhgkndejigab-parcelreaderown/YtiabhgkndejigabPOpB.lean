/- Bytes that came in, with their bulk. -/
import Derived.Test.YtiabhgkndejigabPOpen
import Derived.Test.YtiabhgkndejigabRows
import Derived.JoinedCond
namespace Go.Proofs.Ytiabhgkndejigab
open Go.ChangeShapes Go.WideShapes Go.ChangeAt Go.RowKit

theorem cells5 : Try.prog.cellsOf 5 = 1 := by kernel_rfl
def natOf : Value → Nat
  | .int _ z => z.toNat
  | _ => 0
theorem bulk_one {H : Type} (d : DataW H) : 1 ≤ Rows.uptoBulk d := by
  cases d with
  | lit l => cases l <;> simp [Rows.uptoBulk]
  | _ => simp [Rows.uptoBulk]
theorem bulk_len {H : Type} : ∀ l : List (DataW H), l.length ≤ Rows.uptoBulkAll l
  | [] => by simp [Rows.uptoBulkAll]
  | x :: r => by
    have h1 := bulk_one x
    have h2 := bulk_len r
    simp only [Rows.uptoBulkAll, List.length_cons]
    omega

theorem open_bytesU {H : Type} {enc : TypeId × Value → H} {W : World} {k : Nat} {cs : List Value} {x : DataW H × List MemPlace} (h : DataW.trod enc Try.prog W 0 (fun _ => true) true k 22 cs = some x) :
    ∃ a n cap bs, cs = [.slice a n cap] ∧ Wide W (.slice a n cap) bs ∧ (∀ b ∈ bs, b < 256) ∧ bs.length = n ∧ n ≤ Rows.uptoBulk x.1 := by
  rcases Go.Deep.open_slice1 Try.underlying22 cells5 h with ⟨rfl, _⟩ | ⟨a, len, cap, m, n, V, D, Pl, rfl, _, hl, hm, hmm, rfl, hall⟩
  · exact ⟨none, 0, 0, [], rfl, Or.inl (Or.inl ⟨rfl, rfl⟩), by simp, rfl, by omega⟩
  · have hmc : m = cap := by simpa using hmm
    subst hmc
    have hv : ∀ i, i < m → ∃ z : Nat, V i = .int .u8 (z : Int) ∧ z < 256 := fun i hi => by
      obtain ⟨z, hz, _, hw⟩ := DataW.trod_int Try.underlying5 (hall i (by omega)).2
      have hb := bounds_u8 hw
      have e : V i = .int .u8 z := by simpa using hz
      exact ⟨z.toNat, by rw [e]; congr 1; omega, by omega⟩
    have hlen : ((List.range len).map fun i => natOf (V i)).length = len := by simp
    refine ⟨some a, len, m, (List.range len).map fun i => natOf (V i), rfl, ?_, ?_, hlen, ?_⟩
    · by_cases h0 : m = 0
      · subst h0
        have h00 : len = 0 := by omega
        subst h00
        exact Or.inr ⟨a, rfl, by simp⟩
      · have h6 := (hall 0 (by omega)).1
        have e0 : a.add 0 = a := by simp [Addr.add]
        rw [e0] at h6
        have hsp := World.cell?_spot h6
        have hbl := World.block_lt_of_cell? W _ h6
        obtain ⟨b, off, sp⟩ := a
        simp only at hsp
        subst hsp
        refine Or.inl (Or.inr ⟨b, off, m, by rw [hlen], by rw [hlen]; exact hl, hm, hbl, fun j hj => ?_⟩)
        rw [hlen] at hj
        have h7 := (hall j (by omega)).1
        rw [add_none] at h7
        obtain ⟨z, hz, hz2⟩ := hv j (by omega)
        rw [h7, hz]
        simp [hj, natOf, hz]
    · intro b hb
      obtain ⟨i, hi, rfl⟩ := List.mem_map.1 hb
      obtain ⟨z, hz, hz2⟩ := hv i (by have : i < len := by simpa using hi
                                      omega)
      rw [hz]; simpa [natOf] using hz2
    · have := bulk_len ((List.range len).map D)
      simp only [List.length_map, List.length_range] at this
      simp only [Rows.uptoBulk]
      omega
end Go.Proofs.Ytiabhgkndejigab
