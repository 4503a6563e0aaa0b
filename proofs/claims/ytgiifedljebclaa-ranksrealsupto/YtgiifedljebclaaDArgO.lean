/- A script that came in. -/
import Derived.Test.YtgiifedljebclaaRArg
import Derived.Test.YtgiifedljebclaaDStep
namespace Go.Proofs.Ytgiifedljebclaa.flo
open Go.ChangeShapes Go.WideShapes Go.ChangeAt Go.RowKit

theorem add_plain (b off j : Nat) : (⟨b, off, none⟩ : Addr).add j = ⟨b, off + j, none⟩ := by unfold Addr.add; split <;> simp_all
theorem bulk_one {H : Type} (d : DataW H) : 1 ≤ Rows.uptoBulk d := by
  cases d with
  | lit l => cases l <;> simp [Rows.uptoBulk]
  | _ => simp [Rows.uptoBulk]
theorem bulk_len {H : Type} : ∀ l : List (DataW H), l.length ≤ Rows.uptoBulkAll l
  | [] => by simp [Rows.uptoBulkAll]
  | x :: r => by
    have h1 := bulk_one x
    have h2 := bulk_len r
    simp only [Rows.uptoBulkAll, List.length_cons]
    omega

def RowOf {α : Type} (kz : Nat) (ce : α → List Value) (w : World) (v : Value) (os : List α) : Prop :=
  ∃ a cap, v = .slice a os.length cap ∧ os.length ≤ 9223372036854775807 ∧ ∀ k o, os[k]? = some o → ∃ b off, a = some ⟨b, off, none⟩ ∧ b < w.heap.size ∧ w.rangeAt b (off + k * kz) (ce o)
theorem open_row {α : Type} {H : Type} {enc : TypeId × Value → H} {W : World} {k : Nat} {cs : List Value} {x : DataW H × List MemPlace} {st et : TypeId} {kz : Nat} (ce : α → List Value) (o0 : α)
    (hst : Try.prog.underlying st = some (.slice et)) (hc : Try.prog.cellsOf et = kz) (hcl : ∀ o, (ce o).length = kz) (v0 : ∀ o, ∃ v, (ce o)[0]? = some v)
    (hop : ∀ k cs x, DataW.trod enc Try.prog W 0 (fun _ => true) true k et cs = some x → ∃ o, cs = ce o)
    (h : DataW.trod enc Try.prog W 0 (fun _ => true) true k st cs = some x) :
    ∃ a n cap os, cs = [.slice a n cap] ∧ RowOf kz ce W (.slice a n cap) os ∧ os.length = n ∧ n ≤ Rows.uptoBulk x.1 := by
  rcases Go.Deep.open_slice hst h with ⟨rfl, _⟩ | ⟨a, len, cap, m, n, D, Pl, rfl, _, hl, hm, hmm, rfl, hall⟩
  · exact ⟨none, 0, 0, [], rfl, ⟨none, 0, rfl, by simp, fun k o ho => by simp at ho⟩, rfl, by omega⟩
  · have hmc : m = cap := by simpa using hmm
    subst hmc
    rw [hc] at hall
    have hex : ∀ i, ∃ o : α, i < len → ∀ j v, (ce o)[j]? = some v → W.cell? ((a.add (i * kz)).add j) = some v := by
      intro i
      by_cases hi : i < len
      · obtain ⟨cs', h1, h2⟩ := hall i (by omega)
        obtain ⟨o, h3⟩ := hop _ _ _ h2
        obtain ⟨_, h5, h6⟩ := World.cells?_some h1
        refine ⟨o, fun _ => fun j v hv => ?_⟩
        have hj : j < kz := by have := (List.getElem?_eq_some_iff.1 hv).1; rw [hcl] at this; exact this
        have h7 := h6 j hj
        rw [h3] at h7
        rw [h7]; exact hv
      · exact ⟨o0, fun h => absurd h hi⟩
    obtain ⟨f, hf⟩ := Classical.axiomOfChoice hex
    have hlen : ((List.range len).map f).length = len := by simp
    refine ⟨some a, len, m, (List.range len).map f, rfl, ⟨some a, m, by rw [hlen], by rw [hlen]; unfold maxLen at hm; omega, fun j o ho => ?_⟩, hlen, ?_⟩
    · have hj : j < len := by have := (List.getElem?_eq_some_iff.1 ho).1; simpa using this
      simp [hj] at ho
      subst ho
      have h2 := hf j hj
      obtain ⟨u, hu⟩ := v0 (f j)
      have hc := h2 0 u hu
      have hsp : a.spot = none := by
        obtain ⟨u0, hu0⟩ := v0 (f 0)
        have hc0 := (hf 0 (by omega)) 0 u0 hu0
        have e0 : (a.add (0 * kz)).add 0 = a := by simp [Addr.add]
        rw [e0] at hc0
        exact World.cell?_spot hc0
      obtain ⟨b, off, sp⟩ := a
      simp only at hsp
      subst hsp
      have hbl : b < W.heap.size := by
        rw [add_plain, add_plain] at hc
        exact World.block_lt_of_cell? W _ hc
      refine ⟨b, off, rfl, hbl, fun i v hv => ?_⟩
      have := h2 i v hv
      rwa [add_plain, add_plain] at this
    · have := bulk_len ((List.range len).map D)
      simp only [List.length_map, List.length_range] at this
      simp only [Rows.uptoBulk]
      omega
theorem list3 (l : List Value) (h : l.length = 3) : ∃ a b c, l = [a, b, c] := by
  match l, h with
  | [a, b, c], _ => exact ⟨a, b, c, rfl⟩
theorem cells3 : Try.prog.cellsOf 3 = 1 := by kernel_rfl
theorem cellsOp : Try.prog.cellsOf 32 = 3 := by kernel_rfl
theorem open_op {H : Type} {enc : TypeId × Value → H} {W : World} {k : Nat} {cs : List Value} {x : DataW H × List MemPlace} (h : DataW.trod enc Try.prog W 0 (fun _ => true) true k 32 cs = some x) : ∃ o : Opr, cs = opc o := by
  obtain ⟨xs, n, _, _, hl, hlen, hf⟩ := DataW.trod_struct Try.underlying32 h
  rw [cellsOp] at hl
  obtain ⟨c0, c1, c2, rfl⟩ := list3 cs hl
  have h0 : DataW.trod enc Try.prog W 0 (fun _ => true) true n 3 (([c0, c1, c2].drop 0).take (Try.prog.cellsOf 3)) = xs[0]? := hf 0 _ rfl
  have h1 : DataW.trod enc Try.prog W 0 (fun _ => true) true n 3 (([c0, c1, c2].drop 1).take (Try.prog.cellsOf 3)) = xs[1]? := hf 1 _ rfl
  have h2 : DataW.trod enc Try.prog W 0 (fun _ => true) true n 3 (([c0, c1, c2].drop 2).take (Try.prog.cellsOf 3)) = xs[2]? := hf 2 _ rfl
  rw [cells3] at h0 h1 h2
  match xs, hlen with
  | [y0, y1, y2], _ =>
    obtain ⟨x0, e0, -, w0⟩ := DataW.trod_int Try.underlying3 (by simpa using h0)
    obtain ⟨x1, e1, -, w1⟩ := DataW.trod_int Try.underlying3 (by simpa using h1)
    obtain ⟨x2, e2, -, w2⟩ := DataW.trod_int Try.underlying3 (by simpa using h2)
    exact ⟨⟨x0, x1, x2⟩, by simp at e0 e1 e2; rw [e0, e1, e2]; rfl⟩
theorem open_ops {H : Type} {enc : TypeId × Value → H} {W : World} {k : Nat} {cs : List Value} {x : DataW H × List MemPlace} (h : DataW.trod enc Try.prog W 0 (fun _ => true) true k 23 cs = some x) :
    ∃ a n cap os, cs = [.slice a n cap] ∧ RowOf 3 opc W (.slice a n cap) os ∧ os.length = n ∧ n ≤ Rows.uptoBulk x.1 :=
  open_row opc ⟨0, 0, 0⟩ Try.underlying23 cellsOp (fun _ => rfl) (fun _ => ⟨_, rfl⟩) (fun _ _ _ h => open_op h) h
theorem ops_of_row {W : World} {v : Value} {os : List Opr} (h : RowOf 3 opc W v os) (hl : os.length ≤ 1048576) : Ops W v os := by
  obtain ⟨a, cap, hv, -, h2⟩ := h
  exact ⟨a, cap, hv, hl, h2⟩
end Go.Proofs.Ytgiifedljebclaa.flo
