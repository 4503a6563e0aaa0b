/- Rows of structs of integers that came in. -/
import Derived.Test.YtnpabeodakncfaaGCase
import Derived.ProofKit
import Derived.OpenShut
import Derived.SizedLaws
import Derived.Deep.Slices
import Derived.JoinedCond
import Derived.Test.YtnpabeodakncfaaRows
namespace Go.Proofs.Ytnpabeodakncfaa
open Go.ChangeShapes Go.WideShapes Go.ChangeAt Go.RowKit

theorem laidOut : laidOutB Try.prog = true := by kernel_rfl
theorem cells3 : Try.prog.cellsOf 3 = 1 := by kernel_rfl
theorem cellsCase : Try.prog.cellsOf 27 = 11 := by kernel_rfl
theorem cellsLed : Try.prog.cellsOf 25 = 3 := by kernel_rfl
theorem cellsAct : Try.prog.cellsOf 52 = 4 := by kernel_rfl
theorem add_plain (b off j : Nat) : (⟨b, off, none⟩ : Addr).add j = ⟨b, off + j, none⟩ := by unfold Addr.add; split <;> simp_all
theorem bulk_one {H : Type} (d : DataW H) : 1 ≤ Rows.uptoBulk d := by
  cases d with
  | lit l => cases l <;> simp [Rows.uptoBulk]
  | _ => simp [Rows.uptoBulk]
theorem bulk_len {H : Type} : ∀ l : List (DataW H), l.length ≤ Rows.uptoBulkAll l
  | [] => by simp [Rows.uptoBulkAll]
  | x :: r => by
    have h1 := bulk_one x
    have h2 := bulk_len r
    simp only [Rows.uptoBulkAll, List.length_cons]
    omega

def RowOf {α : Type} (kz : Nat) (ce : α → List Value) (w : World) (v : Value) (os : List α) : Prop :=
  ∃ a cap, v = .slice a os.length cap ∧ os.length ≤ 9223372036854775807 ∧ ∀ k o, os[k]? = some o → ∃ b off, a = some ⟨b, off, none⟩ ∧ b < w.heap.size ∧ w.rangeAt b (off + k * kz) (ce o)
theorem open_row {α : Type} {H : Type} {enc : TypeId × Value → H} {W : World} {k : Nat} {cs : List Value} {x : DataW H × List MemPlace} {st et : TypeId} {kz : Nat} (ce : α → List Value) (o0 : α)
    (hst : Try.prog.underlying st = some (.slice et)) (hc : Try.prog.cellsOf et = kz) (hcl : ∀ o, (ce o).length = kz) (v0 : ∀ o, ∃ v, (ce o)[0]? = some v)
    (hop : ∀ k cs x, DataW.trod enc Try.prog W 0 (fun _ => true) true k et cs = some x → ∃ o, cs = ce o)
    (h : DataW.trod enc Try.prog W 0 (fun _ => true) true k st cs = some x) :
    ∃ a n cap os, cs = [.slice a n cap] ∧ RowOf kz ce W (.slice a n cap) os ∧ os.length = n ∧ n ≤ Rows.uptoBulk x.1 := by
  rcases Go.Deep.open_slice hst h with ⟨rfl, _⟩ | ⟨a, len, cap, m, n, D, Pl, rfl, _, hl, hm, hmm, rfl, hall⟩
  · exact ⟨none, 0, 0, [], rfl, ⟨none, 0, rfl, by simp, fun k o ho => by simp at ho⟩, rfl, by omega⟩
  · have hmc : m = cap := by simpa using hmm
    subst hmc
    rw [hc] at hall
    have hex : ∀ i, ∃ o : α, i < len → ∀ j v, (ce o)[j]? = some v → W.cell? ((a.add (i * kz)).add j) = some v := by
      intro i
      by_cases hi : i < len
      · obtain ⟨cs', h1, h2⟩ := hall i (by omega)
        obtain ⟨o, h3⟩ := hop _ _ _ h2
        obtain ⟨_, h5, h6⟩ := World.cells?_some h1
        refine ⟨o, fun _ => fun j v hv => ?_⟩
        have hj : j < kz := by have := (List.getElem?_eq_some_iff.1 hv).1; rw [hcl] at this; exact this
        have h7 := h6 j hj
        rw [h3] at h7
        rw [h7]; exact hv
      · exact ⟨o0, fun h => absurd h hi⟩
    obtain ⟨f, hf⟩ := Classical.axiomOfChoice hex
    have hlen : ((List.range len).map f).length = len := by simp
    refine ⟨some a, len, m, (List.range len).map f, rfl, ⟨some a, m, by rw [hlen], by rw [hlen]; unfold maxLen at hm; omega, fun j o ho => ?_⟩, hlen, ?_⟩
    · have hj : j < len := by have := (List.getElem?_eq_some_iff.1 ho).1; simpa using this
      simp [hj] at ho
      subst ho
      have h2 := hf j hj
      obtain ⟨u, hu⟩ := v0 (f j)
      have hc := h2 0 u hu
      have hsp : a.spot = none := by
        obtain ⟨u0, hu0⟩ := v0 (f 0)
        have hc0 := (hf 0 (by omega)) 0 u0 hu0
        have e0 : (a.add (0 * kz)).add 0 = a := by simp [Addr.add]
        rw [e0] at hc0
        exact World.cell?_spot hc0
      obtain ⟨b, off, sp⟩ := a
      simp only at hsp
      subst hsp
      have hbl : b < W.heap.size := by
        rw [add_plain, add_plain] at hc
        exact World.block_lt_of_cell? W _ hc
      refine ⟨b, off, rfl, hbl, fun i v hv => ?_⟩
      have := h2 i v hv
      rwa [add_plain, add_plain] at this
    · have := bulk_len ((List.range len).map D)
      simp only [List.length_map, List.length_range] at this
      simp only [Rows.uptoBulk]
      omega
theorem list3 (l : List Value) (h : l.length = 3) : ∃ a b c, l = [a, b, c] := by
  match l, h with
  | [a, b, c], _ => exact ⟨a, b, c, rfl⟩
theorem list4 (l : List Value) (h : l.length = 4) : ∃ a b c d, l = [a, b, c, d] := by
  match l, h with
  | [a, b, c, d], _ => exact ⟨a, b, c, d, rfl⟩
theorem list11 (l : List Value) (h : l.length = 11) : ∃ a b c d e f g i j k m, l = [a, b, c, d, e, f, g, i, j, k, m] := by
  match l, h with
  | [a, b, c, d, e, f, g, i, j, k, m], _ => exact ⟨a, b, c, d, e, f, g, i, j, k, m, rfl⟩
theorem open_led {H : Type} {enc : TypeId × Value → H} {W : World} {k : Nat} {cs : List Value} {x : DataW H × List MemPlace} (h : DataW.trod enc Try.prog W 0 (fun _ => true) true k 25 cs = some x) : ∃ l : Ld, cs = lc l := by
  obtain ⟨xs, n, _, _, hl, hlen, hf⟩ := DataW.trod_struct Try.underlying25 h
  rw [cellsLed] at hl
  obtain ⟨c0, c1, c2, rfl⟩ := list3 cs hl
  have h0 : DataW.trod enc Try.prog W 0 (fun _ => true) true n 3 (([c0, c1, c2].drop 0).take (Try.prog.cellsOf 3)) = xs[0]? := hf 0 _ rfl
  have h1 : DataW.trod enc Try.prog W 0 (fun _ => true) true n 3 (([c0, c1, c2].drop 1).take (Try.prog.cellsOf 3)) = xs[1]? := hf 1 _ rfl
  have h2 : DataW.trod enc Try.prog W 0 (fun _ => true) true n 3 (([c0, c1, c2].drop 2).take (Try.prog.cellsOf 3)) = xs[2]? := hf 2 _ rfl
  rw [cells3] at h0 h1 h2
  match xs, hlen with
  | [y0, y1, y2], _ =>
    obtain ⟨x0, e0, -, w0⟩ := DataW.trod_int Try.underlying3 (by simpa using h0)
    obtain ⟨x1, e1, -, w1⟩ := DataW.trod_int Try.underlying3 (by simpa using h1)
    obtain ⟨x2, e2, -, w2⟩ := DataW.trod_int Try.underlying3 (by simpa using h2)
    exact ⟨⟨x0, x1, x2⟩, by simp at e0 e1 e2; rw [e0, e1, e2]; rfl⟩

/-- something that happens -/
structure Ac where
  kind : Int
  who : Int
  peer : Int
  n : Int
def ac (a : Ac) : List Value := [.int .i64 a.kind, .int .i64 a.who, .int .i64 a.peer, .int .i64 a.n]
theorem open_act {H : Type} {enc : TypeId × Value → H} {W : World} {k : Nat} {cs : List Value} {x : DataW H × List MemPlace} (h : DataW.trod enc Try.prog W 0 (fun _ => true) true k 52 cs = some x) : ∃ a : Ac, cs = ac a := by
  obtain ⟨xs, n, _, _, hl, hlen, hf⟩ := DataW.trod_struct Try.underlying52 h
  rw [cellsAct] at hl
  obtain ⟨c0, c1, c2, c3, rfl⟩ := list4 cs hl
  have h0 : DataW.trod enc Try.prog W 0 (fun _ => true) true n 3 (([c0, c1, c2, c3].drop 0).take (Try.prog.cellsOf 3)) = xs[0]? := hf 0 _ rfl
  have h1 : DataW.trod enc Try.prog W 0 (fun _ => true) true n 3 (([c0, c1, c2, c3].drop 1).take (Try.prog.cellsOf 3)) = xs[1]? := hf 1 _ rfl
  have h2 : DataW.trod enc Try.prog W 0 (fun _ => true) true n 3 (([c0, c1, c2, c3].drop 2).take (Try.prog.cellsOf 3)) = xs[2]? := hf 2 _ rfl
  have h3 : DataW.trod enc Try.prog W 0 (fun _ => true) true n 3 (([c0, c1, c2, c3].drop 3).take (Try.prog.cellsOf 3)) = xs[3]? := hf 3 _ rfl
  rw [cells3] at h0 h1 h2 h3
  match xs, hlen with
  | [y0, y1, y2, y3], _ =>
    obtain ⟨x0, e0, -, w0⟩ := DataW.trod_int Try.underlying3 (by simpa using h0)
    obtain ⟨x1, e1, -, w1⟩ := DataW.trod_int Try.underlying3 (by simpa using h1)
    obtain ⟨x2, e2, -, w2⟩ := DataW.trod_int Try.underlying3 (by simpa using h2)
    obtain ⟨x3, e3, -, w3⟩ := DataW.trod_int Try.underlying3 (by simpa using h3)
    exact ⟨⟨x0, x1, x2, x3⟩, by simp at e0 e1 e2 e3; rw [e0, e1, e2, e3]; rfl⟩
theorem open_case {H : Type} {enc : TypeId × Value → H} {W : World} {k : Nat} {cs : List Value} {x : DataW H × List MemPlace} (h : DataW.trod enc Try.prog W 0 (fun _ => true) true k 27 cs = some x) : ∃ c : Cs, cs = cc c := by
  obtain ⟨xs, n, _, _, hl, hlen, hf⟩ := DataW.trod_struct Try.underlying27 h
  rw [cellsCase] at hl
  obtain ⟨c0, c1, c2, c3, c4, c5, c6, c7, c8, c9, c10, rfl⟩ := list11 cs hl
  have h0 : DataW.trod enc Try.prog W 0 (fun _ => true) true n 3 (([c0, c1, c2, c3, c4, c5, c6, c7, c8, c9, c10].drop 0).take (Try.prog.cellsOf 3)) = xs[0]? := hf 0 _ rfl
  have h1 : DataW.trod enc Try.prog W 0 (fun _ => true) true n 3 (([c0, c1, c2, c3, c4, c5, c6, c7, c8, c9, c10].drop 1).take (Try.prog.cellsOf 3)) = xs[1]? := hf 1 _ rfl
  have h2 : DataW.trod enc Try.prog W 0 (fun _ => true) true n 25 (([c0, c1, c2, c3, c4, c5, c6, c7, c8, c9, c10].drop 2).take (Try.prog.cellsOf 25)) = xs[2]? := hf 2 _ rfl
  have h3 : DataW.trod enc Try.prog W 0 (fun _ => true) true n 3 (([c0, c1, c2, c3, c4, c5, c6, c7, c8, c9, c10].drop 5).take (Try.prog.cellsOf 3)) = xs[3]? := hf 3 _ rfl
  have h4 : DataW.trod enc Try.prog W 0 (fun _ => true) true n 3 (([c0, c1, c2, c3, c4, c5, c6, c7, c8, c9, c10].drop 6).take (Try.prog.cellsOf 3)) = xs[4]? := hf 4 _ rfl
  have h5 : DataW.trod enc Try.prog W 0 (fun _ => true) true n 3 (([c0, c1, c2, c3, c4, c5, c6, c7, c8, c9, c10].drop 7).take (Try.prog.cellsOf 3)) = xs[5]? := hf 5 _ rfl
  have h6 : DataW.trod enc Try.prog W 0 (fun _ => true) true n 3 (([c0, c1, c2, c3, c4, c5, c6, c7, c8, c9, c10].drop 8).take (Try.prog.cellsOf 3)) = xs[6]? := hf 6 _ rfl
  have h7 : DataW.trod enc Try.prog W 0 (fun _ => true) true n 3 (([c0, c1, c2, c3, c4, c5, c6, c7, c8, c9, c10].drop 9).take (Try.prog.cellsOf 3)) = xs[7]? := hf 7 _ rfl
  have h8 : DataW.trod enc Try.prog W 0 (fun _ => true) true n 3 (([c0, c1, c2, c3, c4, c5, c6, c7, c8, c9, c10].drop 10).take (Try.prog.cellsOf 3)) = xs[8]? := hf 8 _ rfl
  rw [cells3] at h0 h1 h3 h4 h5 h6 h7 h8
  rw [cellsLed] at h2
  match xs, hlen with
  | [y0, y1, y2, y3, y4, y5, y6, y7, y8], _ =>
    obtain ⟨x0, e0, -, w0⟩ := DataW.trod_int Try.underlying3 (by simpa using h0)
    obtain ⟨x1, e1, -, w1⟩ := DataW.trod_int Try.underlying3 (by simpa using h1)
    obtain ⟨l, e2⟩ := open_led (by simpa using h2)
    obtain ⟨x3, e3, -, w3⟩ := DataW.trod_int Try.underlying3 (by simpa using h3)
    obtain ⟨x4, e4, -, w4⟩ := DataW.trod_int Try.underlying3 (by simpa using h4)
    obtain ⟨x5, e5, -, w5⟩ := DataW.trod_int Try.underlying3 (by simpa using h5)
    obtain ⟨x6, e6, -, w6⟩ := DataW.trod_int Try.underlying3 (by simpa using h6)
    obtain ⟨x7, e7, -, w7⟩ := DataW.trod_int Try.underlying3 (by simpa using h7)
    obtain ⟨x8, e8, -, w8⟩ := DataW.trod_int Try.underlying3 (by simpa using h8)
    refine ⟨⟨x0, x1, l.ph, l.ep, l.pe, x3, x4, x5, x6, x7, x8⟩, ?_⟩
    simp [lc] at e0 e1 e2 e3 e4 e5 e6 e7 e8
    obtain ⟨q0, q1, q2⟩ := e2
    rw [e0, e1, q0, q1, q2, e3, e4, e5, e6, e7, e8]
    rfl
theorem open_cases {H : Type} {enc : TypeId × Value → H} {W : World} {k : Nat} {cs : List Value} {x : DataW H × List MemPlace} (h : DataW.trod enc Try.prog W 0 (fun _ => true) true k 22 cs = some x) :
    ∃ a n cap os, cs = [.slice a n cap] ∧ Cases W (.slice a n cap) os ∧ os.length = n ∧ n ≤ Rows.uptoBulk x.1 :=
  open_row cc ⟨0, 0, 0, 0, 0, 0, 0, 0, 0, 0, 0⟩ Try.underlying22 cellsCase (fun _ => rfl) (fun _ => ⟨_, rfl⟩) (fun _ _ _ h => open_case h) h
theorem open_acts {H : Type} {enc : TypeId × Value → H} {W : World} {k : Nat} {cs : List Value} {x : DataW H × List MemPlace} (h : DataW.trod enc Try.prog W 0 (fun _ => true) true k 44 cs = some x) :
    ∃ a n cap os, cs = [.slice a n cap] ∧ RowOf 4 ac W (.slice a n cap) os ∧ os.length = n ∧ n ≤ Rows.uptoBulk x.1 :=
  open_row ac ⟨0, 0, 0, 0⟩ Try.underlying44 cellsAct (fun _ => rfl) (fun _ => ⟨_, rfl⟩) (fun _ _ _ h => open_act h) h
theorem open_leds {H : Type} {enc : TypeId × Value → H} {W : World} {k : Nat} {cs : List Value} {x : DataW H × List MemPlace} (h : DataW.trod enc Try.prog W 0 (fun _ => true) true k 40 cs = some x) :
    ∃ a n cap os, cs = [.slice a n cap] ∧ RowOf 3 lc W (.slice a n cap) os ∧ os.length = n ∧ n ≤ Rows.uptoBulk x.1 :=
  open_row lc ⟨0, 0, 0⟩ Try.underlying40 cellsLed (fun _ => rfl) (fun _ => ⟨_, rfl⟩) (fun _ _ _ h => open_led h) h
end Go.Proofs.Ytnpabeodakncfaa
