/- A row of ledgers that came in: its size, and that its numbers are whole numbers of 64 bits. -/
import Derived.Test.YtnpabeodakncfaaGArg
namespace Go.Proofs.Ytnpabeodakncfaa
open Go.ChangeShapes Go.WideShapes Go.ChangeAt Go.RowKit
theorem bytesLed : Try.prog.bytesOf 25 = 24 := by kernel_rfl
theorem open_ledB {H : Type} {enc : TypeId × Value → H} {W : World} {k : Nat} {cs : List Value} {x : DataW H × List MemPlace} (h : DataW.trod enc Try.prog W 0 (fun _ => true) true k 25 cs = some x) : ∃ l : { l : Ld // -9223372036854775808 ≤ l.ep }, cs = lc l.1 := by
  obtain ⟨xs, n, _, _, hl, hlen, hf⟩ := DataW.trod_struct Try.underlying25 h
  rw [cellsLed] at hl
  obtain ⟨c0, c1, c2, rfl⟩ := list3 cs hl
  have h0 : DataW.trod enc Try.prog W 0 (fun _ => true) true n 3 (([c0, c1, c2].drop 0).take (Try.prog.cellsOf 3)) = xs[0]? := hf 0 _ rfl
  have h1 : DataW.trod enc Try.prog W 0 (fun _ => true) true n 3 (([c0, c1, c2].drop 1).take (Try.prog.cellsOf 3)) = xs[1]? := hf 1 _ rfl
  have h2 : DataW.trod enc Try.prog W 0 (fun _ => true) true n 3 (([c0, c1, c2].drop 2).take (Try.prog.cellsOf 3)) = xs[2]? := hf 2 _ rfl
  rw [cells3] at h0 h1 h2
  match xs, hlen with
  | [y0, y1, y2], _ =>
    obtain ⟨x0, e0, -, w0⟩ := DataW.trod_int Try.underlying3 (by simpa using h0)
    obtain ⟨x1, e1, -, w1⟩ := DataW.trod_int Try.underlying3 (by simpa using h1)
    obtain ⟨x2, e2, -, w2⟩ := DataW.trod_int Try.underlying3 (by simpa using h2)
    exact ⟨⟨⟨x0, x1, x2⟩, by have : IntKind.i64.min = -9223372036854775808 := (by decide); simp [Lit.wf] at w1; show -9223372036854775808 ≤ x1; omega⟩, by simp at e0 e1 e2; rw [e0, e1, e2]; rfl⟩
theorem open_ledsB {H : Type} {enc : TypeId × Value → H} {W : World} {k : Nat} {cs : List Value} {x : DataW H × List MemPlace} (h : DataW.trod enc Try.prog W 0 (fun _ => true) true k 40 cs = some x) :
    ∃ a n cap os, cs = [.slice a n cap] ∧ RowOf 3 lc W (.slice a n cap) os ∧ os.length = n ∧ ∀ l ∈ os, -9223372036854775808 ≤ l.ep := by
  obtain ⟨a, n, cap, os, h1, ⟨a', cap', h2, h3, h4⟩, h5, -⟩ := open_row (α := { l : Ld // -9223372036854775808 ≤ l.ep }) (kz := 3) (fun l => lc l.1) ⟨⟨0, 0, 0⟩, by decide⟩ Try.underlying40 cellsLed (fun _ => rfl) (fun _ => ⟨_, rfl⟩) (fun _ _ _ h => open_ledB h) h
  cases h2
  refine ⟨a, _, cap, os.map (·.1), h1, ⟨a, cap, by rw [List.length_map], by rw [List.length_map]; exact h3, fun k o ho => ?_⟩, by rw [List.length_map], fun l hl => ?_⟩
  · rw [List.getElem?_map, Option.map_eq_some_iff] at ho
    obtain ⟨q, hq, rfl⟩ := ho
    exact h4 k q hq
  · obtain ⟨q, _, rfl⟩ := List.mem_map.1 hl
    exact q.2
theorem open_ledsS {H : Type} {enc : TypeId × Value → H} {W : World} {k : Nat} {a : Option Addr} {len cap : Nat} {x : DataW H × List MemPlace} (h : DataW.trod enc Try.prog W 0 (fun _ => true) true k 40 [.slice a len cap] = some x) :
    len = 0 ∨ ∃ elems spare, x.1 = .slice elems spare ∧ elems.length = len := by
  rcases Go.Deep.open_slice Try.underlying40 h with ⟨e, _⟩ | ⟨a', len', cap', m, n, D, Pl, e, _, hl, hm, hmm, rfl, hall⟩
  · left; simp at e; exact e.2.1
  · right
    simp at e
    obtain ⟨-, rfl, -⟩ := e
    exact ⟨_, _, rfl, by simp⟩
end Go.Proofs.Ytnpabeodakncfaa
