/- TableMap: the law's row that stands for a key; rows that are there. -/
import Derived.Test.YtkejpbfbpomjfaaCMapEZ
import Derived.Test.YtkejpbfbpomjfaaCSrwZ
namespace Go.Proofs.Ytkejpbfbpomjfaa.tre
open Go.RowKit
set_option linter.unusedVariables false

/-- behind the search: the row of the key, the op's box, the answer's box -/
structure MC (w Z : World) (b : Nat) (T T' : Tb) (ra : Option Addr) (j rc k q : Nat) (R : List Me) (x : Me) (o : Opm) (n7 : Nat) (ob : Array Value) (n8 : Nat) (bb : Array Value) (av : Value) (al : List Nat) : Prop where
  m : Mm w Z b T' (.slice ra j rc) R
  i : MI T R
  n : R.length = j
  k : j ≤ k + 1
  q : R[q]? = some x
  key : x.key = o.key
  ob : Blk Z n7 ob 34
  bb : Blk Z n8 bb 29
  av : Sees Z av al
theorem MC.new {w X Y : World} {b : Nat} {T T' : Tb} {ra ra' : Option Addr} {j rc rc' k : Nat} {R : List Me} {o : Opm} {n7 n8 : Nat} {ob bb : Array Value} {av oks ovs : Value} {al : List Nat}
    (hm : Mm w X b T' (.slice ra j rc) R) (hi : MI T R) (hn : R.length = j) (hk : j ≤ k) (hno : ∀ y ∈ R.take j, y.key ≠ o.key) (hoa : OpAt w o oks ovs) (hl : o.key.length ≤ 65)
    (ho : Y.ownsRow w.heap.size 44 3 (.slice ra' (j + 1) rc') (j + 1) (flatM R ++ mec ⟨o.key, [], 0, oks, .slice none 0 0⟩)) (hg : X.grownBy Y (Value.slice ra j rc).ownBlock)
    (hlt : ∀ g, (Value.slice ra j rc).ownBlock = some g → g < n7) (h78 : n7 < n8) (hob : Blk X n7 ob 34) (hbb : Blk X n8 bb 29) (hav : Sees X av al) (hng : ∀ g, av.ownBlock = some g → n7 ≤ g) :
    MC w Y b T T' ra' (j + 1) rc' k j (R ++ [⟨o.key, [], 0, oks, .slice none 0 0⟩]) ⟨o.key, [], 0, oks, .slice none 0 0⟩ o n7 ob n8 bb av al := by
  obtain ⟨F, hkF, hF⟩ := grown_kept hg
  have h7 : ∀ x ∈ F, x < n7 := fun x hx => hlt x (hF x hx)
  rw [List.take_of_length_le (by omega)] at hno
  refine ⟨?_, hi.more hoa.kb (fun x hx => by cases hx) rfl hno, by rw [List.length_append, hn]; rfl, by omega, ?_, rfl, hob.kept hkF (fun hx => by have := h7 _ hx; omega), hbb.kept hkF (fun hx => by have := h7 _ hx; omega), hav.kept hkF (fun g hg hx => by have := h7 _ hx; have := hng g hg; omega)⟩
  · refine hm.moreR ⟨hoa.k, Or.inl (Or.inl ⟨rfl, rfl⟩), hl, by simp⟩ ?_ hg
    rw [hn]
    exact ho
  · rw [List.getElem?_append_right (by omega), hn]
    simp
/-- a row of the law's that is not gone is one of the table's -/
theorem MI.there {T : Tb} {R : List Me} (h : MI T R) {r : Me} (hr : r ∈ R) (h0 : r.rev ≠ 0) {l : List Re} (hl : l.map (·.e) = T.t.list) : ∃ m a, m < l.length ∧ l[m]? = some a ∧ byts a.e.1 = r.key ∧ byts a.e.2.1 = r.val ∧ a.e.2.2 = r.rev := by
  have hf := h.fin r hr
  rw [if_neg h0] at hf
  have hm := (mem_find h.tok.ok.rise |>.1 hf).1
  rw [← hl] at hm
  obtain ⟨a, ha, he⟩ := List.mem_map.1 hm
  obtain ⟨m, hm⟩ := List.mem_iff_getElem?.1 ha
  refine ⟨m, a, (List.getElem?_eq_some_iff.1 hm).1, hm, ?_, ?_, ?_⟩
  · rw [he]; exact byts_strB (h.bk r hr)
  · rw [he]; exact byts_strB (h.bv r hr)
  · rw [he]
theorem live_take {R : List Me} {k : Nat} {r : Me} (h : R[k]? = some r) : (live (R.take (k + 1))).length = (live (R.take k)).length + if r.rev = 0 then 0 else 1 := by
  unfold live
  rw [List.take_add_one, h, List.filter_append, List.length_append]
  congr 1
  simp only [Option.toList_some, List.filter_cons, List.filter_nil]
  by_cases h0 : r.rev = 0
  · simp [h0]
  · simp [h0]
end Go.Proofs.Ytkejpbfbpomjfaa.tre
