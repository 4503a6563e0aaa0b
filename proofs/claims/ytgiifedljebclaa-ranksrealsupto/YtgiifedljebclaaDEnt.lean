/- Entries in memory: three cells each; a copy and a clear of rows of three cells. -/
import Derived.Test.YtgiifedljebclaaRKit
import Derived.Laws.IdiomCopy
namespace Go.Proofs.Ytgiifedljebclaa.flo
open Go.RowKit

def ecells (e : En Nat) : List Value := [(.float .f64 e.v), .int .i64 (e.g : Int), .int .i64 (e.d : Int)]
def flatE (es : List (En Nat)) : List Value := es.flatMap ecells
theorem flatE_cons (e : En Nat) (es : List (En Nat)) : flatE (e :: es) = (.float .f64 e.v) :: .int .i64 (e.g : Int) :: .int .i64 (e.d : Int) :: flatE es := rfl
theorem flatE_len (es : List (En Nat)) : (flatE es).length = es.length * 3 := by
  induction es with
  | nil => rfl
  | cons e es ih => rw [flatE_cons]; simp [ih]; omega
theorem flatE_app (a b : List (En Nat)) : flatE (a ++ b) = flatE a ++ flatE b := by simp [flatE]
theorem flatE_take (es : List (En Nat)) (i : Nat) (hi : i ≤ es.length) : (flatE es).take (i * 3) = flatE (es.take i) := by
  conv => lhs; rw [← List.take_append_drop i es, flatE_app]
  rw [List.take_append_of_le_length (by rw [flatE_len, List.length_take]; omega), List.take_of_length_le (by rw [flatE_len, List.length_take]; omega)]
theorem flatE_drop (es : List (En Nat)) (i : Nat) (hi : i ≤ es.length) : (flatE es).drop (i * 3) = flatE (es.drop i) := by
  conv => lhs; rw [← List.take_append_drop i es, flatE_app]
  rw [List.drop_append_of_le_length (by rw [flatE_len, List.length_take]; omega), List.drop_of_length_le (by rw [flatE_len, List.length_take]; omega), List.nil_append]
theorem flatE_at {es : List (En Nat)} {i : Nat} {e : En Nat} (h : es[i]? = some e) : (flatE es)[i * 3]? = some (.float .f64 e.v) ∧ (flatE es)[i * 3 + 1]? = some (.int .i64 (e.g : Int)) ∧ (flatE es)[i * 3 + 2]? = some (.int .i64 (e.d : Int)) := by
  induction es generalizing i with
  | nil => simp at h
  | cons x es ih =>
    cases i with
    | zero => simp at h; subst h; simp [flatE_cons]
    | succ i =>
      have := ih (by simpa using h)
      rw [flatE_cons, show (i + 1) * 3 = i * 3 + 1 + 1 + 1 by omega, show i * 3 + 1 + 1 + 1 + 1 = i * 3 + 1 + 1 + 1 + 1 from rfl]
      simpa using this
theorem oneE (es : List (En Nat)) : ∀ u ∈ flatE es, u.oneCell' = true := by
  intro u hu
  obtain ⟨e, _, he⟩ := List.mem_flatMap.1 hu
  simp [ecells] at he
  rcases he with rfl | rfl | rfl <;> rfl

theorem infoE : (Try.prog.info? 93).map (fun i => (i.zero, i.size, i.bytes)) = some (some (.agg #[(.float .f64 0), .int .i64 0, .int .i64 0]), 3, 24) := by kernel_rfl
theorem sizeE : (Try.prog.info? 93).map (·.size) = some 3 := by kernel_rfl

/-- a copy of rows of elements of k cells: all is read before anything is written -/
theorem run_copy_cellsK {P : Program} (w : World) (dT sT ty elem : TypeId) (k b o dLen dCap : Nat) (a : Addr) (sLen sCap m : Nat) (cs : List Value)
    (hu : P.underlying dT = some (.slice elem)) (hs : (P.info? elem).map (·.size) = some k) (hm : m = Nat.min sLen dLen) (hn : cs.length = m * k)
    (hsrc : ∀ j v, cs[j]? = some v → w.cell? (a.add j) = some v) (hc : ∀ j, j < cs.length → (w.cell? ⟨b, o + j, none⟩).isSome = true) (hf : ∀ j, j < cs.length → w.frozen? ⟨b, o + j, none⟩ = false) (h1 : ∀ v ∈ cs, v.oneCell' = true) :
    (Builtin.copy_ #[dT, sT] ty #[.slice (some ⟨b, o, none⟩) dLen dCap, .slice (some a) sLen sCap]).run P w = .ok (goInt m) (w.setCells b o cs) := by
  have hl := run_loadCells_list (P := P) w a cs hsrc
  have hst := run_storeCells_cells (P := P) b o cs 0 w (by simpa using hc) (by simpa using hf) h1
  cases hq : P.info? elem with
  | none => simp [hq] at hs
  | some i =>
    have hi : i.size = k := by simpa [hq] using hs
    rw [hn] at hl
    simp [Builtin.copy_, run_underlying hu, Builtin.lenOf, Builtin.firstCells, sizeOf, typeInfo, hq, hi, ← hm, hl, hst]

theorem run_clear_sliceK {P : Program} (w : World) (t e ty : TypeId) (z : Value) (ht : P.underlying t = some (.slice e)) (hv : ∀ w, (zeroValue e).run P w = .ok z w) (b o n c : Nat)
    (h1 : ∀ u ∈ (Builtin.zeroCells z.cells n).toList, u.oneCell' = true)
    (hc : ∀ j, j < (Builtin.zeroCells z.cells n).toList.length → (w.cell? ⟨b, o + j, none⟩).isSome = true) (hf : ∀ j, j < (Builtin.zeroCells z.cells n).toList.length → w.frozen? ⟨b, o + j, none⟩ = false) :
    (Builtin.clear_ #[t] ty #[.slice (some ⟨b, o, none⟩) n c]).run P w = .ok (.tuple #[]) (w.setCells b o (Builtin.zeroCells z.cells n).toList) := by
  have hst := run_storeCells_cells (P := P) b o (Builtin.zeroCells z.cells n).toList 0 w (by simpa using hc) (by simpa using hf) h1
  simp only [Nat.add_zero] at hst
  cases n with
  | zero => simp [Builtin.clear_, run_underlying ht, Builtin.zeroCells, World.setCells]
  | succ n => simp [Builtin.clear_, run_underlying ht, hv, hst]

theorem blk_setCells {b : Nat} {t : TypeId} : ∀ (vs : List Value) (o : Nat) (w : World) (cur : Array Value), Blk w b cur t → ∃ cur', Blk (w.setCells b o vs) b cur' t ∧ cur'.size = cur.size
  | [], _, _, cur, h => ⟨cur, h, rfl⟩
  | v :: r, o, w, cur, h => by
    obtain ⟨c', h1, h2⟩ := blk_setCells r (o + 1) (w.setCell ⟨b, o, none⟩ v) _ (h.set o v)
    exact ⟨c', h1, by rw [h2]; simp⟩
theorem kept_setCells {F : List Nat} {a : World} {b : Nat} (hb : b ∈ F ∨ a.heap.size ≤ b) : ∀ (vs : List Value) (o : Nat) (w : World), Kept F a w → Kept F a (w.setCells b o vs)
  | [], _, _, h => h
  | v :: r, o, _, h => kept_setCells hb r (o + 1) _ (h.setCell (p := ⟨b, o, none⟩) hb v)
theorem isSome_setCells (g : Nat) : ∀ (vs : List Value) (o : Nat) (w : World), (∀ j, j < vs.length → (w.cell? ⟨g, o + j, none⟩).isSome = true) → ∀ k, (w.cell? ⟨g, k, none⟩).isSome = true → ((w.setCells g o vs).cell? ⟨g, k, none⟩).isSome = true := by
  intro vs o w h k hk
  by_cases h1 : k < o ∨ o + vs.length ≤ k
  · rw [World.cell?_setCells_out g vs o w _ (fun _ _ => h1)]; exact hk
  · have := World.cell?_setCells_in g vs o w h (k - o) (by omega)
    rw [show o + (k - o) = k by omega] at this
    rw [this]; rfl

/-- a block whose first cells are known owns them -/
theorem own_of_cells {w : World} {g : Nat} {cur : Array Value} (hb : Blk w g cur 93) (es : List (En Nat)) (cap : Nat) (hs : cur.size = cap * 3) (hn : es.length ≤ cap) (hm : cap ≤ maxLen)
    (hc : ∀ j u, (flatE es)[j]? = some u → w.cell? ⟨g, j, none⟩ = some u) :
    w.ownsRow 0 93 3 (.slice (some ⟨g, 0, none⟩) es.length cap) es.length (flatE es) := by
  refine ⟨flatE_len es, Or.inr ⟨g, cap, cur, rfl, Nat.zero_le _, hb, hn, hm, hs, ?_⟩⟩
  apply List.ext_getElem?
  intro j
  by_cases hj : j < es.length * 3
  · have hj' : j < (flatE es).length := by rw [flatE_len]; exact hj
    have := hc j _ (List.getElem?_eq_getElem hj')
    rw [hb.cell] at this
    rw [List.getElem?_take, if_pos hj, Array.getElem?_toList, this, List.getElem?_eq_getElem hj']
  · rw [List.getElem?_eq_none (by simp; omega), List.getElem?_eq_none (by rw [flatE_len]; omega)]

theorem own_form {w : World} {v : Value} {es : List (En Nat)} (h : w.ownsRow 0 93 3 v es.length (flatE es)) (hn : 0 < es.length) :
    ∃ g cap cur, v = .slice (some ⟨g, 0, none⟩) es.length cap ∧ Blk w g cur 93 ∧ cur.size = cap * 3 ∧ es.length ≤ cap ∧ cap ≤ maxLen ∧ ∀ j u, (flatE es)[j]? = some u → w.cell? ⟨g, j, none⟩ = some u := by
  rcases h.2 with ⟨_, h0⟩ | ⟨g, cap, cur, hv, _, hg, hc, hm, hs, _⟩
  · omega
  · refine ⟨g, cap, cur, hv, hg, hs, hc, hm, fun j u hj => ?_⟩
    have := h.cells (g := g) (by rw [hv]; rfl) j u hj
    have hadd : (⟨g, 0, none⟩ : Addr).add j = ⟨g, j, none⟩ := by unfold Addr.add; split <;> simp_all
    rwa [hadd] at this
end Go.Proofs.Ytgiifedljebclaa.flo
