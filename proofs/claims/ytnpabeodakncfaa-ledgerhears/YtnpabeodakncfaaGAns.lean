/- The document's table of answers. -/
import Derived.Test.YtnpabeodakncfaaGHas
namespace Go.Proofs.Ytnpabeodakncfaa
open Go.RowKit

/-- a row of the table -/
structure An where
  kind : Int
  phs : List UInt8
  ep : Int
  pe : Int
  rc : Int
  rp : Int
def an (a : An) : List Value := [.int .i64 a.kind, .string (ByteArray.mk a.phs.toArray), .int .u8 a.ep, .int .u8 a.pe, .int .i64 a.rc, .int .i64 a.rp]
def tbl : List An :=
  [⟨3, [48, 53, 52], 60, 45, 4, 4⟩, ⟨3, [52], 61, 121, 0, 4⟩, ⟨4, [50], 61, 121, 5, 5⟩, ⟨4, [51], 61, 121, 0, 5⟩, ⟨4, [48, 49, 50, 51, 52, 53], 62, 45, 0, 7⟩,
   ⟨5, [52], 61, 121, 6, 6⟩, ⟨5, [52], 61, 110, 0, 0⟩, ⟨5, [48, 49, 50, 51, 52, 53], 61, 45, 0, 6⟩, ⟨5, [48, 49, 50, 51, 52, 53], 62, 45, 0, 6⟩,
   ⟨6, [51], 61, 121, 7, 0⟩, ⟨7, [52], 61, 121, 8, 0⟩, ⟨8, [50], 61, 121, 3, 0⟩]
def tblc : Array Value := (tbl.flatMap an).toArray
set_option maxRecDepth 100000 in
set_option maxHeartbeats 2000000 in
theorem answers_any (w : World) : Calls Try.prog 45 #[] w fun e w' => e = .returned (.slice (some ⟨w.heap.size, 0, none⟩) 12 12) ∧ Blk w' w.heap.size tblc 71 ∧ Kept [] w w' := by
  go_enter Try.func45, Try.ntmps45
  go_wp2_with fail
  go_ret
  exact ⟨rfl, Blk.new _ _ _, (Kept.refl _ _).alloc _⟩
theorem flat_at {α β : Type} (f : α → List β) (n : Nat) (hf : ∀ a, (f a).length = n) : ∀ (l : List α) (k : Nat) (a : α) (j : Nat), l[k]? = some a → j < n → (l.flatMap f)[k * n + j]? = (f a)[j]?
  | [], k, a, j, h, _ => by simp at h
  | x :: r, 0, a, j, h, hj => by
    simp at h
    subst h
    rw [List.flatMap_cons, List.getElem?_append_left (by rw [hf]; omega)]
    simp
  | x :: r, k + 1, a, j, h, hj => by
    have h' : r[k]? = some a := by simpa using h
    rw [List.flatMap_cons, List.getElem?_append_right (by rw [hf, Nat.add_mul]; omega), hf]
    have e : (k + 1) * n + j - n = k * n + j := by rw [Nat.add_mul]; omega
    rw [e]
    exact flat_at f n hf r k a j h' hj
theorem tbl_range {W : World} {b : Nat} {t : TypeId} (h : Blk W b tblc t) {k : Nat} {a : An} (ha : tbl[k]? = some a) : W.rangeAt b (0 + k * 6) (an a) := by
  intro j v hv
  have hj : j < 6 := by have := (List.getElem?_eq_some_iff.1 hv).1; simpa [an] using this
  rw [h.cell, Nat.zero_add]
  show (tbl.flatMap an).toArray[k * 6 + j]? = some v
  rw [List.getElem?_toArray, flat_at an 6 (fun _ => rfl) tbl k a j ha hj]
  exact hv
theorem sizeAns : (Try.prog.info? 71).map (·.size) = some 6 := by kernel_rfl

def fit (l : Ld) (k x y : Int) (a : An) : Prop := a.kind = k ∧ (∃ c ∈ a.phs, ((c.toNat : Int) - 48) % 256 = l.ph) ∧ (a.ep = 61 ∧ l.ep = x ∨ a.ep = 60 ∧ l.ep < x ∨ a.ep = 62 ∧ x < l.ep) ∧ ¬ (a.pe = 121 ∧ l.pe ≠ y) ∧ ¬ (a.pe = 110 ∧ l.pe = y)
instance (l : Ld) (k x y : Int) (a : An) : Decidable (fit l k x y a) := by unfold fit; infer_instance
def look (l : Ld) (k x y : Int) : List An → Int × Int
  | [] => (0, 0)
  | a :: r => if fit l k x y a then (a.rc, a.rp) else look l k x y r
theorem look_drop (l : Ld) (k x y : Int) {i : Nat} {a : An} (ha : tbl[i]? = some a) : look l k x y (tbl.drop i) = if fit l k x y a then (a.rc, a.rp) else look l k x y (tbl.drop (i + 1)) := by
  obtain ⟨hi, rfl⟩ := List.getElem?_eq_some_iff.1 ha
  rw [List.drop_eq_getElem_cons hi]
  rfl
theorem tbl_rows {i : Nat} {a : An} (ha : tbl[i]? = some a) : a.phs.length ≤ 6 ∧ (a.ep = 60 ∨ a.ep = 61 ∨ a.ep = 62) ∧ (a.pe = 45 ∨ a.pe = 121 ∨ a.pe = 110) := by
  have hm : a ∈ tbl := List.mem_of_getElem? ha
  simp [tbl] at hm
  rcases hm with rfl | rfl | rfl | rfl | rfl | rfl | rfl | rfl | rfl | rfl | rfl | rfl <;> simp
end Go.Proofs.Ytnpabeodakncfaa
