/- A bag in plain words: what waits, by rising numbers; the counts. -/
import Derived.Test.YtcohdkemfkiekaaUBytZ
import Derived.Maps.RangeWalk
import Derived.Maps.Ext
namespace Go.Proofs.Ytcohdkemfkiekaa

/-- A message under way. -/
structure Ms where
  frm : Int
  dst : Int
  dat : List Nat
/-- A bag. -/
structure Bg where
  row : List (Int × Ms)
  sent : Int
  twice : Int
  deliv : Int
  drop : Int
  lost : Int
def Bg.next (g : Bg) : Int := g.sent + g.twice
def newB : Bg := ⟨[], 0, 0, 0, 0, 0⟩
def strB (bs : List Nat) : ByteArray := strOfNums (bs.map fun x : Nat => (x : Int))
def msV (m : Ms) : Value := .agg #[.int .i64 m.frm, .int .i64 m.dst, .string (strB m.dat)]
def zeroMs : Ms := ⟨0, 0, []⟩
open Classical in
/-- How a message reads, as an element of the map: as itself. -/
noncomputable def RM (v : Value) : Option (DataW Value × List MemPlace) := if ∃ m : Ms, v = msV m then some (.held v, []) else none
theorem RM_mk (m : Ms) : RM (msV m) = some (.held (msV m), []) := by
  unfold RM
  rw [if_pos ⟨m, rfl⟩]
theorem RM_inv {v : Value} {z : DataW Value × List MemPlace} (h : RM v = some z) : (∃ m : Ms, v = msV m) ∧ z = (.held v, []) := by
  unfold RM at h
  split at h
  · rename_i hm
    cases h
    exact ⟨hm, rfl⟩
  · cases h
def ent (p : Int × Ms) : Lit × DataW Value := (.int .i64 p.1, .held (msV p.2))
/-- What the map reads as. -/
def Dof (row : List (Int × Ms)) : DataW Value := .map (row.map ent)
/-- The numbers rise. -/
def Rises (row : List (Int × Ms)) : Prop := row.Pairwise fun p q => p.1 < q.1
/-- Without a number. -/
def without (row : List (Int × Ms)) (n : Int) : List (Int × Ms) := row.filter fun p => !decide (p.1 = n)
def look (row : List (Int × Ms)) (n : Int) : Option Ms := (row.find? fun p => decide (p.1 = n)).map Prod.snd
theorem same_int (a b : Int) : Lit.sameKey (.int .i64 a) (.int .i64 b) = decide (a = b) := by
  simp [Lit.sameKey]
theorem ent_same (p : Int × Ms) (n : Int) : (ent p).1.sameKey (.int .i64 n) = decide (p.1 = n) := same_int _ _
theorem insert_last (x : Lit × DataW Value) : ∀ (l : List (Lit × DataW Value)), (∀ y ∈ l, x.1.before y.1 = false) → DataW.insert x l = l ++ [x]
  | [], _ => rfl
  | y :: l, h => by
    rw [DataW.insert, h y (by simp)]
    simp only [Bool.false_eq_true, if_false]
    rw [insert_last x l (fun z hz => h z (by simp [hz]))]
    rfl
theorem Dof_put {row : List (Int × Ms)} {n : Int} (m : Ms) (h : ∀ p ∈ row, p.1 < n) : (Dof row).put (.int .i64 n) (.held (msV m)) = Dof (row ++ [(n, m)]) := by
  unfold Dof
  rw [DataW.put_eq, ChangeMaps.putKey]
  have e1 : (row.map ent).filter (ChangeMaps.notKey (.int .i64 n)) = row.map ent := by
    rw [List.filter_eq_self]
    intro x hx
    obtain ⟨p, hp, rfl⟩ := List.mem_map.1 hx
    have := h p hp
    unfold ChangeMaps.notKey
    rw [ent_same]
    simp
    omega
  rw [e1, insert_last]
  · simp [ent]
  · intro y hy
    obtain ⟨p, hp, rfl⟩ := List.mem_map.1 hy
    have := h p hp
    simp [ent, Lit.before]
    omega
theorem Dof_del (row : List (Int × Ms)) (n : Int) : (Dof row).del (.int .i64 n) = Dof (without row n) := by
  unfold Dof without
  have e : (ChangeMaps.notKey (.int .i64 n)) ∘ ent = fun p => !decide (p.1 = n) := by
    funext p
    simp only [Function.comp, ChangeMaps.notKey, ent_same]
  rw [DataW.del_eq, ChangeMaps.delKey, List.filter_map, e]
theorem Dof_has (row : List (Int × Ms)) (n : Int) : Maps.has (Dof row) (.int .i64 n) = (look row n).isSome := by
  unfold Dof
  rw [Maps.has_eq, List.any_map]
  unfold look
  rw [Option.isSome_map]
  induction row with
  | nil => rfl
  | cons p r ih =>
    rw [List.any_cons, List.find?_cons]
    simp only [Function.comp, ent_same]
    cases hd : decide (p.1 = n)
    · simpa using ih
    · rfl
theorem Dof_at (row : List (Int × Ms)) (n : Int) (z : DataW Value) : (Dof row).atKey (.int .i64 n) z = match look row n with | some m => .held (msV m) | none => z := by
  unfold Dof look DataW.atKey
  induction row with
  | nil => rfl
  | cons p r ih =>
    simp only [List.map_cons, List.find?_cons, ent_same]
    cases hd : decide (p.1 = n)
    · exact ih
    · rfl
theorem Dof_size (row : List (Int × Ms)) : Maps.size (Dof row) = row.length := by
  unfold Dof
  rw [Maps.size_eq, List.length_map]
theorem look_mem {row : List (Int × Ms)} {n : Int} {m : Ms} (h : look row n = some m) : (n, m) ∈ row := by
  unfold look at h
  cases hf : row.find? (fun p => decide (p.1 = n)) with
  | none => rw [hf] at h; cases h
  | some p =>
    rw [hf] at h
    cases h
    have h1 := List.find?_some hf
    have h2 := List.mem_of_find?_eq_some hf
    simp at h1
    rw [← h1]
    exact h2
theorem mem_look {row : List (Int × Ms)} (hr : Rises row) {n : Int} {m : Ms} (h : (n, m) ∈ row) : look row n = some m := by
  induction row with
  | nil => cases h
  | cons p r ih =>
    obtain ⟨h1, h2⟩ := List.pairwise_cons.1 hr
    unfold look
    rw [List.find?_cons]
    rcases List.mem_cons.1 h with rfl | h
    · simp
    · have := h1 _ h
      have hd : decide (p.1 = n) = false := by simp; simp at this; omega
      rw [hd]
      exact ih h2 h
theorem look_none {row : List (Int × Ms)} {n : Int} (h : look row n = none) : ∀ p ∈ row, p.1 ≠ n := by
  intro p hp e
  unfold look at h
  rw [Option.map_eq_none_iff, List.find?_eq_none] at h
  exact h p hp (by simpa using e)
theorem without_rises {row : List (Int × Ms)} (h : Rises row) (n : Int) : Rises (without row n) := List.Pairwise.filter _ h
theorem without_mem {row : List (Int × Ms)} {n : Int} {p : Int × Ms} : p ∈ without row n ↔ p ∈ row ∧ p.1 ≠ n := by
  unfold without
  rw [List.mem_filter]
  simp
theorem without_len {row : List (Int × Ms)} (hr : Rises row) {n : Int} {m : Ms} (h : look row n = some m) : (without row n).length + 1 = row.length := by
  induction row with
  | nil => cases h
  | cons p r ih =>
    obtain ⟨h1, h2⟩ := List.pairwise_cons.1 hr
    by_cases e : p.1 = n
    · have hw : without (p :: r) n = r := by
        unfold without
        rw [List.filter_cons, if_neg (by simp [e]), List.filter_eq_self]
        intro q hq
        have := h1 q hq
        simp
        omega
      rw [hw]
      rfl
    · have hl : look r n = some m := by
        unfold look at h ⊢
        rw [List.find?_cons] at h
        have hd : decide (p.1 = n) = false := by simpa using e
        rw [hd] at h
        exact h
      have hw : without (p :: r) n = p :: without r n := by
        unfold without
        rw [List.filter_cons, if_pos (by simp [e])]
      rw [hw]
      simp [ih h2 hl]
/-- A bag as it can be. -/
structure Bg.ok (g : Bg) : Prop where
  rises : Rises g.row
  low : ∀ p ∈ g.row, 0 ≤ p.1 ∧ p.1 < g.next
  room : g.row.length ≤ 65536
  pos : 0 ≤ g.sent ∧ 0 ≤ g.twice ∧ 0 ≤ g.deliv ∧ 0 ≤ g.drop ∧ 0 ≤ g.lost
  big : g.sent + g.twice + g.deliv + g.drop + g.lost ≤ 4611686018427387904
  byt : ∀ p ∈ g.row, (∀ x ∈ p.2.dat, x < 256) ∧ p.2.dat.length ≤ 524288
  num : ∀ p ∈ g.row, (0 ≤ p.2.frm ∧ p.2.frm ≤ 9223372036854775807) ∧ (0 ≤ p.2.dst ∧ p.2.dst ≤ 9223372036854775807)
end Go.Proofs.Ytcohdkemfkiekaa
