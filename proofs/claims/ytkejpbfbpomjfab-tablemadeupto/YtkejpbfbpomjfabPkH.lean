/- A text of the base. -/
import Derived.Test.YtkejpbfbpomjfabPkB
/- How many entries the calls leave. -/
namespace Go.Proofs.Ytkejpbfbpomjfab.tre
open Go
variable {K V : Type} [KOrd K]
theorem klt_int (a b : Int) : KOrd.lt a b = decide (a < b) := rfl
namespace Tr
omit [KOrd K] in
theorem meet_size (l h : Tr K V) : (meet l h).size = l.size + h.size := by
  rw [← list_length, meet_list, List.length_append, list_length, list_length]
omit [KOrd K] in
theorem cut_size (x l : Tr K V) (k : K) (v : V) (r : Tr K V) : (cut x l k v r).1.size = l.size + r.size := by
  have := congrArg List.length (cut_list x l k v r)
  simp only [List.length_append, List.length_cons, List.length_nil, list_length] at this
  omega
theorem put_size (t : Tr K V) (k : K) (v : V) : (t.put k v).size ≤ t.size + 1 := by
  induction t with
  | nil => simp [put, size]
  | node l k' v' r ihl ihr =>
    unfold put
    split
    · rw [join_size]; simp only [size]; omega
    · split
      · rw [join_size]; simp only [size]; omega
      · simp only [size]; omega
theorem without_size (t : Tr K V) (k : K) : (t.without k).1.size ≤ t.size := by
  induction t with
  | nil => simp [without, size]
  | node l k' v' r ihl ihr =>
    unfold without
    split
    · split
      · rw [join_size]; simp only [size]; omega
      · exact Nat.le_refl _
    · split
      · split
        · rw [join_size]; simp only [size]; omega
        · exact Nat.le_refl _
      · rw [meet_size]; simp only [size]; omega
theorem split_size (t : Tr K V) (k : K) : (t.split k).1.size + (t.split k).2.size = t.size := by
  induction t with
  | nil => simp [split, size]
  | node l k' v' r ihl ihr =>
    unfold split
    split
    · rw [join_size]; simp only [size]; omega
    · rw [join_size]; simp only [size]; omega
theorem rank_size (t : Tr K V) (k : K) : t.rank k ≤ t.size := by
  induction t with
  | nil => simp [rank, size]
  | node l k' v' r ihl ihr =>
    unfold rank
    split <;> simp only [size] <;> omega
end Tr
end Go.Proofs.Ytkejpbfbpomjfab.tre
