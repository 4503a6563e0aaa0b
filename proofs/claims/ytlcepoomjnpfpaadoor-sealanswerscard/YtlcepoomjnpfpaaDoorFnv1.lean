/- FNV of one part, of two. -/
import Derived.Test.YtlcepoomjnpfpaaDoorOwn
namespace Go.Proofs.YtlcepoomjnpfpaaDoor
open Go.RowKit

theorem Parts.of1 {w : World} {b : Nat} {t : TypeId} {v0 : Value} {l0 : List Nat} (h : Blk w b #[v0] t) (h0 : Sees w v0 l0) : Parts w (.slice (some ⟨b, 0, none⟩) 1 1) [(v0, l0)] := by
  refine ⟨_, 1, rfl, by simp, by simp [maxLen], ?_, Or.inr ⟨b, 0, rfl, h.lt, ?_⟩⟩
  · intro p hp
    simp at hp
    subst hp
    exact h0
  · intro j p hp
    rw [h.cell, Nat.zero_add]
    match j, hp with
    | 0, hp => simp at hp; subst hp; rfl
    | j + 1, hp => simp at hp

theorem fnv_one {w : World} {v : Value} {bs : List Nat} (hs : Sees w v bs) (t : TypeId) :
    Calls Tryd.prog 22 #[.slice (some ⟨w.heap.size, 0, none⟩) 1 1] (w.alloc (.cells #[v] t)) fun e w' => e = .returned (.int .u64 (marks fnv0 bs : Nat)) ∧ w' = w.alloc (.cells #[v] t) := by
  have := fnv_any (Parts.of1 (Blk.new w #[v] t) (hs.kept ((Kept.refl [] w).alloc _) (Or.inr (by simp))))
  have e : catP [(v, bs)] = bs := by simp [catP]
  rw [e] at this
  exact this

theorem fnv_one2 {w : World} {v : Value} {bs : List Nat} (hs : Sees w v bs) (t : TypeId) (o : Obj) :
    Calls Tryd.prog 22 #[.slice (some ⟨w.heap.size + 1, 0, none⟩) 1 1] ((w.alloc o).alloc (.cells #[v] t)) fun e w' => e = .returned (.int .u64 (marks fnv0 bs : Nat)) ∧ w' = (w.alloc o).alloc (.cells #[v] t) := by
  have := fnv_one (hs.kept ((Kept.refl [] w).alloc o) (Or.inr (by simp))) t
  simpa using this

theorem fnv_two {w : World} {v1 v2 : Value} {a b : List Nat} (h1 : Sees w v1 a) (h2 : Sees w v2 b) (t : TypeId) :
    Calls Tryd.prog 22 #[.slice (some ⟨w.heap.size, 0, none⟩) 2 2] (w.alloc (.cells #[v1, v2] t)) fun e w' => e = .returned (.int .u64 (marks fnv0 (a ++ b) : Nat)) ∧ w' = w.alloc (.cells #[v1, v2] t) := by
  have := fnv_any (Parts.of2 (Blk.new w #[v1, v2] t) (h1.kept ((Kept.refl [] w).alloc _) (Or.inr (by simp))) (h2.kept ((Kept.refl [] w).alloc _) (Or.inr (by simp))))
  have e : catP [(v1, a), (v2, b)] = a ++ b := by simp [catP]
  rw [e] at this
  exact this
end Go.Proofs.YtlcepoomjnpfpaaDoor
