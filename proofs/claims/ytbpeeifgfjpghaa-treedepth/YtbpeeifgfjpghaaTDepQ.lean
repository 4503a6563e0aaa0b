/- TreeDepth: what the loop over a tree's keys holds on to. -/
import Derived.Test.YtbpeeifgfjpghaaTDepP
namespace Go.Proofs.Ytbpeeifgfjpghaa
open Go.RowKit Go.Shelf
set_option linter.unusedVariables false

def lastK (pre : List (Int × Int)) : Int := (pre.getLast?.map (·.1)).getD 0
theorem lastK_snoc (pre : List (Int × Int)) (e : Int × Int) : lastK (pre ++ [e]) = e.1 := by simp [lastK]
theorem rise_last {pre : List (Int × Int)} {e : Int × Int} (h : 0 < pre.length) (hle : e.1 ≤ lastK pre) : ¬ Rise (pre ++ [e]) := by
  intro hr
  obtain ⟨A, x, rfl⟩ : ∃ A x, pre = A ++ [x] := ⟨pre.dropLast, pre.getLast (by intro e; rw [e] at h; simp at h), (List.dropLast_concat_getLast _).symm⟩
  rw [lastK_snoc] at hle
  have h1 := (rise_node (A := A ++ [x]) (B := []) hr).2.2.1 x (by simp)
  simp only [klt, KOrd.lt, decide_eq_true_eq] at h1
  omega
/-- the last key, and how many so far -/
structure DpI (w9 : World) (bl bk : Nat) (pre : List (Int × Int)) (V : World) : Prop where
  kept : Kept [bl, bk] w9 V
  last : Blk V bl #[.int .i64 (lastK pre)] 3
  cnt : Blk V bk #[.int .i64 (pre.length : Int)] 3
theorem dpI_own {B : Nat} {w9 : World} {bl bk : Nat} (hB : w9.heap.size ≤ B) : OwnT B (DpI w9 bl bk) := fun s X Y row hs hg hr =>
  ⟨keptF_own (β := Unit) hB () X Y row hs.kept hg hr, blk_own (β := Unit) (by decide) () X Y row hs.last hg hr, blk_own (β := Unit) (by decide) () X Y row hs.cnt hg hr⟩
theorem DpI.step {w9 : World} {bl bk : Nat} {pre : List (Int × Int)} {V : World} (h : DpI w9 bl bk pre V) (hne : bl ≠ bk) (k x : Int) :
    DpI w9 bl bk (pre ++ [(k, x)]) ((V.setCell ⟨bl, 0, none⟩ (.int .i64 k)).setCell ⟨bk, 0, none⟩ (.int .i64 ((pre.length : Int) + 1))) ∧ ∀ B, Gd B V ((V.setCell ⟨bl, 0, none⟩ (.int .i64 k)).setCell ⟨bk, 0, none⟩ (.int .i64 ((pre.length : Int) + 1))) := by
  have h1 : Blk (V.setCell ⟨bl, 0, none⟩ (.int .i64 k)) bk #[.int .i64 (pre.length : Int)] 3 := h.cnt.other _ (fun e => hne e.symm) _
  have h2 : Blk (V.setCell ⟨bl, 0, none⟩ (.int .i64 k)) bl #[.int .i64 k] 3 := h.last.set 0 _
  refine ⟨⟨(h.kept.setCell (p := ⟨bl, 0, none⟩) (Or.inl (by simp)) _).setCell (p := ⟨bk, 0, none⟩) (Or.inl (by simp)) _, ?_, ?_⟩, fun B => (Gd.set (by decide) h.last _).trans (Gd.set (by decide) h1 _)⟩
  · rw [lastK_snoc]; exact h2.other _ hne _
  · have := h1.set 0 (.int .i64 ((pre.length : Int) + 1))
    simpa using this
end Go.Proofs.Ytbpeeifgfjpghaa
