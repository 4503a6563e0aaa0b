/- Texts laid one behind the other: Wrt Lay Wri. -/
import Derived.Test.YtfhfkpgfnlmfhaaGreatDoorPkB
import Derived.Deep.QuietTactic
import Derived.BigQuiet
/- The writer: its state in memory, and what its methods do to it. -/
namespace Go.Proofs.YtfhfkpgfnlmfhaaGreatDoor
open Go.RowKit

/-- A writer's state: room, bytes, where the open frames begin (the outermost first), fault. -/
structure WS where
  room : Nat
  bs : List Nat
  sts : List Nat
  fault : Nat

def i64s (l : List Nat) : List Value := l.map fun b : Nat => Value.int .i64 (b : Int)

def foot (b : Nat) (v sv : Value) : List Nat := b :: (v.ownBlock.toList ++ sv.ownBlock.toList)

theorem blk4 {w : World} {b : Nat} {x0 x1 x2 x3 : Value} {t : TypeId} (h : Blk w b #[x0, x1, x2, x3] t) :
    w.cell? ⟨b, 0, none⟩ = some x0 ∧ w.cell? ⟨b, 1, none⟩ = some x1 ∧ w.cell? ⟨b, 2, none⟩ = some x2 ∧ w.cell? ⟨b, 3, none⟩ = some x3 :=
  ⟨by rw [h.cell]; rfl, by rw [h.cell]; rfl, by rw [h.cell]; rfl, by rw [h.cell]; rfl⟩

/-- What a slice value that owns a row looks like: its length. -/
theorem own_len {w : World} {base : Nat} {e : TypeId} {s : Nat} {v : Value} {n : Nat} {xs : List Value} (h : w.ownsRow base e s v n xs) : ∃ a cap, v = .slice a n cap := by
  rcases h.2 with ⟨h1, h2⟩ | ⟨g, cap, cur, hv, _⟩
  · exact ⟨none, 0, by rw [h1, h2]⟩
  · exact ⟨_, _, hv⟩

theorem own_quiet {w w' : World} {base : Nat} {e : TypeId} {s : Nat} {v : Value} {n : Nat} {xs : List Value} (h : w.ownsRow base e s v n xs) (q : Quiet w w') : w'.ownsRow base e s v n xs := own_kept h q.kept (fun _ _ => by simp)
def cat (ps : List (Value × List Nat)) : List Nat := (ps.map (·.2)).flatten
theorem cat_take (ps : List (Value × List Nat)) (k : Nat) (hk : k < ps.length) : cat (ps.take (k + 1)) = cat (ps.take k) ++ ps[k].2 := by
  unfold cat; rw [List.take_succ_eq_append_getElem hk, List.map_append, List.flatten_append]; simp
theorem cat_take_le (ps : List (Value × List Nat)) (k : Nat) : (cat (ps.take k)).length ≤ (cat ps).length := by
  have : cat ps = cat (ps.take k) ++ cat (ps.drop k) := by
    unfold cat; rw [← List.flatten_append, ← List.map_append, List.take_append_drop]
  rw [this]; simp

theorem sees_len {w : World} {v : Value} {bs : List Nat} (h : Sees w v bs) : ∃ a cap, v = .slice a bs.length cap := by
  rcases h with ⟨h1, h2⟩ | ⟨b, off, cap, hv, _⟩
  · exact ⟨none, 0, by rw [h1, h2]; rfl⟩
  · exact ⟨_, _, hv⟩

end Go.Proofs.YtfhfkpgfnlmfhaaGreatDoor

/- The writer's lay. -/
namespace Go.Proofs.YtfhfkpgfnlmfhaaGreatDoor
open Go.RowKit

end Go.Proofs.YtfhfkpgfnlmfhaaGreatDoor

/- The writer's New, Num, Int, Len, Done. -/
namespace Go.Proofs.YtfhfkpgfnlmfhaaGreatDoor
open Go.RowKit

def newWS (room : Nat) : WS := ⟨room, [], [], 0⟩
def nilS : Value := .slice none 0 0

theorem sees_alloc {w : World} {v : Value} {bs : List Nat} (o : Obj) (h : Sees w v bs) : Sees (w.alloc o) v bs := h.kept ((Kept.refl [] w).alloc o) (by simp)

set_option maxRecDepth 100000 in
set_option maxHeartbeats 400000 in
/-- bytes.Clone -/
theorem clone_any {w : World} {x : Value} {bs : List Nat} (h : Sees w x bs) (hl : bs.length ≤ 140737488355328) :
    Calls Tryz.prog 39 #[x] w fun e w' => ∃ a cap, e = .returned (.slice a bs.length cap) ∧ w'.ownsRow w.heap.size 5 1 (.slice a bs.length cap) bs.length (u8s bs) ∧ Kept [] w w' := by
  obtain ⟨i0, hi, hz0, hz1, hz2⟩ := info_parts Tryz.info5
  have e0 := fun (a : Option Addr) (n c : Nat) (w : World) => Lib.run_eql_slice_nil (P := Tryz.prog) w 22 5 a n c 0 0 Tryz.underlying22
  rcases h with ⟨rfl, rfl⟩ | ⟨b, off, cap, rfl, h1, h2, h3, h4⟩
  · go_enter Tryz.func39, Tryz.ntmps39
    go_wp2
    go_ret
    exact ⟨none, 0, rfl, World.ownsRow_nil _ _ _ _, Kept.refl _ _⟩
  · have hs : Sees w (.slice (some ⟨b, off, none⟩) bs.length cap) bs := Or.inr ⟨b, off, cap, rfl, h1, h2, h3, h4⟩
    clear h1 h2 h3 h4
    go_enter Tryz.func39, Tryz.ntmps39
    go_wp2_with (at_builtin; refine wpList_append_sees _ rfl _ _ 22 rfl w.heap.size 5 i0 (.int .u8 0) Tryz.underlying22 hi hz0 hz1 hz2 rfl _ [] rfl (World.ownsRow_made w #[] 0 (Nat.le_refl _) (Nat.zero_le _) rfl) _ bs rfl (sees_alloc _ hs) ?c1 ?c2 ?_)
    case c1 => first | omega | (simp; omega)
    case c2 => simp
    intro v' w1 hown hg hat
    obtain ⟨a, c, hv⟩ := own_len hown
    subst hv
    go_wp2
    go_ret
    exact ⟨a, c, rfl, by simpa using hown, ((Kept.refl [] w).alloc _).grown hg (fun k hk => by simp [Value.ownBlock] at hk; right; omega)⟩

end Go.Proofs.YtfhfkpgfnlmfhaaGreatDoor
