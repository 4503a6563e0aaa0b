/- A text of the base. -/
import Derived.Test.YtfhfkpgfnlmfhaaGreatDoorPkBQ
import Derived.Test.YtfhfkpgfnlmfhaaGreatDoorPkBG
/- Bytes that are lent, looked at again, and written over. -/
namespace Go.Proofs.YtfhfkpgfnlmfhaaGreatDoor
open Go.RowKit

theorem sees2 (w : World) (x y : Nat) : Sees (w.alloc (.cells #[.int .u8 (x : Int), .int .u8 (y : Int)] 5)) (.slice (some ⟨w.heap.size, 0, none⟩) 2 2) [x, y] := by
  refine Or.inr ⟨w.heap.size, 0, 2, rfl, by simp, by unfold maxLen; omega, by simp, fun j hj => ?_⟩
  rw [(Blk.new w _ _).cell]
  match j, hj with
  | 0, _ => rfl
  | 1, _ => rfl

set_option maxRecDepth 100000 in
set_option maxHeartbeats 1000000 in
theorem lent_any {w : World} {x : Value} {P : List Nat} (h : Wide w x P) (hl : P.length ≤ 140737488355326) :
    Calls Tryz.prog 5 #[x] w fun e w' => ∃ g cap, e = .returned (.slice (some ⟨g, 0, none⟩) P.length cap) ∧ P.length + 2 ≤ cap ∧ w'.ownsRow w.heap.size 5 1 (.slice (some ⟨g, 0, none⟩) (P.length + 2) cap) (P.length + 2) (u8s (P ++ [201, 77])) ∧ Kept [] w w' := by
  obtain ⟨i0, hi, hz0, hz1, hz2⟩ := info_parts Tryz.info5
  have HP := hide h
  obtain ⟨pa, pc, rfl⟩ := wide_len h
  clear h
  obtain ⟨n, hn⟩ : ∃ n, n = P.length := ⟨_, rfl⟩
  rw [← hn] at hl HP ⊢
  have HN := hide hn
  clear hn
  go_enter Tryz.func5, Tryz.ntmps5
  go_wp2_with (at_builtin; refine wpList_append_wide _ rfl _ _ 22 rfl w.heap.size 5 i0 (.int .u8 0) Tryz.underlying22 hi hz0 hz1 hz2 rfl _ [] rfl (World.ownsRow_made w #[] 0 (Nat.le_refl _) (Nat.zero_le _) rfl) _ P rfl ((unhide HP).kept ((Kept.refl [] w).alloc _)) ?c1 ?c2 ?_)
  case c1 => have := unhide HN; simp; omega
  case c2 => simp
  intro v1 w1 hown hg hat
  have hk1 : Kept [] w w1 := ((Kept.refl [] w).alloc _).grown hg (fun k hk => by simp [Value.ownBlock] at hk; right; omega)
  rw [← unhide HN] at hown
  obtain ⟨a1, c1, hv⟩ := own_len hown
  subst hv
  have HO1 := hide hown
  have HK1 := hide hk1
  clear hown hg hat hk1
  have hs1 : w.heap.size ≤ w1.heap.size := (unhide HK1).size
  go_wp2_with (at_builtin; refine wpList_append_sees _ rfl _ _ 22 rfl w.heap.size 5 i0 (.int .u8 0) Tryz.underlying22 hi hz0 hz1 hz2 rfl _ P rfl (by rw [← unhide HN]; exact (unhide HO1).alloc _) _ [201, 77] rfl (sees2 w1 201 77) ?c3 ?c4 ?_)
  case c3 => have := unhide HN; simp; omega
  case c4 => simp; omega
  intro v2 w2 hown hg hat
  have hk2 : Kept [] w w2 := ((unhide HK1).alloc _).grown hg (fun k hk => by have := ((unhide HO1).lt k hk).1; right; exact this)
  rw [← unhide HN] at hown
  obtain ⟨g, c, hv, -, hgl, hgc, hcm⟩ : ∃ g cap, v2 = .slice (some ⟨g, 0, none⟩) (n + 2) cap ∧ w.heap.size ≤ g ∧ g < w2.heap.size ∧ n + 2 ≤ cap ∧ cap ≤ maxLen := by
    rcases hown.2 with ⟨_, h2⟩ | ⟨g, cap, cur, hv, hb, hg, hc, hm, _⟩
    · omega
    · exact ⟨g, cap, hv, hb, (Array.getElem?_eq_some_iff.1 hg).1, hc, hm⟩
  subst hv
  have HO2 := hide hown
  have HK2 := hide hk2
  have hnc : n ≤ c := by omega
  have hcm' : c ≤ 9223372036854775807 := by unfold maxLen at hcm; omega
  clear hown hg hat hk2 hcm
  go_wp2
  go_ret
  exact ⟨g, c, rfl, hgc, unhide HO2, unhide HK2⟩

set_option maxRecDepth 100000 in
set_option maxHeartbeats 1000000 in
theorem kept_yes {w : World} {g cap n : Nat} {y : Value} {P : List Nat} (hn : n = P.length) (hl : n ≤ 140737488355326) (hc : n + 2 ≤ cap) (h1 : Sees w (.slice (some ⟨g, 0, none⟩) n cap) P) (h2 : Wide w y P) (q1 : w.cell? ⟨g, n, none⟩ = some (.int .u8 201)) (q2 : w.cell? ⟨g, n + 1, none⟩ = some (.int .u8 77)) :
    Calls Tryz.prog 7 #[.slice (some ⟨g, 0, none⟩) n cap, y] w fun e w' => e = .returned (.bool true) ∧ ∃ m, w' = w.drewN m := by
  have HS := hide (same_yesE h1 h2 (by omega))
  obtain ⟨ya, yc, rfl⟩ := wide_len h2
  have HN := hide hn
  rw [← hn] at HS ⊢
  clear h1 h2 hn
  have hc1 : n ≤ cap := by omega
  have hc2 : n + 1 < n + 2 := by omega
  have hc3 : n < n + 2 := by omega
  go_enter Tryz.func7, Tryz.ntmps7
  go_wp2_with (first | (go_at_call 18; refine (unhide HS).mono ?_; rintro e w' ⟨rfl, m, rfl⟩))
  go_ret
  exact ⟨rfl, m, rfl⟩

/-- Bytes turned. -/
def turn (P : List Nat) : List Nat := P.map fun x => 255 - x
theorem turn_len (P : List Nat) : (turn P).length = P.length := by simp [turn]
theorem xor255 (x : Nat) (h : x < 256) : bits .xor .u8 (x : Int) 255 = ((255 - x : Nat) : Int) := by
  have : ∀ m : Nat, m < 256 → bits .xor .u8 (m : Int) 255 = ((255 - m : Nat) : Int) := by decide +kernel
  exact this x h

end Go.Proofs.YtfhfkpgfnlmfhaaGreatDoor
