/- The law's same, ints, alike: of what is the same. -/
import Derived.Test.YtcohdkemfkiekaaUKnoZ
import Derived.OwnWalk
import Derived.BigQuiet
namespace Go.Proofs.Ytcohdkemfkiekaa
open Go.RowKit
set_option linter.unusedSimpArgs false

set_option maxRecDepth 100000 in
set_option maxHeartbeats 400000 in
theorem same_any {w : World} {v1 v2 : Value} {bs : List Nat} (h1 : Sees w v1 bs) (h2 : Sees w v2 bs) :
    Calls Try.prog 27 #[v1, v2] w fun e w' => e = .returned (.bool true) ∧ ∃ m, w' = w.drewN m := by
  obtain ⟨a, cap, rfl, a1, a2, a3, a4⟩ := h1
  obtain ⟨b, cap2, rfl, b1, b2, b3, b4⟩ := h2
  have A4 := hide a4
  have B4 := hide b4
  have hml : bs.length ≤ 9223372036854775807 := by unfold maxLen at a2; omega
  clear a3 a4 b3 b4
  generalize hL : bs.length = L at a1 b1 hml
  have HL := hide hL
  clear hL
  go_enter Try.func27, Try.ntmps27
  go_wp2_with fail
  go_loopw [5] (fun i wr => ∃ k : Nat, k ≤ L ∧ i = .int .i64 k ∧ ∃ m, wr = w.drewN m) (fun i _ => L - (intOf i).toNat)
  case atStart => exact ⟨0, by omega, rfl, 0, rfl⟩
  case round =>
    obtain ⟨k, hk, rfl, m, hq⟩ := hrel
    subst hq
    by_cases hkl : k < L
    · obtain ⟨b1', o1, rfl, c1⟩ := at_sees (unhide HL) (unhide A4) hkl
      obtain ⟨b2', o2, rfl, c2⟩ := at_sees (unhide HL) (unhide B4) hkl
      generalize bs.getD k 0 = x at c1 c2
      go_wp2
      go_quiet (fail)
      go_wp2
      go_roundw
      case rel => exact ⟨k + 1, by omega, by simp, _, rfl⟩
      case measure => simp [intOf]; omega
    · obtain rfl : k = L := by omega
      go_wp2
      go_ret
      exact ⟨rfl, _, rfl⟩
set_option maxRecDepth 100000 in
set_option maxHeartbeats 400000 in
theorem ints_any {w : World} {v1 v2 : Value} {l : List Int} (s1 : SeesI w v1 l) (s2 : SeesI w v2 l) :
    Calls Try.prog 19 #[v1, v2] w fun e w' => e = .returned (.bool true) ∧ ∃ m, w' = w.drewN m := by
  obtain ⟨a, cap, rfl, h1, h2, h4⟩ := s1
  obtain ⟨b, cbp, rfl, g1, g2, g4⟩ := s2
  have hml : l.length ≤ 9223372036854775807 := by unfold maxLen at h2; omega
  have H4 := hide h4
  have G4 := hide g4
  clear h4 g4
  generalize hL : l.length = L at h1 g1 hml
  have HL := hide hL
  clear hL
  go_enter Try.func19, Try.ntmps19
  go_wp2_with fail
  go_loopw [5] (fun i wr => ∃ k : Nat, k ≤ L ∧ i = .int .i64 k ∧ ∃ m, wr = w.drewN m) (fun i _ => L - (intOf i).toNat)
  case atStart => exact ⟨0, by omega, rfl, 0, rfl⟩
  case round =>
    obtain ⟨k, hk, rfl, m, hq⟩ := hrel
    subst hq
    by_cases hkl : k < L
    · obtain ⟨p, off, rfl, hc⟩ := at_int (unhide HL) (unhide H4) hkl
      obtain ⟨q, off2, rfl, hc2⟩ := at_int (unhide HL) (unhide G4) hkl
      generalize l.getD k 0 = x at hc hc2
      go_wp2
      go_quiet (fail)
      go_wp2
      go_roundw
      case rel => exact ⟨k + 1, by omega, by simp, _, rfl⟩
      case measure => simp [intOf]; omega
    · obtain rfl : k = L := by omega
      go_wp2
      go_ret
      exact ⟨rfl, _, rfl⟩
set_option maxRecDepth 100000 in
set_option maxHeartbeats 400000 in
theorem alike_any {w : World} {n f t : Int} {v1 v2 : Value} {bs : List Nat} (h1 : Sees w v1 bs) (h2 : Sees w v2 bs) :
    Calls Try.prog 23 #[.agg #[.int .i64 n, .int .i64 f, .int .i64 t, v1], .agg #[.int .i64 n, .int .i64 f, .int .i64 t, v2]] w fun e w' => e = .returned (.bool true) ∧ Kept [] w w' := by
  have H1 := hide h1
  have H2 := hide h2
  obtain ⟨a1, c1, rfl, -⟩ := h1
  obtain ⟨a2, c2, rfl, -⟩ := h2
  go_enter Try.func23, Try.ntmps23
  go_upto_region 1 with fail
  refine world_at (R := fun X => Kept [] w X ∧ Blk X w.heap.size #[.int .i64 n, .int .i64 f, .int .i64 t, .slice a1 bs.length c1] 48 ∧ Blk X (w.heap.size + 1) #[.int .i64 n, .int .i64 f, .int .i64 t, .slice a2 bs.length c2] 48) ⟨((Kept.refl [] w).alloc _).alloc _, (Blk.new _ _ _).alloc _, (by have h := Blk.new (w.alloc (.cells #[.int .i64 n, .int .i64 f, .int .i64 t, .slice a1 bs.length c1] 48)) #[.int .i64 n, .int .i64 f, .int .i64 t, .slice a2 bs.length c2] 48; rw [World.size_alloc] at h; exact h)⟩ ?_
  rintro X ⟨hk, hx, hy⟩
  have d0 := hx.cell 0
  have d1 := hx.cell 1
  have d2 := hx.cell 2
  have d3 := hx.cell 3
  have e0 := hy.cell 0
  have e1 := hy.cell 1
  have e2 := hy.cell 2
  have e3 := hy.cell 3
  simp only [List.getElem?_toArray, List.getElem?_cons_zero, List.getElem?_cons_succ] at d0 d1 d2 d3 e0 e1 e2 e3
  have HK := hide hk
  clear hx hy hk
  go_wp2_with (go_at_call 27; refine (same_any ((unhide H1).kept (unhide HK) (Or.inr (by simp))) ((unhide H2).kept (unhide HK) (Or.inr (by simp)))).mono ?_; rintro e w6 ⟨rfl, mm, hq⟩; subst hq)
  go_ret
  exact ⟨rfl, (unhide HK).drewN _⟩
end Go.Proofs.Ytcohdkemfkiekaa
