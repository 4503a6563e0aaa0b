/- The value at the beginning: kind 1. -/
import Derived.Test.YtigmofbammofbabKTakeU
import Derived.Laws.ResultCell
namespace Go.Proofs.Ytigmofbammofbab
open Go.RowKit

set_option maxRecDepth 100000 in
set_option maxHeartbeats 2000000 in
theorem takeValue_1 {w : World} {v : Value} {t : List Nat} {d : Nat} {rec : Except Nat (Row × List Nat)} (hs : Sees w v (1 :: t)) :
    Calls Try.prog 36 #[v, .int .i64 (d : Int)] w fun e w' => OutV v.ownBlock (takeV rec 1 t d) w.heap.size w' e ∧ Kept [] w w' := by
  have hsf := fun (w : World) (a : Addr) (m : Nat) (md : Mode) => run_store Try.prog w a (.float .f64 m) md rfl
  have hsc := fun (w : World) (a : Addr) (m n : Nat) (md : Mode) => run_store Try.prog w a (.complex .f64 m n) md rfl
  have HS := hide hs
  obtain ⟨a, cap, rfl, h1, h2, h3, h4⟩ := hs
  rcases h4 with h4 | ⟨b, off, rfl, h5, h6⟩
  · simp at h4
  have hc : w.cell? ⟨b, off, none⟩ = some (.int .u8 1) := by
    have := h6 0 (by simp)
    simpa using this
  clear h6 h3
  unfold maxLen at h2
  simp only [List.length_cons] at *
  generalize hL : t.length = L at *
  have HL := hide hL
  clear hL
  have hk0 : Kept [] w ((w.alloc (.cells #[.int .i64 0, .bool false, .int .i64 0, .float .f64 0, .complex .f64 0 0, .slice none 0 0, .slice none 0 0] 48)).alloc (.cells #[.int .i64 1, .bool false, .int .i64 0, .float .f64 0, .complex .f64 0 0, .slice none 0 0, .slice none 0 0] 48)) := ((Kept.refl [] w).alloc _).alloc _
  have HS0 := hide ((unhide HS).kept hk0 (Or.inr (by simp)))
  have HB0 := hide ((Blk.new w #[.int .i64 0, .bool false, .int .i64 0, .float .f64 0, .complex .f64 0 0, .slice none 0 0, .slice none 0 0] 48).alloc (.cells #[.int .i64 1, .bool false, .int .i64 0, .float .f64 0, .complex .f64 0 0, .slice none 0 0, .slice none 0 0] 48))
  have HB1 := hide (Blk.new (w.alloc (.cells #[.int .i64 0, .bool false, .int .i64 0, .float .f64 0, .complex .f64 0 0, .slice none 0 0, .slice none 0 0] 48)) #[.int .i64 1, .bool false, .int .i64 0, .float .f64 0, .complex .f64 0 0, .slice none 0 0, .slice none 0 0] 48)
  simp only [World.size_alloc] at HB1
  have HK0 := hide hk0
  clear hk0
  by_cases hcap : cap = 1
  · subst hcap
    obtain rfl : L = 0 := by omega
    clear h1
    have HT0 := hide ((unhide HS0).drop' 1 0 rfl (some ⟨b, off, none⟩) 0 (by simp) rfl)
    rw [List.drop_one, List.tail_cons] at HT0
    have e9 : takeV rec 1 t d = .ok (hd0 1, .nil, t) := rfl
    rw [e9]
    go_enter Try.func36, Try.ntmps36
    have HTW := hide ((unhide HS).drop' 1 0 rfl (some ⟨b, off, none⟩) 0 (by simp) rfl)
    go_wp2
    refine bodyPost_ret (results_value rfl rfl rfl ((Blk.new w _ _).alloc _)) rfl ⟨?_, ((Kept.refl [] w).alloc _).alloc _⟩
    exact ⟨none, 0, 0, none, 0, 0, _, _, _, rfl, hd0_ok 1 (by omega) (by omega), SeesIn.none _ _, rfl, RowV.nil _ _, unhide HL, (unhide HTW).kept (((Kept.refl [] w).alloc _).alloc _) (Or.inr (by simp)), rfl⟩
  · have hc1 : (cap = 1) = False := by simp [hcap]
    have HT0 := hide ((unhide HS0).drop' 1 L rfl (some ⟨b, off + 1, none⟩) (cap - 1) (by rw [if_neg hcap]) rfl)
    rw [List.drop_one, List.tail_cons] at HT0
    have e9 : takeV rec 1 t d = .ok (hd0 1, .nil, t) := rfl
    rw [e9]
    go_enter Try.func36, Try.ntmps36
    have HTW := hide ((unhide HS).drop' 1 L rfl (some ⟨b, off + 1, none⟩) (cap - 1) (by rw [if_neg hcap]) rfl)
    go_wp2
    refine bodyPost_ret (results_value rfl rfl rfl ((Blk.new w _ _).alloc _)) rfl ⟨?_, ((Kept.refl [] w).alloc _).alloc _⟩
    exact ⟨none, 0, 0, none, 0, 0, _, _, _, rfl, hd0_ok 1 (by omega) (by omega), SeesIn.none _ _, rfl, RowV.nil _ _, unhide HL, (unhide HTW).kept (((Kept.refl [] w).alloc _).alloc _) (Or.inr (by simp)), rfl⟩
end Go.Proofs.Ytigmofbammofbab
