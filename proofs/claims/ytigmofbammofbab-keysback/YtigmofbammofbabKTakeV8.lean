/- The value at the beginning: no kind. -/
import Derived.Test.YtigmofbammofbabKTakeU
import Derived.Laws.ResultCell
namespace Go.Proofs.Ytigmofbammofbab
open Go.RowKit

set_option maxRecDepth 100000 in
set_option maxHeartbeats 2000000 in
theorem takeValue_no {w : World} {v : Value} {t : List Nat} {d : Nat} {rec : Except Nat (Row × List Nat)} {k : Nat} (hs : Sees w v (k :: t)) (hk0 : k = 0 ∨ 7 < k) :
    Calls Try.prog 36 #[v, .int .i64 (d : Int)] w fun e w' => OutV v.ownBlock (takeV rec k t d) w.heap.size w' e ∧ Kept [] w w' := by
  have hsf := fun (w : World) (a : Addr) (m : Nat) (md : Mode) => run_store Try.prog w a (.float .f64 m) md rfl
  have hsc := fun (w : World) (a : Addr) (m n : Nat) (md : Mode) => run_store Try.prog w a (.complex .f64 m n) md rfl
  have HS := hide hs
  obtain ⟨a, cap, rfl, h1, h2, h3, h4⟩ := hs
  rcases h4 with h4 | ⟨b, off, rfl, h5, h6⟩
  · simp at h4
  have hc : w.cell? ⟨b, off, none⟩ = some (.int .u8 (k : Int)) := by
    have := h6 0 (by simp)
    simpa using this
  have hk256 : k < 256 := h3 k (List.mem_cons_self ..)
  clear h6 h3
  unfold maxLen at h2
  simp only [List.length_cons] at *
  generalize hL : t.length = L at *
  have HL := hide hL
  clear hL
  have hkk : Kept [] w ((w.alloc (.cells #[.int .i64 0, .bool false, .int .i64 0, .float .f64 0, .complex .f64 0 0, .slice none 0 0, .slice none 0 0] 48)).alloc (.cells #[.int .i64 (k : Int), .bool false, .int .i64 0, .float .f64 0, .complex .f64 0 0, .slice none 0 0, .slice none 0 0] 48)) := ((Kept.refl [] w).alloc _).alloc _
  have HS0 := hide ((unhide HS).kept hkk (Or.inr (by simp)))
  have HB0 := hide ((Blk.new w #[.int .i64 0, .bool false, .int .i64 0, .float .f64 0, .complex .f64 0 0, .slice none 0 0, .slice none 0 0] 48).alloc (.cells #[.int .i64 (k : Int), .bool false, .int .i64 0, .float .f64 0, .complex .f64 0 0, .slice none 0 0, .slice none 0 0] 48))
  have HB1 := hide (Blk.new (w.alloc (.cells #[.int .i64 0, .bool false, .int .i64 0, .float .f64 0, .complex .f64 0 0, .slice none 0 0, .slice none 0 0] 48)) #[.int .i64 (k : Int), .bool false, .int .i64 0, .float .f64 0, .complex .f64 0 0, .slice none 0 0, .slice none 0 0] 48)
  simp only [World.size_alloc] at HB1
  have HK0 := hide hkk
  clear hkk
  by_cases hcap : cap = 1
  · subst hcap
    obtain rfl : L = 0 := by omega
    clear h1
    have HT0 := hide ((unhide HS0).drop' 1 0 rfl (some ⟨b, off, none⟩) 0 (by simp) rfl)
    rw [List.drop_one, List.tail_cons] at HT0
    have e9 : takeV rec k t d = .error 40 := by unfold takeV; simp only [if_neg (show ¬ k = 1 by omega), if_neg (show ¬ k = 2 by omega), if_neg (show ¬ k = 3 by omega), if_neg (show ¬ k = 4 by omega), if_neg (show ¬ k = 5 by omega), if_neg (show ¬ k = 6 by omega), if_neg (show ¬ k = 7 by omega)]
    rw [e9]
    have t1 : ((k : Int) == 1) = false := by simp; omega
    have t2 : ((k : Int) == 2) = false := by simp; omega
    have t3 : ((k : Int) == 3) = false := by simp; omega
    have t4 : ((k : Int) == 4) = false := by simp; omega
    have t5 : ((k : Int) == 5) = false := by simp; omega
    have t6 : ((k : Int) == 6) = false := by simp; omega
    have t7 : ((k : Int) == 7) = false := by simp; omega
    clear hk0
    go_enter Try.func36, Try.ntmps36
    go_wp2
    refine bodyPost_ret (results_value rfl rfl rfl ((Blk.new w _ _).alloc _)) rfl ⟨?_, ((Kept.refl [] w).alloc _).alloc _⟩
    exact ⟨hd0 k, _, _, _, rfl⟩
  · have hc1 : (cap = 1) = False := by simp [hcap]
    have HT0 := hide ((unhide HS0).drop' 1 L rfl (some ⟨b, off + 1, none⟩) (cap - 1) (by rw [if_neg hcap]) rfl)
    rw [List.drop_one, List.tail_cons] at HT0
    have e9 : takeV rec k t d = .error 40 := by unfold takeV; simp only [if_neg (show ¬ k = 1 by omega), if_neg (show ¬ k = 2 by omega), if_neg (show ¬ k = 3 by omega), if_neg (show ¬ k = 4 by omega), if_neg (show ¬ k = 5 by omega), if_neg (show ¬ k = 6 by omega), if_neg (show ¬ k = 7 by omega)]
    rw [e9]
    have t1 : ((k : Int) == 1) = false := by simp; omega
    have t2 : ((k : Int) == 2) = false := by simp; omega
    have t3 : ((k : Int) == 3) = false := by simp; omega
    have t4 : ((k : Int) == 4) = false := by simp; omega
    have t5 : ((k : Int) == 5) = false := by simp; omega
    have t6 : ((k : Int) == 6) = false := by simp; omega
    have t7 : ((k : Int) == 7) = false := by simp; omega
    clear hk0
    go_enter Try.func36, Try.ntmps36
    go_wp2
    refine bodyPost_ret (results_value rfl rfl rfl ((Blk.new w _ _).alloc _)) rfl ⟨?_, ((Kept.refl [] w).alloc _).alloc _⟩
    exact ⟨hd0 k, _, _, _, rfl⟩
end Go.Proofs.Ytigmofbammofbab
