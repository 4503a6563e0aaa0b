/- The value at the beginning: kind 5. -/
import Derived.Test.YtigmofbammofbabKTakeU
import Derived.Laws.ResultCell
namespace Go.Proofs.Ytigmofbammofbab
open Go.RowKit

set_option maxRecDepth 100000 in
set_option maxHeartbeats 2000000 in
theorem takeValue_5 {w : World} {v : Value} {t : List Nat} {d : Nat} {rec : Except Nat (Row × List Nat)} (hs : Sees w v (5 :: t)) :
    Calls Try.prog 36 #[v, .int .i64 (d : Int)] w fun e w' => OutV v.ownBlock (takeV rec 5 t d) w.heap.size w' e ∧ Kept [] w w' := by
  have hsf := fun (w : World) (a : Addr) (m : Nat) (md : Mode) => run_store Try.prog w a (.float .f64 m) md rfl
  have hsc := fun (w : World) (a : Addr) (m n : Nat) (md : Mode) => run_store Try.prog w a (.complex .f64 m n) md rfl
  have HS := hide hs
  obtain ⟨a, cap, rfl, h1, h2, h3, h4⟩ := hs
  rcases h4 with h4 | ⟨b, off, rfl, h5, h6⟩
  · simp at h4
  have hc : w.cell? ⟨b, off, none⟩ = some (.int .u8 5) := by
    have := h6 0 (by simp)
    simpa using this
  have H3' : Hid (∀ x ∈ t, x < 256) := fun x hx => h3 x (List.mem_cons_of_mem _ hx)
  clear h6 h3
  unfold maxLen at h2
  simp only [List.length_cons] at *
  generalize hL : t.length = L at *
  have HL := hide hL
  clear hL
  have hk0 : Kept [] w ((w.alloc (.cells #[.int .i64 0, .bool false, .int .i64 0, .float .f64 0, .complex .f64 0 0, .slice none 0 0, .slice none 0 0] 48)).alloc (.cells #[.int .i64 5, .bool false, .int .i64 0, .float .f64 0, .complex .f64 0 0, .slice none 0 0, .slice none 0 0] 48)) := ((Kept.refl [] w).alloc _).alloc _
  have HS0 := hide ((unhide HS).kept hk0 (Or.inr (by simp)))
  have HB0 := hide ((Blk.new w #[.int .i64 0, .bool false, .int .i64 0, .float .f64 0, .complex .f64 0 0, .slice none 0 0, .slice none 0 0] 48).alloc (.cells #[.int .i64 5, .bool false, .int .i64 0, .float .f64 0, .complex .f64 0 0, .slice none 0 0, .slice none 0 0] 48))
  have HB1 := hide (Blk.new (w.alloc (.cells #[.int .i64 0, .bool false, .int .i64 0, .float .f64 0, .complex .f64 0 0, .slice none 0 0, .slice none 0 0] 48)) #[.int .i64 5, .bool false, .int .i64 0, .float .f64 0, .complex .f64 0 0, .slice none 0 0, .slice none 0 0] 48)
  simp only [World.size_alloc] at HB1
  have HK0 := hide hk0
  clear hk0
  by_cases hcap : cap = 1
  · subst hcap
    obtain rfl : L = 0 := by omega
    clear h1
    have HT0 := hide ((unhide HS0).drop' 1 0 rfl (some ⟨b, off, none⟩) 0 (by simp) rfl)
    rw [List.drop_one, List.tail_cons] at HT0
    have e9 : takeV rec 5 t d = liftO (fun m => { hd0 5 with pr := m.1, im := m.2 }) (takeP t) := rfl
    rw [e9]
    have HTB := hide (takePoint_any (unhide HT0))
    cases ht : takeP t with
    | none =>
      rw [ht] at HTB
      go_enter Try.func36, Try.ntmps36
      go_wp2_with (first | (go_at_call 47; refine (unhide HTB).mono ?_; rintro e w1 ⟨rfl, hk1⟩; have HB0' := hide ((unhide HB0).kept hk1 (by simp)); have HB1' := hide ((unhide HB1).kept hk1 (by simp)); obtain ⟨c00, c01, c02, c03, c04, c05, c06⟩ := blk7 (unhide HB0'); obtain ⟨c10, c11, c12, c13, c14, c15, c16⟩ := blk7 (unhide HB1'); have f0 := blk7f (unhide HB0'); have f1 := blk7f (unhide HB1'); have HK1 := hide ((unhide HK0).trans hk1 (by simp)); clear hk1))
      show bodyPost Try.prog _ _ _ _ (Fin w1 w.heap.size 4 (.complex .f64 0 0) (.int .i64 5) (.bool false) (.int .i64 0) (.float .f64 0) (.complex .f64 0 0) (.slice none 0 0) (.slice none 0 0))
      refine bodyPost_ret (results_value rfl rfl rfl (fin_blk (unhide HB0'))) rfl ⟨?_, fin_all (unhide HK1) ..⟩
      exact ⟨hd0 5, none, 0, 0, rfl⟩
    | some mr =>
      obtain ⟨x, r⟩ := mr
      rw [ht] at HTB
      go_enter Try.func36, Try.ntmps36
      go_wp2_with (first | (go_at_call 47; refine (unhide HTB).mono ?_; rintro e w1 ⟨⟨ra, m, rc, rfl, hl1, hs1, hb1⟩, hk1⟩; have HO1 := hide (⟨hl1, hs1, hb1⟩ : _ ∧ _ ∧ _); clear hl1 hs1 hb1; have HB0' := hide ((unhide HB0).kept hk1 (by simp)); have HB1' := hide ((unhide HB1).kept hk1 (by simp)); obtain ⟨c00, c01, c02, c03, c04, c05, c06⟩ := blk7 (unhide HB0'); obtain ⟨c10, c11, c12, c13, c14, c15, c16⟩ := blk7 (unhide HB1'); have f0 := blk7f (unhide HB0'); have f1 := blk7f (unhide HB1'); have HK1 := hide ((unhide HK0).trans hk1 (by simp)); clear hk1))
      show bodyPost Try.prog _ _ _ _ (Fin w1 w.heap.size 4 (.complex .f64 x.1 x.2) (.int .i64 5) (.bool false) (.int .i64 0) (.float .f64 0) (.complex .f64 x.1 x.2) (.slice none 0 0) (.slice none 0 0))
      refine bodyPost_ret (results_value rfl rfl rfl (fin_blk (unhide HB0'))) rfl ⟨?_, fin_all (unhide HK1) ..⟩
      exact ⟨none, 0, 0, none, 0, 0, ra, m, rc, rfl, ok5 (takeP_lt ht (unhide H3')).1 (takeP_lt ht (unhide H3')).2.1, SeesIn.none _ _, rfl, RowV.nil _ _, (unhide HO1).1, fin_sees (unhide HO1).2.1 (unhide HO1).2.2 h5 .., (unhide HO1).2.2⟩
  · have hc1 : (cap = 1) = False := by simp [hcap]
    have HT0 := hide ((unhide HS0).drop' 1 L rfl (some ⟨b, off + 1, none⟩) (cap - 1) (by rw [if_neg hcap]) rfl)
    rw [List.drop_one, List.tail_cons] at HT0
    have e9 : takeV rec 5 t d = liftO (fun m => { hd0 5 with pr := m.1, im := m.2 }) (takeP t) := rfl
    rw [e9]
    have HTB := hide (takePoint_any (unhide HT0))
    cases ht : takeP t with
    | none =>
      rw [ht] at HTB
      go_enter Try.func36, Try.ntmps36
      go_wp2_with (first | (go_at_call 47; refine (unhide HTB).mono ?_; rintro e w1 ⟨rfl, hk1⟩; have HB0' := hide ((unhide HB0).kept hk1 (by simp)); have HB1' := hide ((unhide HB1).kept hk1 (by simp)); obtain ⟨c00, c01, c02, c03, c04, c05, c06⟩ := blk7 (unhide HB0'); obtain ⟨c10, c11, c12, c13, c14, c15, c16⟩ := blk7 (unhide HB1'); have f0 := blk7f (unhide HB0'); have f1 := blk7f (unhide HB1'); have HK1 := hide ((unhide HK0).trans hk1 (by simp)); clear hk1))
      show bodyPost Try.prog _ _ _ _ (Fin w1 w.heap.size 4 (.complex .f64 0 0) (.int .i64 5) (.bool false) (.int .i64 0) (.float .f64 0) (.complex .f64 0 0) (.slice none 0 0) (.slice none 0 0))
      refine bodyPost_ret (results_value rfl rfl rfl (fin_blk (unhide HB0'))) rfl ⟨?_, fin_all (unhide HK1) ..⟩
      exact ⟨hd0 5, none, 0, 0, rfl⟩
    | some mr =>
      obtain ⟨x, r⟩ := mr
      rw [ht] at HTB
      go_enter Try.func36, Try.ntmps36
      go_wp2_with (first | (go_at_call 47; refine (unhide HTB).mono ?_; rintro e w1 ⟨⟨ra, m, rc, rfl, hl1, hs1, hb1⟩, hk1⟩; have HO1 := hide (⟨hl1, hs1, hb1⟩ : _ ∧ _ ∧ _); clear hl1 hs1 hb1; have HB0' := hide ((unhide HB0).kept hk1 (by simp)); have HB1' := hide ((unhide HB1).kept hk1 (by simp)); obtain ⟨c00, c01, c02, c03, c04, c05, c06⟩ := blk7 (unhide HB0'); obtain ⟨c10, c11, c12, c13, c14, c15, c16⟩ := blk7 (unhide HB1'); have f0 := blk7f (unhide HB0'); have f1 := blk7f (unhide HB1'); have HK1 := hide ((unhide HK0).trans hk1 (by simp)); clear hk1))
      show bodyPost Try.prog _ _ _ _ (Fin w1 w.heap.size 4 (.complex .f64 x.1 x.2) (.int .i64 5) (.bool false) (.int .i64 0) (.float .f64 0) (.complex .f64 x.1 x.2) (.slice none 0 0) (.slice none 0 0))
      refine bodyPost_ret (results_value rfl rfl rfl (fin_blk (unhide HB0'))) rfl ⟨?_, fin_all (unhide HK1) ..⟩
      exact ⟨none, 0, 0, none, 0, 0, ra, m, rc, rfl, ok5 (takeP_lt ht (unhide H3')).1 (takeP_lt ht (unhide H3')).2.1, SeesIn.none _ _, rfl, RowV.nil _ _, (unhide HO1).1, fin_sees (unhide HO1).2.1 (unhide HO1).2.2 h5 .., (unhide HO1).2.2⟩
end Go.Proofs.Ytigmofbammofbab
