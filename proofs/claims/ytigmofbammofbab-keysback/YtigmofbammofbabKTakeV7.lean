/- The value at the beginning: kind 7. -/
import Derived.Test.YtigmofbammofbabKTakeU
import Derived.Laws.ResultCell
namespace Go.Proofs.Ytigmofbammofbab
open Go.RowKit

set_option maxRecDepth 100000 in
set_option maxHeartbeats 2000000 in
theorem takeValue_7 {w : World} {v : Value} {t : List Nat} {d : Nat} {rec : Except Nat (Row × List Nat)} (hs : Sees w v (7 :: t)) (hd : d ≤ 16) (hC : ∀ (w : World) (v : Value), Sees w v t → d ≠ 16 → Calls Try.prog 30 #[v, .int .i64 ((d + 1 : Nat) : Int)] w fun e w' => OutR v.ownBlock rec w.heap.size w' e ∧ Kept [] w w') (hE : ∀ n, rec = .error n → n = 40 ∨ n = 41) :
    Calls Try.prog 36 #[v, .int .i64 (d : Int)] w fun e w' => OutV v.ownBlock (takeV rec 7 t d) w.heap.size w' e ∧ Kept [] w w' := by
  have hsf := fun (w : World) (a : Addr) (m : Nat) (md : Mode) => run_store Try.prog w a (.float .f64 m) md rfl
  have hsc := fun (w : World) (a : Addr) (m n : Nat) (md : Mode) => run_store Try.prog w a (.complex .f64 m n) md rfl
  have HS := hide hs
  obtain ⟨a, cap, rfl, h1, h2, h3, h4⟩ := hs
  rcases h4 with h4 | ⟨b, off, rfl, h5, h6⟩
  · simp at h4
  have hc : w.cell? ⟨b, off, none⟩ = some (.int .u8 7) := by
    have := h6 0 (by simp)
    simpa using this
  clear h6 h3
  unfold maxLen at h2
  simp only [List.length_cons] at *
  generalize hL : t.length = L at *
  have HL := hide hL
  clear hL
  have hk0 : Kept [] w ((w.alloc (.cells #[.int .i64 0, .bool false, .int .i64 0, .float .f64 0, .complex .f64 0 0, .slice none 0 0, .slice none 0 0] 48)).alloc (.cells #[.int .i64 7, .bool false, .int .i64 0, .float .f64 0, .complex .f64 0 0, .slice none 0 0, .slice none 0 0] 48)) := ((Kept.refl [] w).alloc _).alloc _
  have HS0 := hide ((unhide HS).kept hk0 (Or.inr (by simp)))
  have HB0 := hide ((Blk.new w #[.int .i64 0, .bool false, .int .i64 0, .float .f64 0, .complex .f64 0 0, .slice none 0 0, .slice none 0 0] 48).alloc (.cells #[.int .i64 7, .bool false, .int .i64 0, .float .f64 0, .complex .f64 0 0, .slice none 0 0, .slice none 0 0] 48))
  have HB1 := hide (Blk.new (w.alloc (.cells #[.int .i64 0, .bool false, .int .i64 0, .float .f64 0, .complex .f64 0 0, .slice none 0 0, .slice none 0 0] 48)) #[.int .i64 7, .bool false, .int .i64 0, .float .f64 0, .complex .f64 0 0, .slice none 0 0, .slice none 0 0] 48)
  simp only [World.size_alloc] at HB1
  have HK0 := hide hk0
  clear hk0
  by_cases hcap : cap = 1
  · subst hcap
    obtain rfl : L = 0 := by omega
    clear h1
    have HT0 := hide ((unhide HS0).drop' 1 0 rfl (some ⟨b, off, none⟩) 0 (by simp) rfl)
    rw [List.drop_one, List.tail_cons] at HT0
    have e9 : takeV rec 7 t d = liftU (takeU rec d) := rfl
    rw [e9]
    have HTB := hide (takeTuple_any (rec := rec) (d := d) (unhide HT0) hd (hC _ _ (unhide HT0)) hE)
    clear hC hE
    cases ht : takeU rec d with
    | error n =>
      rw [ht] at HTB
      go_enter Try.func36, Try.ntmps36
      go_wp2_with (first | (go_at_call 49; refine (unhide HTB).mono ?_; rintro e w1 ⟨rfl, hk1⟩; have HB0' := hide ((unhide HB0).kept hk1 (by simp)); have HB1' := hide ((unhide HB1).kept hk1 (by simp)); obtain ⟨c00, c01, c02, c03, c04, c05, c06⟩ := blk7 (unhide HB0'); obtain ⟨c10, c11, c12, c13, c14, c15, c16⟩ := blk7 (unhide HB1'); have f0 := blk7f (unhide HB0'); have f1 := blk7f (unhide HB1'); have HK1 := hide ((unhide HK0).trans hk1 (by simp)); clear hk1))
      show bodyPost Try.prog _ _ _ _ (Fin w1 w.heap.size 6 (.slice none 0 0) (.int .i64 7) (.bool false) (.int .i64 0) (.float .f64 0) (.complex .f64 0 0) (.slice none 0 0) (.slice none 0 0))
      refine bodyPost_ret (results_value rfl rfl rfl (fin_blk (unhide HB0'))) rfl ⟨?_, fin_all (unhide HK1) ..⟩
      exact ⟨hd0 7, none, 0, 0, rfl⟩
    | ok mr =>
      obtain ⟨r, rest⟩ := mr
      rw [ht] at HTB
      go_enter Try.func36, Try.ntmps36
      go_wp2_with (first | (go_at_call 49; refine (unhide HTB).mono ?_; rintro e w1 ⟨⟨va, vn, vc, ra, m, rc, rfl, hvn, hvr, hl1, hs1, hb1⟩, hk1⟩; have HO1 := hide (⟨hvn, hvr, hl1, hs1, hb1⟩ : _ ∧ _ ∧ _ ∧ _ ∧ _); clear hvn hvr hl1 hs1 hb1; have HB0' := hide ((unhide HB0).kept hk1 (by simp)); have HB1' := hide ((unhide HB1).kept hk1 (by simp)); obtain ⟨c00, c01, c02, c03, c04, c05, c06⟩ := blk7 (unhide HB0'); obtain ⟨c10, c11, c12, c13, c14, c15, c16⟩ := blk7 (unhide HB1'); have f0 := blk7f (unhide HB0'); have f1 := blk7f (unhide HB1'); have HK1 := hide ((unhide HK0).trans hk1 (by simp)); clear hk1))
      show bodyPost Try.prog _ _ _ _ (Fin w1 w.heap.size 6 (.slice va vn vc) (.int .i64 7) (.bool false) (.int .i64 0) (.float .f64 0) (.complex .f64 0 0) (.slice none 0 0) (.slice va vn vc))
      refine bodyPost_ret (results_value rfl rfl rfl (fin_blk (unhide HB0'))) rfl ⟨?_, fin_all (unhide HK1) ..⟩
      exact ⟨none, 0, 0, va, vn, vc, ra, m, rc, rfl, hd0_ok 7 (by omega) (by omega), SeesIn.none _ _, (unhide HO1).1, fin_row (by have := (unhide HO1).2.1; simpa using this) .., (unhide HO1).2.2.1, fin_sees (unhide HO1).2.2.2.1 (unhide HO1).2.2.2.2 h5 .., (unhide HO1).2.2.2.2⟩
  · have hc1 : (cap = 1) = False := by simp [hcap]
    have HT0 := hide ((unhide HS0).drop' 1 L rfl (some ⟨b, off + 1, none⟩) (cap - 1) (by rw [if_neg hcap]) rfl)
    rw [List.drop_one, List.tail_cons] at HT0
    have e9 : takeV rec 7 t d = liftU (takeU rec d) := rfl
    rw [e9]
    have HTB := hide (takeTuple_any (rec := rec) (d := d) (unhide HT0) hd (hC _ _ (unhide HT0)) hE)
    clear hC hE
    cases ht : takeU rec d with
    | error n =>
      rw [ht] at HTB
      go_enter Try.func36, Try.ntmps36
      go_wp2_with (first | (go_at_call 49; refine (unhide HTB).mono ?_; rintro e w1 ⟨rfl, hk1⟩; have HB0' := hide ((unhide HB0).kept hk1 (by simp)); have HB1' := hide ((unhide HB1).kept hk1 (by simp)); obtain ⟨c00, c01, c02, c03, c04, c05, c06⟩ := blk7 (unhide HB0'); obtain ⟨c10, c11, c12, c13, c14, c15, c16⟩ := blk7 (unhide HB1'); have f0 := blk7f (unhide HB0'); have f1 := blk7f (unhide HB1'); have HK1 := hide ((unhide HK0).trans hk1 (by simp)); clear hk1))
      show bodyPost Try.prog _ _ _ _ (Fin w1 w.heap.size 6 (.slice none 0 0) (.int .i64 7) (.bool false) (.int .i64 0) (.float .f64 0) (.complex .f64 0 0) (.slice none 0 0) (.slice none 0 0))
      refine bodyPost_ret (results_value rfl rfl rfl (fin_blk (unhide HB0'))) rfl ⟨?_, fin_all (unhide HK1) ..⟩
      exact ⟨hd0 7, none, 0, 0, rfl⟩
    | ok mr =>
      obtain ⟨r, rest⟩ := mr
      rw [ht] at HTB
      go_enter Try.func36, Try.ntmps36
      go_wp2_with (first | (go_at_call 49; refine (unhide HTB).mono ?_; rintro e w1 ⟨⟨va, vn, vc, ra, m, rc, rfl, hvn, hvr, hl1, hs1, hb1⟩, hk1⟩; have HO1 := hide (⟨hvn, hvr, hl1, hs1, hb1⟩ : _ ∧ _ ∧ _ ∧ _ ∧ _); clear hvn hvr hl1 hs1 hb1; have HB0' := hide ((unhide HB0).kept hk1 (by simp)); have HB1' := hide ((unhide HB1).kept hk1 (by simp)); obtain ⟨c00, c01, c02, c03, c04, c05, c06⟩ := blk7 (unhide HB0'); obtain ⟨c10, c11, c12, c13, c14, c15, c16⟩ := blk7 (unhide HB1'); have f0 := blk7f (unhide HB0'); have f1 := blk7f (unhide HB1'); have HK1 := hide ((unhide HK0).trans hk1 (by simp)); clear hk1))
      show bodyPost Try.prog _ _ _ _ (Fin w1 w.heap.size 6 (.slice va vn vc) (.int .i64 7) (.bool false) (.int .i64 0) (.float .f64 0) (.complex .f64 0 0) (.slice none 0 0) (.slice va vn vc))
      refine bodyPost_ret (results_value rfl rfl rfl (fin_blk (unhide HB0'))) rfl ⟨?_, fin_all (unhide HK1) ..⟩
      exact ⟨none, 0, 0, va, vn, vc, ra, m, rc, rfl, hd0_ok 7 (by omega) (by omega), SeesIn.none _ _, (unhide HO1).1, fin_row (by have := (unhide HO1).2.1; simpa using this) .., (unhide HO1).2.2.1, fin_sees (unhide HO1).2.2.2.1 (unhide HO1).2.2.2.2 h5 .., (unhide HO1).2.2.2.2⟩
end Go.Proofs.Ytigmofbammofbab
