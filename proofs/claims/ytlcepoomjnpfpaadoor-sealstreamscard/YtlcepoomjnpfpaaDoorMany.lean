/- Squares of bits: oneByte, manyBytes. -/
import Derived.Test.YtlcepoomjnpfpaaDoorThen
namespace Go.Proofs.YtlcepoomjnpfpaaDoor
open Go.RowKit

/-- the second of two new blocks, behind a store into the first -/
theorem Blk.new2 (w : World) (o : Obj) (c d : Array Value) (t : TypeId) (b : Nat) (hb : b = w.heap.size) : Blk (((w.alloc o).alloc (.cells c t)).setRow b d) (w.heap.size + 1) c t := by
  have h1 : Blk ((w.alloc o).alloc (.cells c t)) (w.heap.size + 1) c t := by simpa using Blk.new (w.alloc o) c t
  exact h1.kept ((Kept.refl [b] _).row (Or.inl (by simp)) _) (by simp; omega)

theorem mix0_row {w : World} {b m n : Nat} (h : Blk w b (sqc m) 60) : Row32 w b (mix m n 0) 32 := ⟨_, sqc_size m, h, fun j hj => by rw [sqc_at m j hj]; simp [mix]⟩
theorem mix32_row {w : World} {b m n : Nat} (h : Row32 w b (mix m n 32) 32) : Blk w b (sqc (m + n)) 60 := by
  obtain ⟨es, hse, hb, hc⟩ := h
  have hes : es = sqc (m + n) := by
    unfold sqc
    exact row_eq (f := fun i => Value.int .u32 ((stps (m + n) (2 ^ i) : Nat) : Int)) hse (fun j hj => by rw [hc j hj]; simp [mix, hj])
  rwa [hes] at hb

set_option maxRecDepth 100000 in
set_option maxHeartbeats 1000000 in
theorem oneByte_any (w : World) :
    Calls Tryd.prog 36 #[] w fun e w' => e = .returned (sqr 8) ∧ Kept [] w w' := by
  have hz := sqc_size 0
  have HI := hide (sqc_info 0)
  have HO := hide (sqc_one 0)
  go_enter Tryd.func36, Tryd.ntmps36
  go_wp2_with (first | (go_at_call 34; refine (still_any _).mono ?_; rintro e w1 ⟨rfl, hk1⟩; rw [sqr_eq]) | (guard_target =~ wpList _ _ _ _ _ _; refine wpList_store_arr _ _ 60 rfl rfl w1.heap.size _ (sqc 0) rfl rfl (Blk.new _ _ _) (unhide HI) (by rw [hz]; rfl) (unhide HO) rfl ?_))
  go_loopw [4] (fun i wr => ∃ k : Nat, k ≤ 32 ∧ i = .int .i64 k ∧ Row32 wr w1.heap.size (mix 0 8 k) 32 ∧ Row32 wr w.heap.size (mix 0 8 0) 0 ∧ Kept [] w wr) (fun i _ => 32 - (intOf i).toNat)
  case atStart =>
    have hle : w.heap.size + 1 ≤ w1.heap.size := by have := hk1.size; simpa using this
    refine ⟨0, by omega, rfl, mix0_row (Blk.new _ _ _).row, ?_, ?_⟩
    · exact (((Row32.new w _ (by rfl) _).kept hk1 (by simp)).alloc _).kept ((Kept.refl [w1.heap.size] _).row (Or.inl (by simp)) _) (by simp; omega)
    · exact ((((Kept.refl [] w).alloc _).trans hk1 (by simp)).alloc _).row (Or.inr (by omega)) _
  case round =>
    have hle : w.heap.size + 1 ≤ w1.heap.size := by have := hk1.size; simpa using this
    obtain ⟨k, hk, rfl, hr, hr0, hkk⟩ := hrel
    have HR := hide hr
    have HR0 := hide hr0
    have HK := hide hkk
    clear hkk hr0 hk1
    by_cases hlt : k < 32
    · have hv := hr.cell k hlt
      have hf := hr.frozen k
      have e1 : mix 0 8 k k = .int .u32 (stps 0 (2 ^ k) : Nat) := by simp [mix]
      rw [e1] at hv
      have h1 := stps_lt 0 (two_pow_lt hlt)
      have HE : Hid (stps (0 + 8) (2 ^ k) = stps 8 (stps 0 (2 ^ k))) := stps_add 0 8 _
      generalize stps 0 (2 ^ k) = x at hv h1 HE
      have hst : Hid (∀ wx, Calls Tryd.prog 29 #[.int .u32 x, .int .i64 8] wx fun e w' => e = .returned (.int .u32 (stps 8 x : Nat)) ∧ w' = wx) := fun wx => steps_any x 8 h1 (by omega) wx
      clear hr e1
      go_wp2_with (first | (go_at_call 29; refine (unhide hst _).mono ?_; rintro e w2 ⟨rfl, rfl⟩))
      go_roundw
      case rel =>
        have := (unhide HR).mixed (n := 8) hlt
        rw [unhide HE] at this
        exact ⟨k + 1, by omega, by simp, this, (unhide HR0).kept ((Kept.refl [w1.heap.size] _).setCell (Or.inl (by simp)) _) (by simp; omega), (unhide HK).setCell (Or.inr (by simp; omega)) _⟩
      case measure => simp [intOf]; omega
    · obtain rfl : k = 32 := by omega
      clear hr
      obtain ⟨c0, hs0, hb0, _⟩ := unhide HR0
      have HS := hide (⟨mix32_row (unhide HR), hb0⟩ : _ ∧ _)
      have hs8 := sqc_size 8
      have HI8 := hide (sqc_info 8)
      have HO8 := hide (sqc_one 8)
      clear HR HR0 hb0 HI HO hz
      go_wp2_with (first | (guard_target =~ wpList _ _ _ _ _ _; refine wpList_load_arr _ 60 rfl rfl w1.heap.size 32 36 (sqc 8) rfl (unhide HS).1 Tryd.underlying60 (unhide HI8) ?_) | (guard_target =~ wpList _ _ _ _ _ _; refine wpList_store_arr _ _ 60 rfl rfl w.heap.size c0 (sqc 8) rfl rfl (unhide HS).2 (unhide HI8) (by rw [hs8, hs0]) (unhide HO8) rfl ?_))
      exact ret_arr (b := w.heap.size) (cs := sqc 8) rfl rfl (unhide HS).2.row Tryd.underlying60 (unhide HI8) rfl ⟨rfl, (unhide HK).row (Or.inr (Nat.le_refl _)) _⟩

theorem then_agg (m n : Nat) (w : World) :
    Calls Tryd.prog 37 #[.agg (sqc m), .agg (sqc n)] w fun e w' => e = .returned (.agg (sqc (m + n))) ∧ Kept [] w w' := then_any m n w

/-- how far the halving has come -/
def Half (n a p c : Nat) : Prop := a + p * c = n
theorem Half.odd {n a p c : Nat} (h : Half n a p c) (hc : c % 2 = 1) : Half n (a + p) (p + p) (c / 2) := by
  unfold Half at *
  obtain ⟨d, rfl⟩ : ∃ d, c = 2 * d + 1 := ⟨c / 2, by omega⟩
  rw [show (2 * d + 1) / 2 = d by omega, ← h, Nat.mul_add, Nat.add_mul, Nat.mul_one, show 2 * d = d + d by omega, Nat.mul_add]
  omega
theorem Half.even {n a p c : Nat} (h : Half n a p c) (hc : ¬ c % 2 = 1) : Half n a (p + p) (c / 2) := by
  unfold Half at *
  obtain ⟨d, rfl⟩ : ∃ d, c = 2 * d := ⟨c / 2, by omega⟩
  rw [show (2 * d) / 2 = d by omega, ← h, Nat.add_mul, show 2 * d = d + d by omega, Nat.mul_add]

set_option maxRecDepth 100000 in
set_option maxHeartbeats 1000000 in
theorem many_any (n : Int) (hn : n ≤ 9223372036854775807) (hn0 : -9223372036854775808 ≤ n) (w : World) :
    Calls Tryd.prog 33 #[.int .i64 n] w fun e w' => e = .returned (sqr (8 * n.toNat)) ∧ Kept [] w w' := by
  have hz := sqc_size
  have HI := hide sqc_info
  have HO := hide sqc_one
  have HZ := hide hz
  clear hz
  go_enter Tryd.func33, Tryd.ntmps33
  go_wp2_with (first | (go_at_call 34; refine (still_any _).mono ?_; rintro e w1 ⟨rfl, hk1⟩; rw [sqr_eq]) | (go_at_call 36; refine (oneByte_any _).mono ?_; rintro e w2 ⟨rfl, hk2⟩; rw [sqr_eq]) | (guard_target =~ wpList _ _ _ _ _ _; refine wpList_store_arr _ _ 60 rfl rfl w2.heap.size _ (sqc 0) rfl rfl ((Blk.new _ _ _).alloc _) (unhide HI 0) (by rw [unhide HZ]; rfl) (unhide HO 0) rfl ?_) | (guard_target =~ wpList _ _ _ _ _ _; refine wpList_store_arr _ _ 60 rfl rfl (w2.heap.size + 1) _ (sqc 8) rfl rfl (Blk.new2 _ _ _ _ _ _ rfl) (unhide HI 8) (by rw [unhide HZ]; rfl) (unhide HO 8) rfl ?_))
  have hle : w.heap.size + 1 ≤ w2.heap.size := by
    have h1 := hk1.size; have h2 := hk2.size; simp at h1; omega
  go_loopw [0] (fun i wr => ∃ (c a p : Nat) (i0 : Int), i = .int .i64 i0 ∧ i0 ≤ 9223372036854775807 ∧ -9223372036854775808 ≤ i0 ∧ i0.toNat = c ∧ Half n.toNat a p c ∧ Blk wr w2.heap.size (sqc (8 * a)) 60 ∧ Blk wr (w2.heap.size + 1) (sqc (8 * p)) 60 ∧ Row32 wr w.heap.size (mix 0 8 0) 0 ∧ Kept [] w wr) (fun i _ => (intOf i).toNat)
  case atStart =>
    refine ⟨n.toNat, 0, 1, n, rfl, hn, hn0, rfl, by simp [Half], ?_, ?_, ?_, ?_⟩
    · exact (Blk.row ((Blk.new w2 _ 60).alloc _)).kept ((Kept.refl [w2.heap.size + 1] _).row (Or.inl (by simp)) _) (by simp)
    · exact Blk.row (Blk.new2 _ _ _ _ _ _ rfl)
    · exact ((((((Row32.new w _ (by rfl) _).kept hk1 (by simp)).kept hk2 (by simp)).alloc _).alloc _).kept ((Kept.refl [w2.heap.size] _).row (Or.inl (by simp)) _) (by simp; omega)).kept ((Kept.refl [w2.heap.size + 1] _).row (Or.inl (by simp)) _) (by simp; omega)
    · exact (((((((Kept.refl [] w).alloc _).trans hk1 (by simp)).trans hk2 (by simp)).alloc _).alloc _).row (Or.inr (by omega)) _).row (Or.inr (by omega)) _
  case round =>
    obtain ⟨c, a, p, i0, rfl, hi1, hi2, hc, hh, hb3, hb4, hr0, hkk⟩ := hrel
    have HB := hide (⟨hb3, hb4⟩ : _ ∧ _)
    have HR0 := hide hr0
    have HK := hide hkk
    have HH := hide hh
    clear hkk hr0 hb3 hb4 hk1 hk2 hh
    have hlw : Hid (w2.heap.size + 1 < wr.heap.size) := (unhide HB).2.lt
    by_cases hpos : 0 < i0
    · obtain rfl : i0 = (c : Int) := by omega
      clear hc
      by_cases hodd : c % 2 = 1
      · have t2 : ((c : Int) % 2 == 1) = true := by rw [beq_iff_eq]; omega
        have t3 : (0 : Int) < (c : Int) := hpos
        go_wp2_with (first | (guard_target =~ wpList _ _ _ _ _ _; refine wpList_load_arr _ 60 rfl rfl w2.heap.size 32 36 (sqc (8 * a)) rfl (unhide HB).1 Tryd.underlying60 (unhide HI _) ?_) | (guard_target =~ wpList _ _ _ _ _ _; refine wpList_load_arr _ 60 rfl rfl (w2.heap.size + 1) 32 36 (sqc (8 * p)) rfl (unhide HB).2 Tryd.underlying60 (unhide HI _) ?_))
        refine (then_agg _ _ _).mono ?_
        rintro e w3 ⟨rfl, hk3⟩
        have HB3 : Hid (Blk w3 w2.heap.size (sqc (8 * a)) 60) := (unhide HB).1.kept hk3 (by simp)
        have HB4 : Hid (Blk (w3.setRow w2.heap.size (sqc (8 * a + 8 * p))) (w2.heap.size + 1) (sqc (8 * p)) 60) := ((unhide HB).2.kept hk3 (by simp)).kept ((Kept.refl [w2.heap.size] _).row (Or.inl (by simp)) _) (by simp)
        have HK3 := hide hk3
        clear hk3
        go_wp2_with (first | (guard_target =~ wpList _ _ _ _ _ _; refine wpList_store_arr _ _ 60 rfl rfl w2.heap.size (sqc (8 * a)) (sqc (8 * a + 8 * p)) rfl rfl (unhide HB3) (unhide HI _) (by rw [unhide HZ, unhide HZ]) (unhide HO _) rfl ?_) | (guard_target =~ wpList _ _ _ _ _ _; refine wpList_load_arr _ 60 rfl rfl (w2.heap.size + 1) 32 36 (sqc (8 * p)) rfl (unhide HB4) Tryd.underlying60 (unhide HI _) ?_))
        refine (then_agg _ _ _).mono ?_
        rintro e w4 ⟨rfl, hk4⟩
        have HB5 : Hid (Blk w4 (w2.heap.size + 1) (sqc (8 * p)) 60) := (unhide HB4).kept hk4 (by simp)
        have HK4 := hide hk4
        clear hk4
        go_wp2_with (first | (guard_target =~ wpList _ _ _ _ _ _; refine wpList_store_arr _ _ 60 rfl rfl (w2.heap.size + 1) (sqc (8 * p)) (sqc (8 * p + 8 * p)) rfl rfl (unhide HB5) (unhide HI _) (by rw [unhide HZ, unhide HZ]) (unhide HO _) rfl ?_))
        have e1 : 8 * a + 8 * p = 8 * (a + p) := by omega
        have e2 : 8 * p + 8 * p = 8 * (p + p) := by omega
        have k3 : Kept [w2.heap.size] w3 (w3.setRow w2.heap.size (sqc (8 * a + 8 * p))) := (Kept.refl _ _).row (Or.inl (by simp)) _
        have k5 : Kept [w2.heap.size + 1] w4 (w4.setRow (w2.heap.size + 1) (sqc (8 * p + 8 * p))) := (Kept.refl _ _).row (Or.inl (by simp)) _
        refine ⟨⟨c / 2, a + p, p + p, (c : Int) / 2, rfl, by omega, by omega, by omega, (unhide HH).odd hodd, ?_, ?_, ?_, ?_⟩, by simp [intOf]; omega⟩
        · rw [← e1]; exact ((Blk.row (unhide HB3)).kept (unhide HK4) (by simp)).kept k5 (by simp)
        · rw [← e2]; exact (unhide HB5).row
        · exact ((((unhide HR0).kept (unhide HK3) (by simp)).kept k3 (by simp; omega)).kept (unhide HK4) (by simp)).kept k5 (by simp; omega)
        · exact (((((unhide HK).trans (unhide HK3) (by simp)).row (Or.inr (by omega)) _).trans (unhide HK4) (by simp)).row (Or.inr (by omega)) _)
      · have t2 : ((c : Int) % 2 == 1) = false := by rw [beq_eq_false_iff_ne]; omega
        have t3 : (0 : Int) < (c : Int) := hpos
        go_wp2_with (first | (guard_target =~ wpList _ _ _ _ _ _; refine wpList_load_arr _ 60 rfl rfl w2.heap.size 32 36 (sqc (8 * a)) rfl (unhide HB).1 Tryd.underlying60 (unhide HI _) ?_) | (guard_target =~ wpList _ _ _ _ _ _; refine wpList_load_arr _ 60 rfl rfl (w2.heap.size + 1) 32 36 (sqc (8 * p)) rfl (unhide HB).2 Tryd.underlying60 (unhide HI _) ?_))
        refine (then_agg _ _ _).mono ?_
        rintro e w4 ⟨rfl, hk4⟩
        have HB5 : Hid (Blk w4 (w2.heap.size + 1) (sqc (8 * p)) 60) := (unhide HB).2.kept hk4 (by simp)
        have HK4 := hide hk4
        clear hk4
        go_wp2_with (first | (guard_target =~ wpList _ _ _ _ _ _; refine wpList_store_arr _ _ 60 rfl rfl (w2.heap.size + 1) (sqc (8 * p)) (sqc (8 * p + 8 * p)) rfl rfl (unhide HB5) (unhide HI _) (by rw [unhide HZ, unhide HZ]) (unhide HO _) rfl ?_))
        have e2 : 8 * p + 8 * p = 8 * (p + p) := by omega
        have k5 : Kept [w2.heap.size + 1] w4 (w4.setRow (w2.heap.size + 1) (sqc (8 * p + 8 * p))) := (Kept.refl _ _).row (Or.inl (by simp)) _
        refine ⟨⟨c / 2, a, p + p, (c : Int) / 2, rfl, by omega, by omega, by omega, (unhide HH).even hodd, ?_, ?_, ?_, ?_⟩, by simp [intOf]; omega⟩
        · exact ((unhide HB).1.kept (unhide HK4) (by simp)).kept k5 (by simp)
        · rw [← e2]; exact (unhide HB5).row
        · exact ((unhide HR0).kept (unhide HK4) (by simp)).kept k5 (by simp; omega)
        · exact ((unhide HK).trans (unhide HK4) (by simp)).row (Or.inr (by omega)) _
    · have h0 : c = 0 := by omega
      have ha : 8 * a = 8 * n.toNat := by have := unhide HH; unfold Half at this; rw [h0] at this; omega
      obtain ⟨c0, hs0, hb0, _⟩ := unhide HR0
      have HB0 := hide hb0
      have HZ2 := hide (hs0.trans (unhide HZ (8 * a)).symm)
      clear hb0 hs0
      have HA := hide ha
      clear ha h0 hc
      go_wp2_with (first | (guard_target =~ wpList _ _ _ _ _ _; refine wpList_load_arr _ 60 rfl rfl w2.heap.size 32 36 (sqc (8 * a)) rfl (unhide HB).1 Tryd.underlying60 (unhide HI _) ?_) | (guard_target =~ wpList _ _ _ _ _ _; refine wpList_store_arr _ _ 60 rfl rfl w.heap.size c0 (sqc (8 * a)) rfl rfl (unhide HB0) (unhide HI _) (unhide HZ2) (unhide HO _) rfl ?_))
      refine ret_arr (b := w.heap.size) (cs := sqc (8 * a)) rfl rfl (unhide HB0).row Tryd.underlying60 (unhide HI _) rfl ⟨?_, (unhide HK).row (Or.inr (Nat.le_refl _)) _⟩
      rw [unhide HA, sqr_eq]
end Go.Proofs.YtlcepoomjnpfpaaDoor
