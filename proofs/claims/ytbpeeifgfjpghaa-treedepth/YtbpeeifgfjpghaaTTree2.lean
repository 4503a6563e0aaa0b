/- The calls that make trees. -/
import Derived.Test.YtbpeeifgfjpghaaTTree
namespace Go.Proofs.Ytbpeeifgfjpghaa
open Go.RowKit

set_option maxRecDepth 100000 in
set_option maxHeartbeats 1000000 in
theorem Put_any {w : World} {q : Option Addr} {t : TI} (k x : Int) (h : Tt w q t) (hz : t.size < 4611686018427384000) :
    Calls Try.prog 45 #[.pointer q, .int .i64 k, .int .i64 x] w fun e w' => ∃ q, e = .returned (.pointer q) ∧ Tt w' q (t.put k x) ∧ Kept [] w w' := by
  obtain ⟨p, hp, hr⟩ := root_any h
  have HR := hide hr
  have HC : Hid (∀ W b, Kept [] w W → Blk W b #[.int .i64 k, .int .i64 x, .pointer none, .pointer none, .int .i64 0, .int .i64 0] 105 → Made 88 #[.pointer p, .pointer (some ⟨b, 0, none⟩)] W (t.put k x)) := fun W b hk hb => put_at (hp.kept hk) ⟨b, _, _, _, _, rfl, hb⟩ hz
  clear hr hp h hz
  generalize t.put k x = t2 at *
  go_enter Try.func45, Try.ntmps45
  have HC' := hide (unhide HC _ w.heap.size ((Kept.refl [] w).alloc _) (Blk.new w _ _))
  clear HC
  go_wp2_with (first
    | (go_at_call 49; refine (unhide HR _ (Kept.refl _ _)).mono ?_; rintro e w3 ⟨rfl, hq⟩; have hq' := hq.symm; subst hq')
    | (go_at_call 88; refine (unhide HC' _ (Kept.refl _ _)).mono ?_; rintro e w3 ⟨p3, rfl, hn3, hk3⟩; have HN := hide (Tt.new hn3); have HK := hide ((((Kept.refl [] w).alloc _).trans hk3 (by simp)).alloc (.cells #[.pointer p3] 102)); clear hn3 hk3))
  go_ret
  exact ⟨_, rfl, unhide HN, unhide HK⟩
set_option maxRecDepth 100000 in
set_option maxHeartbeats 1000000 in
theorem Delete_any {w : World} {q : Option Addr} {t : TI} (k : Int) (h : Tt w q t) (hz : t.size < 4611686018427384000) :
    Calls Try.prog 26 #[.pointer q, .int .i64 k] w fun e w' => ∃ q, e = .returned (.tuple #[.pointer q, .bool (t.without k).2]) ∧ Tt w' q (t.without k).1 ∧ Kept [] w w' := by
  obtain ⟨p, hp, hr⟩ := root_any h
  have HR := hide (hr w (Kept.refl _ _))
  have HC := hide (without_any t w p k hp hz)
  clear hr hp h hz
  generalize (t.without k).1 = t2 at *
  generalize (t.without k).2 = f2 at *
  go_enter Try.func26, Try.ntmps26
  go_wp2_with (first
    | (go_at_call 49; refine (unhide HR).mono ?_; rintro e w3 ⟨rfl, hq⟩; have hq' := hq.symm; subst hq')
    | (go_at_call 55; refine (unhide HC).mono ?_; rintro e w3 ⟨p3, rfl, hn3, hk3⟩; have HN := hide (Tt.new hn3); have HK := hide (hk3.alloc (.cells #[.pointer p3] 102)); clear hn3 hk3))
  go_ret2
  exact ⟨_, rfl, unhide HN, unhide HK⟩
set_option maxRecDepth 100000 in
set_option maxHeartbeats 1000000 in
theorem Split_any {w : World} {q : Option Addr} {t : TI} (k : Int) (h : Tt w q t) (hz : t.size < 4611686018427384000) :
    Calls Try.prog 22 #[.pointer q, .int .i64 k] w fun e w' => ∃ q1 q2, e = .returned (.tuple #[.pointer q1, .pointer q2]) ∧ Tt w' q1 (t.split k).1 ∧ Tt w' q2 (t.split k).2 ∧ Kept [] w w' := by
  obtain ⟨p, hp, hr⟩ := root_any h
  have HR := hide (hr w (Kept.refl _ _))
  have HC := hide (split_any t w p k hp hz)
  clear hr hp h hz
  generalize (t.split k).1 = t2 at *
  generalize (t.split k).2 = t3 at *
  go_enter Try.func22, Try.ntmps22
  go_wp2_with (first
    | (go_at_call 49; refine (unhide HR).mono ?_; rintro e w3 ⟨rfl, hq⟩; have hq' := hq.symm; subst hq')
    | (go_at_call 50; refine (unhide HC).mono ?_; rintro e w3 ⟨p3, p4, rfl, hn3, hn4, hk3⟩; have HN3 := hide hn3; have HN4 := hide hn4; have HK := hide hk3; clear hn3 hn4 hk3))
  have hN2 := Tt.new (w := w3.alloc (.cells #[.pointer p3] 102)) ((unhide HN4).kept ((Kept.refl [] w3).alloc _))
  rw [World.size_alloc] at hN2
  have HN2 := hide hN2
  clear hN2
  go_ret2
  exact ⟨_, _, rfl, (Tt.new (unhide HN3)).kept ((Kept.refl [] _).alloc _), unhide HN2, ((unhide HK).alloc _).alloc _⟩
/-- the last key of a is below the first one of b, or one is empty -/
def Apts (a b : TI) : Prop := ∀ x y, a.at' ((a.size : Int) - 1) = some x → b.at' 0 = some y → x.1 < y.1
set_option maxRecDepth 100000 in
set_option maxHeartbeats 1000000 in
theorem Join_any {w : World} {qa qb : Option Addr} {a b : TI} (ha : Tt w qa a) (hb : Tt w qb b) (hz : a.size + b.size < 4611686018427384000) :
    Calls Try.prog 23 #[.pointer qa, .pointer qb] w fun e w' => Kept [] w w' ∧ ((∃ q, e = .returned (.tuple #[.pointer q, .int .i64 0]) ∧ Tt w' q (Tr.meet a b) ∧ Apts a b) ∨
      (e = .returned (.tuple #[.pointer none, .int .i64 2]) ∧ ¬ Apts a b)) := by
  obtain ⟨pa, hpa, hra⟩ := root_any ha
  obtain ⟨pb, hpb, hrb⟩ := root_any hb
  have HA := hide hra
  have HB := hide hrb
  have HL := hide (Len_any ha)
  have HAT := hide (at_any ((a.size : Int) - 1) hpa (by omega) (by omega))
  have HBT := hide (at_any 0 hpb (by omega) (by omega))
  have HM := hide (meet_at hpa hpb hz)
  clear hra hrb hpa hpb ha hb
  generalize Tr.meet a b = t2 at *
  generalize hsa : a.size = sa at *
  have HSA := hide hsa
  clear hsa
  have HA2 := HA
  have HB2 := HB
  go_enter Try.func23, Try.ntmps23
  go_wp2_with (first
    | (go_at_call 49; refine (unhide HA _ (Kept.refl _ _)).mono ?_; rintro e w3 ⟨rfl, hq⟩; have hq' := hq.symm; subst hq'; clear HA)
    | (go_at_call 25; refine (unhide HL).mono ?_; rintro e w3 ⟨rfl, hq⟩; have hq' := hq.symm; subst hq'; clear HL)
    | fail)
  refine (unhide HAT).mono ?_
  rintro e w3 ⟨⟨p3, rfl, hf3⟩, hq⟩
  have hq' := hq.symm
  subst hq'
  have HF3 := hide hf3
  clear hf3 hq HAT
  go_wp2_with (first
    | (go_at_call 49; refine (unhide HB _ (Kept.refl _ _)).mono ?_; rintro e w3 ⟨rfl, hq⟩; have hq' := hq.symm; subst hq'; clear HB)
    | fail)
  refine (unhide HBT).mono ?_
  rintro e w4 ⟨⟨p4, rfl, hf4⟩, hq⟩
  have hq' := hq.symm
  subst hq'
  clear hq HBT
  rcases unhide HF3 with ⟨hf3, rfl⟩ | ⟨k3, x3, hf3, b3, u1, u2, u3, u4, rfl, hb3⟩
  · have HX : Hid (Apts a b) := by intro x y h1 h2; rw [unhide HSA] at h1; rw [hf3] at h1; cases h1
    clear HF3 hf3 hf4
    go_wp2_with fail
    go_region
    all_goals go_wp2_with (first
      | (go_at_call 49; refine (unhide HA2 _ (by first | exact Kept.refl _ _ | exact (Kept.refl _ _).drew)).mono ?_; rintro e w5 ⟨rfl, hq⟩; have hq' := hq.symm; subst hq'; clear HA2)
      | (go_at_call 49; refine (unhide HB2 _ (by first | exact Kept.refl _ _ | exact (Kept.refl _ _).drew)).mono ?_; rintro e w5 ⟨rfl, hq⟩; have hq' := hq.symm; subst hq'; clear HB2)
      | (go_at_call 53; refine (unhide HM _ (by first | exact Kept.refl _ _ | exact (Kept.refl _ _).drew)).mono ?_; rintro e w5 ⟨p5, rfl, hn5, hk5⟩; have HN := hide (Tt.new hn5); have HK := hide (hk5.alloc (.cells #[.pointer p5] 102)); clear hn5 hk5))
    go_ret2
    exact ⟨unhide HK, Or.inl ⟨_, rfl, unhide HN, unhide HX⟩⟩
  rcases hf4 with ⟨hf4, rfl⟩ | ⟨k4, x4, hf4, b4, v1, v2, v3, v4, rfl, hb4⟩
  · have HX : Hid (Apts a b) := by intro x y h1 h2; rw [unhide HSA] at h1; rw [hf4] at h2; cases h2
    clear HF3 hf3 hf4 hb3
    go_wp2_with fail
    go_region
    all_goals go_wp2_with (first
      | (go_at_call 49; refine (unhide HA2 _ (by first | exact Kept.refl _ _ | exact (Kept.refl _ _).drew)).mono ?_; rintro e w5 ⟨rfl, hq⟩; have hq' := hq.symm; subst hq'; clear HA2)
      | (go_at_call 49; refine (unhide HB2 _ (by first | exact Kept.refl _ _ | exact (Kept.refl _ _).drew)).mono ?_; rintro e w5 ⟨rfl, hq⟩; have hq' := hq.symm; subst hq'; clear HB2)
      | (go_at_call 53; refine (unhide HM _ (by first | exact Kept.refl _ _ | exact (Kept.refl _ _).drew)).mono ?_; rintro e w5 ⟨p5, rfl, hn5, hk5⟩; have HN := hide (Tt.new hn5); have HK := hide (hk5.alloc (.cells #[.pointer p5] 102)); clear hn5 hk5))
    go_ret2
    exact ⟨unhide HK, Or.inl ⟨_, rfl, unhide HN, unhide HX⟩⟩
  obtain ⟨c0, -, -, -, -, -⟩ := six hb3
  obtain ⟨d0, -, -, -, -, -⟩ := six hb4
  have HC := hide (fun W => less_any (w := W) k3 k4)
  clear hb3 hb4 HF3
  by_cases hlt : k3 < k4
  · have HX : Hid (Apts a b) := by
      intro x y h1 h2; rw [unhide HSA] at h1; rw [hf3] at h1; rw [hf4] at h2; cases h1; cases h2; exact hlt
    rw [show decide (k3 < k4) = true by simp [hlt]] at HC
    clear hf3 hf4
    go_wp2_with fail
    go_region_held3 (fun w' => w'.cell? ⟨b3, 0, none⟩ = some (.int .i64 k3) ∧ w'.cell? ⟨b4, 0, none⟩ = some (.int .i64 k4)) (go_keep) (first
      | (go_at_call 52; refine (unhide HC _).mono ?_; rintro e w3 ⟨rfl, hq⟩; have hq' := hq.symm; subst hq'))
    all_goals
      go_wp2_with (first
        | (go_at_call 49; refine (unhide HA2 _ (by first | exact Kept.refl _ _ | exact (Kept.refl _ _).drew)).mono ?_; rintro e w5 ⟨rfl, hq⟩; have hq' := hq.symm; subst hq'; clear HA2)
        | (go_at_call 49; refine (unhide HB2 _ (by first | exact Kept.refl _ _ | exact (Kept.refl _ _).drew)).mono ?_; rintro e w5 ⟨rfl, hq⟩; have hq' := hq.symm; subst hq'; clear HB2)
        | (go_at_call 53; refine (unhide HM _ (by first | exact Kept.refl _ _ | exact (Kept.refl _ _).drew)).mono ?_; rintro e w5 ⟨p5, rfl, hn5, hk5⟩; have HN := hide (Tt.new hn5); have HK := hide (hk5.alloc (.cells #[.pointer p5] 102)); clear hn5 hk5))
      go_ret2
      exact ⟨unhide HK, Or.inl ⟨_, rfl, unhide HN, unhide HX⟩⟩
  · have HX : Hid (¬ Apts a b) := by
      intro h; have := h (k3, x3) (k4, x4) (by rw [unhide HSA]; exact hf3) hf4; exact hlt this
    rw [show decide (k3 < k4) = false by simp [hlt]] at HC
    clear hf3 hf4
    go_wp2_with fail
    go_region_held3 (fun w' => w'.cell? ⟨b3, 0, none⟩ = some (.int .i64 k3) ∧ w'.cell? ⟨b4, 0, none⟩ = some (.int .i64 k4)) (go_keep) (first
      | (go_at_call 52; refine (unhide HC _).mono ?_; rintro e w3 ⟨rfl, hq⟩; have hq' := hq.symm; subst hq'))
    all_goals go_wp2
    all_goals
      go_ret2
      exact ⟨(Kept.refl _ _).drew, Or.inr ⟨rfl, unhide HX⟩⟩
end Go.Proofs.Ytbpeeifgfjpghaa
