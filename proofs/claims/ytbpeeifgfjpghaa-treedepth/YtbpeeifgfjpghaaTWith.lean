/- An entry taken out of a tree. -/
import Derived.Test.YtbpeeifgfjpghaaTCut
namespace Go.Proofs.Ytbpeeifgfjpghaa
open Go.RowKit

set_option maxRecDepth 100000 in
set_option maxHeartbeats 4000000 in
theorem without_any (t : TI) : ∀ (w : World) (p : Option Addr) (k : Int), Nd w p t → t.size < 4611686018427384000 →
    Calls Try.prog 55 #[.pointer p, .int .i64 k] w fun e w' => ∃ p, e = .returned (.tuple #[.pointer p, .bool (t.without k).2]) ∧ Nd w' p (t.without k).1 ∧ Kept [] w w' := by
  induction t with
  | nil =>
    intro w p k hp hz
    have hp : p = none := hp
    subst hp
    clear hz
    go_enter Try.func55, Try.ntmps55
    go_wp2
    go_ret2
    exact ⟨_, rfl, Nd.of_nil, Kept.refl _ _⟩
  | node l k' x' r ihl ihr =>
    intro w p k hp hz
    have HP := hide hp
    obtain ⟨g, pa, pb, rfl, hb, hl, hr⟩ := hp
    obtain ⟨c0, -, c2, c3, -, -⟩ := six hb
    simp only [Tr.size] at hz
    have HML : Hid (∀ W, Kept [] w W → Mid W (some ⟨g, 0, none⟩) k' x') := fun W hk => ⟨g, _, _, _, _, rfl, hb.kept hk (by simp)⟩
    have HB := hide hb
    clear hb
    by_cases h1 : k < k'
    · have HC := hide (fun W => cmp_lt (w := W) h1)
      have HS := hide (side_low rfl (unhide HB))
      have HO : Hid (∀ W, Kept [] w W → Calls Try.prog 55 #[.pointer pa, .int .i64 k] W fun e w' => ∃ p, e = .returned (.tuple #[.pointer p, .bool (l.without k).2]) ∧ Nd w' p (l.without k).1 ∧ Kept [] W w') := fun W hk => ihl W pa k (hl.kept hk) (by omega)
      have s1 := l.without_size k
      have HR : Hid (∀ w3 p3, Nd w3 p3 (l.without k).1 → Kept [] w w3 → Made 91 #[.pointer p3, .pointer (some ⟨g, 0, none⟩), .pointer pb] w3 (Tr.join (l.without k).1 k' x' r)) :=
        fun w3 p3 hn hk => join_at hn (unhide HML _ hk) (hr.kept hk) (by omega)
      clear hl hr ihl ihr HML HB
      by_cases hw : (l.without k).2 = true
      · have hR : (Tr.node l k' x' r).without k = (Tr.join (l.without k).1 k' x' r, true) := by simp only [Tr.without, klt_int, h1, decide_true, if_true, hw]
        rw [hR]
        rw [hw] at HO
        clear hR HP
        generalize Tr.join (l.without k).1 k' x' r = t3 at *
        generalize (l.without k).1 = t2 at *
        go_enter Try.func55, Try.ntmps55
        go_wp2_with (first
          | (go_at_call 85; refine (unhide HC _).mono ?_; rintro e w3 ⟨rfl, hq⟩; have hq' := hq.symm; subst hq')
          | (go_at_call 92; refine (unhide HS).mono ?_; rintro e w3 ⟨rfl, hq⟩; have hq' := hq.symm; subst hq')
          | (go_at_call 55; refine (unhide HO _ (by first | exact Kept.refl _ _ | exact (Kept.refl _ _).drew | exact (Kept.refl _ _).drew.drew)).mono ?_; rintro e w3 ⟨p3, rfl, hn3, hk3⟩; have HK := hide hk3; have HR3 := hide ((unhide HR _ _ hn3 hk3).then hk3); have c2' := hk3.cell' c2; have c3' := hk3.cell' c3; clear hn3 hk3 HO)
          | (go_at_call 91; refine (unhide HR3 _ (by first | exact Kept.refl _ _ | exact (Kept.refl _ _).drew | exact (Kept.refl _ _).drew.drew)).mono ?_; rintro e w4 ⟨p4, rfl, hn4, hk4⟩; have HN := hide hn4; have HK4 := hide hk4; clear hn4 hk4))
        go_ret2
        exact ⟨_, rfl, unhide HN, unhide HK4⟩
      · replace hw : (l.without k).2 = false := by simpa using hw
        have hR : (Tr.node l k' x' r).without k = (.node l k' x' r, false) := by simp only [Tr.without, klt_int, h1, decide_true, if_true, hw, Bool.false_eq_true, if_false]
        rw [hR]
        rw [hw] at HO
        clear hR
        go_enter Try.func55, Try.ntmps55
        go_wp2_with (first
          | (go_at_call 85; refine (unhide HC _).mono ?_; rintro e w3 ⟨rfl, hq⟩; have hq' := hq.symm; subst hq')
          | (go_at_call 92; refine (unhide HS).mono ?_; rintro e w3 ⟨rfl, hq⟩; have hq' := hq.symm; subst hq')
          | (go_at_call 55; refine (unhide HO _ (by first | exact Kept.refl _ _ | exact (Kept.refl _ _).drew | exact (Kept.refl _ _).drew.drew)).mono ?_; rintro e w3 ⟨p3, rfl, hn3, hk3⟩; have HN := hide ((unhide HP).kept hk3); have HK := hide hk3; clear hn3 hk3 HO))
        go_ret2
        exact ⟨_, rfl, unhide HN, unhide HK⟩
    by_cases h2 : k' < k
    · have HC := hide (fun W => cmp_gt (w := W) h2)
      have HS := hide (side_high rfl (unhide HB))
      have HO : Hid (∀ W, Kept [] w W → Calls Try.prog 55 #[.pointer pb, .int .i64 k] W fun e w' => ∃ p, e = .returned (.tuple #[.pointer p, .bool (r.without k).2]) ∧ Nd w' p (r.without k).1 ∧ Kept [] W w') := fun W hk => ihr W pb k (hr.kept hk) (by omega)
      have s1 := r.without_size k
      have HR : Hid (∀ w3 p3, Nd w3 p3 (r.without k).1 → Kept [] w w3 → Made 91 #[.pointer pa, .pointer (some ⟨g, 0, none⟩), .pointer p3] w3 (Tr.join l k' x' (r.without k).1)) :=
        fun w3 p3 hn hk => join_at (hl.kept hk) (unhide HML _ hk) hn (by omega)
      clear hl hr ihl ihr HML HB
      by_cases hw : (r.without k).2 = true
      · have hR : (Tr.node l k' x' r).without k = (Tr.join l k' x' (r.without k).1, true) := by simp only [Tr.without, klt_int, h1, h2, decide_true, decide_false, if_true, Bool.false_eq_true, if_false, hw]
        rw [hR]
        rw [hw] at HO
        clear hR HP
        generalize Tr.join l k' x' (r.without k).1 = t3 at *
        generalize (r.without k).1 = t2 at *
        go_enter Try.func55, Try.ntmps55
        go_wp2_with (first
          | (go_at_call 85; refine (unhide HC _).mono ?_; rintro e w3 ⟨rfl, hq⟩; have hq' := hq.symm; subst hq')
          | (go_at_call 92; refine (unhide HS).mono ?_; rintro e w3 ⟨rfl, hq⟩; have hq' := hq.symm; subst hq')
          | (go_at_call 55; refine (unhide HO _ (by first | exact Kept.refl _ _ | exact (Kept.refl _ _).drew | exact (Kept.refl _ _).drew.drew)).mono ?_; rintro e w3 ⟨p3, rfl, hn3, hk3⟩; have HK := hide hk3; have HR3 := hide ((unhide HR _ _ hn3 hk3).then hk3); have c2' := hk3.cell' c2; have c3' := hk3.cell' c3; clear hn3 hk3 HO)
          | (go_at_call 91; refine (unhide HR3 _ (by first | exact Kept.refl _ _ | exact (Kept.refl _ _).drew | exact (Kept.refl _ _).drew.drew)).mono ?_; rintro e w4 ⟨p4, rfl, hn4, hk4⟩; have HN := hide hn4; have HK4 := hide hk4; clear hn4 hk4))
        go_ret2
        exact ⟨_, rfl, unhide HN, unhide HK4⟩
      · replace hw : (r.without k).2 = false := by simpa using hw
        have hR : (Tr.node l k' x' r).without k = (.node l k' x' r, false) := by simp only [Tr.without, klt_int, h1, h2, decide_true, decide_false, if_true, hw, Bool.false_eq_true, if_false]
        rw [hR]
        rw [hw] at HO
        clear hR
        go_enter Try.func55, Try.ntmps55
        go_wp2_with (first
          | (go_at_call 85; refine (unhide HC _).mono ?_; rintro e w3 ⟨rfl, hq⟩; have hq' := hq.symm; subst hq')
          | (go_at_call 92; refine (unhide HS).mono ?_; rintro e w3 ⟨rfl, hq⟩; have hq' := hq.symm; subst hq')
          | (go_at_call 55; refine (unhide HO _ (by first | exact Kept.refl _ _ | exact (Kept.refl _ _).drew | exact (Kept.refl _ _).drew.drew)).mono ?_; rintro e w3 ⟨p3, rfl, hn3, hk3⟩; have HN := hide ((unhide HP).kept hk3); have HK := hide hk3; clear hn3 hk3 HO))
        go_ret2
        exact ⟨_, rfl, unhide HN, unhide HK⟩
    · have HC := hide (fun W => cmp_eq (w := W) (show k' = k by omega))
      have hR : (Tr.node l k' x' r).without k = (Tr.meet l r, true) := by simp only [Tr.without, klt_int, h1, h2, decide_false, Bool.false_eq_true, if_false]
      rw [hR]
      have HO := hide (meet_at hl hr (by omega))
      clear hl hr ihl ihr HML HB hR HP
      generalize Tr.meet l r = t3 at *
      go_enter Try.func55, Try.ntmps55
      go_wp2_with (first
        | (go_at_call 85; refine (unhide HC _).mono ?_; rintro e w3 ⟨rfl, hq⟩; have hq' := hq.symm; subst hq')
        | fail)
      go_region_held3 (fun w' => w'.cell? ⟨g, 2, none⟩ = some (.pointer pa) ∧ w'.cell? ⟨g, 3, none⟩ = some (.pointer pb)) (first | go_keep | (exact ⟨(unhide HK).cell' c2, (unhide HK).cell' c3⟩)) (first
        | (go_at_call 53; refine (unhide HO _ (by first | exact Kept.refl _ _ | exact (Kept.refl _ _).drew | exact (Kept.refl _ _).drew.drew)).mono ?_; rintro e w3 ⟨p3, rfl, hn3, hk3⟩; have HK := hide hk3; have HN := hide hn3; clear hn3 hk3 HO))
      all_goals go_wp2
      all_goals
        go_ret2
        exact ⟨_, rfl, unhide HN, unhide HK⟩
end Go.Proofs.Ytbpeeifgfjpghaa
