/- An entry put into a tree. -/
import Derived.Test.YtbpeeifgfjpghaaTJoin
import Derived.Test.YtbpeeifgfjpghaaTSize
namespace Go.Proofs.Ytbpeeifgfjpghaa
open Go.RowKit


set_option maxRecDepth 100000 in
set_option maxHeartbeats 4000000 in
theorem put_any (t : TI) : ∀ (w : World) (p pe : Option Addr) (k x : Int), Nd w p t → Mid w pe k x → t.size < 4611686018427384000 →
    Calls Try.prog 88 #[.pointer p, .pointer pe] w fun e w' => ∃ p, e = .returned (.pointer p) ∧ Nd w' p (t.put k x) ∧ Kept [] w w' := by
  induction t with
  | nil =>
    intro w p pe k x hp hm hz
    have hp : p = none := hp
    subst hp
    have HO := hide (over_at (Nd.of_nil (w := w)) hm Nd.of_nil (by simp [Tr.size]))
    clear hm hz
    go_enter Try.func88, Try.ntmps88
    go_wp2_with (first | (go_at_call 120; refine (unhide HO _ (by first | exact Kept.refl _ _ | exact (Kept.refl _ _).drew | exact (Kept.refl _ _).drew.drew)).mono ?_; rintro e w3 ⟨p3, rfl, hn3, hk3⟩; have HK := hide hk3; have HN := hide hn3; clear hn3 hk3 HO))
    go_ret
    exact ⟨_, rfl, unhide HN, unhide HK⟩
  | node l k' x' r ihl ihr =>
    intro w p pe k x hp hm hz
    obtain ⟨g, pa, pb, rfl, hb, hl, hr⟩ := hp
    obtain ⟨c0, -, c2, c3, -, -⟩ := six hb
    have HM := hide hm
    obtain ⟨ge, u1, u2, u3, u4, rfl, hbe⟩ := hm
    obtain ⟨d0, -, -, -, -, -⟩ := six hbe
    simp only [Tr.size] at hz
    have HML : Hid (∀ W, Kept [] w W → Mid W (some ⟨g, 0, none⟩) k' x') := fun W hk => ⟨g, _, _, _, _, rfl, hb.kept hk (by simp)⟩
    clear hb hbe
    by_cases h1 : k < k'
    · have hR : (Tr.node l k' x' r).put k x = Tr.join (l.put k x) k' x' r := by simp only [Tr.put, klt_int, h1, decide_true, if_true]
      rw [hR]
      have s1 := l.put_size k x
      have HC := hide (fun W => cmp_lt (w := W) h1)
      have HO : Hid (Made 88 #[.pointer pa, .pointer (some ⟨ge, 0, none⟩)] w (l.put k x)) := Made.of fun W hk => ihl W pa _ k x (hl.kept hk) ((unhide HM).kept hk) (by omega)
      have HP : Hid (∀ w3 p3, Nd w3 p3 (l.put k x) → Kept [] w w3 → Made 91 #[.pointer p3, .pointer (some ⟨g, 0, none⟩), .pointer pb] w3 (Tr.join (l.put k x) k' x' r)) :=
        fun w3 p3 hn hk => join_at hn (unhide HML _ hk) (hr.kept hk) (by omega)
      clear hR hl hr ihl ihr HM HML s1 hz
      generalize Tr.join (l.put k x) k' x' r = t3 at *
      generalize l.put k x = t2 at *
      go_enter Try.func88, Try.ntmps88
      go_wp2_with fail
      go_region_held3 (fun w' => w'.cell? ⟨ge, 0, none⟩ = some (.int .i64 k) ∧ w'.cell? ⟨g, 0, none⟩ = some (.int .i64 k')) (go_keep) (first
        | (go_at_call 85; refine (unhide HC _).mono ?_; rintro e w3 ⟨rfl, hq⟩; have hq' := hq.symm; subst hq'))
      go_wp2_with fail
      go_region_held3 (fun w' => w'.cell? ⟨g, 2, none⟩ = some (.pointer pa) ∧ w'.cell? ⟨g, 3, none⟩ = some (.pointer pb)) (first | go_keep | (exact ⟨(unhide HK).cell' c2, (unhide HK).cell' c3⟩)) (first
        | (go_at_call 88; refine (unhide HO _ (by first | exact Kept.refl _ _ | exact (Kept.refl _ _).drew | exact (Kept.refl _ _).drew.drew)).mono ?_; rintro e w3 ⟨p3, rfl, hn3, hk3⟩; have HK := hide hk3; have HP3 := hide ((unhide HP _ _ hn3 hk3).then hk3); clear hn3 hk3 HO)
        | (go_at_call 91; refine (unhide HP3 _ (by first | exact Kept.refl _ _ | exact (Kept.refl _ _).drew | exact (Kept.refl _ _).drew.drew)).mono ?_; rintro e w4 ⟨p4, rfl, hn4, hk4⟩; clear HK; have HK := hide hk4; have HN := hide hn4; clear hn4 hk4))
      all_goals go_wp2
      all_goals
        go_ret
        exact ⟨_, rfl, unhide HN, unhide HK⟩
    by_cases h2 : k' < k
    · have hR : (Tr.node l k' x' r).put k x = Tr.join l k' x' (r.put k x) := by simp only [Tr.put, klt_int, h1, h2, decide_true, decide_false, if_true, Bool.false_eq_true, if_false]
      rw [hR]
      have s1 := r.put_size k x
      have HC := hide (fun W => cmp_gt (w := W) h2)
      have HO : Hid (Made 88 #[.pointer pb, .pointer (some ⟨ge, 0, none⟩)] w (r.put k x)) := Made.of fun W hk => ihr W pb _ k x (hr.kept hk) ((unhide HM).kept hk) (by omega)
      have HP : Hid (∀ w3 p3, Nd w3 p3 (r.put k x) → Kept [] w w3 → Made 91 #[.pointer pa, .pointer (some ⟨g, 0, none⟩), .pointer p3] w3 (Tr.join l k' x' (r.put k x))) :=
        fun w3 p3 hn hk => join_at (hl.kept hk) (unhide HML _ hk) hn (by omega)
      clear hR hl hr ihl ihr HM HML s1 hz
      generalize Tr.join l k' x' (r.put k x) = t3 at *
      generalize r.put k x = t2 at *
      go_enter Try.func88, Try.ntmps88
      go_wp2_with fail
      go_region_held3 (fun w' => w'.cell? ⟨ge, 0, none⟩ = some (.int .i64 k) ∧ w'.cell? ⟨g, 0, none⟩ = some (.int .i64 k')) (go_keep) (first
        | (go_at_call 85; refine (unhide HC _).mono ?_; rintro e w3 ⟨rfl, hq⟩; have hq' := hq.symm; subst hq'))
      go_wp2_with fail
      go_region_held3 (fun w' => w'.cell? ⟨g, 2, none⟩ = some (.pointer pa) ∧ w'.cell? ⟨g, 3, none⟩ = some (.pointer pb)) (first | go_keep | (exact ⟨(unhide HK).cell' c2, (unhide HK).cell' c3⟩)) (first
        | (go_at_call 88; refine (unhide HO _ (by first | exact Kept.refl _ _ | exact (Kept.refl _ _).drew | exact (Kept.refl _ _).drew.drew)).mono ?_; rintro e w3 ⟨p3, rfl, hn3, hk3⟩; have HK := hide hk3; have HP3 := hide ((unhide HP _ _ hn3 hk3).then hk3); clear hn3 hk3 HO)
        | (go_at_call 91; refine (unhide HP3 _ (by first | exact Kept.refl _ _ | exact (Kept.refl _ _).drew | exact (Kept.refl _ _).drew.drew)).mono ?_; rintro e w4 ⟨p4, rfl, hn4, hk4⟩; clear HK; have HK := hide hk4; have HN := hide hn4; clear hn4 hk4))
      all_goals go_wp2
      all_goals
        go_ret
        exact ⟨_, rfl, unhide HN, unhide HK⟩
    · have hR : (Tr.node l k' x' r).put k x = .node l k x r := by simp only [Tr.put, klt_int, h1, h2, decide_false, Bool.false_eq_true, if_false]
      rw [hR]
      have HC := hide (fun W => cmp_eq (w := W) (show k' = k by omega))
      have HO := hide (over_at hl (unhide HM) hr (by omega))
      clear hR hl hr ihl ihr HM HML hz
      generalize Tr.node l k x r = t3 at *
      go_enter Try.func88, Try.ntmps88
      go_wp2_with fail
      go_region_held3 (fun w' => w'.cell? ⟨ge, 0, none⟩ = some (.int .i64 k) ∧ w'.cell? ⟨g, 0, none⟩ = some (.int .i64 k')) (go_keep) (first
        | (go_at_call 85; refine (unhide HC _).mono ?_; rintro e w3 ⟨rfl, hq⟩; have hq' := hq.symm; subst hq'))
      go_wp2_with fail
      go_region_held3 (fun w' => w'.cell? ⟨g, 2, none⟩ = some (.pointer pa) ∧ w'.cell? ⟨g, 3, none⟩ = some (.pointer pb)) (first | go_keep | (exact ⟨(unhide HK).cell' c2, (unhide HK).cell' c3⟩)) (first
        | (go_at_call 120; refine (unhide HO _ (by first | exact Kept.refl _ _ | exact (Kept.refl _ _).drew | exact (Kept.refl _ _).drew.drew)).mono ?_; rintro e w3 ⟨p3, rfl, hn3, hk3⟩; have HK := hide hk3; have HN := hide hn3; clear hn3 hk3 HO))
      all_goals go_wp2
      all_goals
        go_ret
        exact ⟨_, rfl, unhide HN, unhide HK⟩
theorem put_at {w : World} {p pe : Option Addr} {t : TI} {k x : Int} (h : Nd w p t) (hm : Mid w pe k x) (hz : t.size < 4611686018427384000) : Made 88 #[.pointer p, .pointer pe] w (t.put k x) :=
  Made.of fun W hk => put_any t W p pe k x (h.kept hk) (hm.kept hk) hz
end Go.Proofs.Ytbpeeifgfjpghaa
