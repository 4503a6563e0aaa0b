/- A low tree that is deeper by two. -/
import Derived.Test.YtbpeeifgfjpghaaTAt
namespace Go.Proofs.Ytbpeeifgfjpghaa
open Go.RowKit

set_option maxRecDepth 100000 in
set_option maxHeartbeats 4000000 in
theorem leanLow_1 {w : World} {pl pm ph : Option Addr} {a b h : TI} {k' x' k x : Int} (hl : Nd w pl (.node a k' x' b)) (hm : Mid w pm k x) (hh : Nd w ph h) (hz : a.size + b.size + h.size < 4611686018427387000) (hd : a.depth ≥ b.depth) :
    Calls Try.prog 133 #[.pointer pl, .pointer pm, .pointer ph] w fun e w' => ∃ p, e = .returned (.pointer p) ∧ Nd w' p (.node a k' x' (.node b k x h)) ∧ Kept [] w w' := by
  obtain ⟨g, pa, pb, rfl, hb, ha, hbb⟩ := hl
  obtain ⟨-, -, c2, c3, -, -⟩ := six hb
  have HA := hide (deep_at ha)
  have HB := hide (deep_at hbb)
  have HO := hide (over_at hbb hm hh (by omega))
  have hd2 : ((b.depth : Int) ≤ (a.depth : Int)) = True := by simp; omega
  have hz2 : a.size + (Tr.node b k x h).size < 4611686018427387904 := by simp only [Tr.size]; omega
  have HP : Hid (∀ w3 p3, Nd w3 p3 (.node b k x h) → Kept [] w w3 → Made 120 #[.pointer pa, .pointer (some ⟨g, 0, none⟩), .pointer p3] w3 (.node a k' x' (.node b k x h))) :=
    fun w3 p3 hn hk => over_at (ha.kept hk) (show Mid w3 (some ⟨g, 0, none⟩) k' x' from ⟨g, _, _, _, _, rfl, hb.kept hk (by simp)⟩) hn hz2
  clear hd hm hh ha hbb hb hz hz2
  generalize a.depth = ad at *
  generalize b.depth = bd at *
  generalize Tr.node b k x h = t2 at *
  generalize Tr.node a k' x' t2 = t3 at *
  go_enter Try.func133, Try.ntmps133
  go_wp2_with (first
    | (go_at_call 56; refine (unhide HA _ (Kept.refl _ _)).mono ?_; rintro e w3 ⟨rfl, hq⟩; have hq' := hq.symm; subst hq'; clear HA)
    | (go_at_call 56; refine (unhide HB _ (Kept.refl _ _)).mono ?_; rintro e w3 ⟨rfl, hq⟩; have hq' := hq.symm; subst hq')
    | fail)
  go_region_held3 (fun w' => w'.cell? ⟨g, 2, none⟩ = some (.pointer pa)) (first | go_keep | (exact (unhide HK).cell' c2)) (first
    | (go_at_call 120; refine (unhide HO _ (by first | exact Kept.refl _ _ | exact (Kept.refl _ _).drew)).mono ?_; rintro e w3 ⟨p3, rfl, hn3, hk3⟩; have HK := hide hk3; have HP3 := hide ((unhide HP _ _ hn3 hk3).then hk3); clear hn3 hk3 HO)
    | (go_at_call 120; refine (unhide HP3 _ (by first | exact Kept.refl _ _ | exact (Kept.refl _ _).drew)).mono ?_; rintro e w4 ⟨p4, rfl, hn4, hk4⟩; have HK := hide hk4; have HN := hide hn4; clear hn4 hk4))
  all_goals go_wp2
  all_goals
    go_ret
    exact ⟨_, rfl, unhide HN, unhide HK⟩

set_option maxRecDepth 100000 in
set_option maxHeartbeats 4000000 in
theorem leanLow_2 {w : World} {pl pm ph : Option Addr} {a b1 b2 h : TI} {k' x' k2 x2 k x : Int} (hl : Nd w pl (.node a k' x' (.node b1 k2 x2 b2))) (hm : Mid w pm k x) (hh : Nd w ph h) (hz : a.size + (b1.size + 1 + b2.size) + h.size < 4611686018427387000) (hd : ¬ a.depth ≥ (Tr.node b1 k2 x2 b2).depth) :
    Calls Try.prog 133 #[.pointer pl, .pointer pm, .pointer ph] w fun e w' => ∃ p, e = .returned (.pointer p) ∧ Nd w' p (.node (.node a k' x' b1) k2 x2 (.node b2 k x h)) ∧ Kept [] w w' := by
  obtain ⟨g, pa, pb, rfl, hb, ha, hbb⟩ := hl
  obtain ⟨-, -, c2, c3, -, -⟩ := six hb
  have HA := hide (deep_at ha)
  have HB := hide (deep_at hbb)
  obtain ⟨g2, q1, q2, rfl, hb2, hq1, hq2⟩ := hbb
  obtain ⟨-, -, d2, d3, -, -⟩ := six hb2
  have HO := hide (over_at ha (show Mid w (some ⟨g, 0, none⟩) k' x' from ⟨g, _, _, _, _, rfl, hb⟩) hq1 (by omega))
  have hd2 : (((Tr.node b1 k2 x2 b2).depth : Int) ≤ (a.depth : Int)) = False := by simp only [eq_iff_iff, iff_false]; omega
  have HP : Hid (∀ w3, Kept [] w w3 → Made 120 #[.pointer q2, .pointer pm, .pointer ph] w3 (.node b2 k x h)) :=
    fun w3 hk => over_at (hq2.kept hk) (hm.kept hk) (hh.kept hk) (by omega)
  have HR : Hid (∀ w4 p1 p2, Nd w4 p1 (.node a k' x' b1) → Nd w4 p2 (.node b2 k x h) → Kept [] w w4 → Made 120 #[.pointer p1, .pointer (some ⟨g2, 0, none⟩), .pointer p2] w4 (.node (.node a k' x' b1) k2 x2 (.node b2 k x h))) :=
    fun w4 p1 p2 h1 h2 hk => over_at h1 (show Mid w4 (some ⟨g2, 0, none⟩) k2 x2 from ⟨g2, _, _, _, _, rfl, hb2.kept hk (by simp)⟩) h2 (by simp only [Tr.size]; omega)
  clear hd hm hh ha hb hb2 hq1 hq2 hz
  generalize a.depth = ad at *
  generalize (Tr.node b1 k2 x2 b2).depth = bd at *
  generalize Tr.node a k' x' b1 = t1 at *
  generalize Tr.node b2 k x h = t2 at *
  generalize Tr.node t1 k2 x2 t2 = t3 at *
  go_enter Try.func133, Try.ntmps133
  go_wp2_with (first
    | (go_at_call 56; refine (unhide HA _ (by first | exact Kept.refl _ _ | exact (Kept.refl _ _).drew)).mono ?_; rintro e w3 ⟨rfl, hq⟩; have hq' := hq.symm; subst hq'; clear HA)
    | (go_at_call 56; refine (unhide HB _ (by first | exact Kept.refl _ _ | exact (Kept.refl _ _).drew)).mono ?_; rintro e w3 ⟨rfl, hq⟩; have hq' := hq.symm; subst hq')
    | fail)
  go_region_held3 (fun w' => w'.cell? ⟨g, 2, none⟩ = some (.pointer pa) ∧ w'.cell? ⟨g2, 2, none⟩ = some (.pointer q1) ∧ w'.cell? ⟨g2, 3, none⟩ = some (.pointer q2)) (first | go_keep | (exact ⟨(unhide HK).cell' c2, (unhide HK).cell' d2, (unhide HK).cell' d3⟩)) (first
    | (go_at_call 120; refine (unhide HO _ (by first | exact Kept.refl _ _ | exact (Kept.refl _ _).drew)).mono ?_; rintro e w3 ⟨p3, rfl, hn3, hk3⟩; have HK := hide hk3; have HP3 := hide (unhide HP _ hk3); have HN := hide hn3; clear hn3 hk3 HO)
    | (go_at_call 120; refine (unhide HP3 _ (by first | exact Kept.refl _ _ | exact (Kept.refl _ _).drew)).mono ?_; rintro e w4 ⟨p4, rfl, hn4, hk4⟩; have HK0 := HK; clear HK; have HK := hide ((unhide HK0).trans hk4 (by simp)); have HR3 := hide ((unhide HR _ _ _ ((unhide HN).kept hk4) hn4 (unhide HK)).then (unhide HK)); clear hn4 hk4 HP3 HN HK0)
    | (go_at_call 120; refine (unhide HR3 _ (by first | exact Kept.refl _ _ | exact (Kept.refl _ _).drew)).mono ?_; rintro e w5 ⟨p5, rfl, hn5, hk5⟩; clear HK; have HK := hide hk5; have HN := hide hn5; clear hn5 hk5))
  all_goals go_wp2
  all_goals
    go_ret
    exact ⟨_, rfl, unhide HN, unhide HK⟩
theorem leanLow_any {w : World} {pl pm ph : Option Addr} {a b h : TI} {k' x' k x : Int} (hl : Nd w pl (.node a k' x' b)) (hm : Mid w pm k x) (hh : Nd w ph h) (hz : a.size + b.size + h.size < 4611686018427387000) :
    Calls Try.prog 133 #[.pointer pl, .pointer pm, .pointer ph] w fun e w' => ∃ p, e = .returned (.pointer p) ∧ Nd w' p (Tr.leanLow a k' x' b k x h) ∧ Kept [] w w' := by
  by_cases hd : a.depth ≥ b.depth
  · have hR : Tr.leanLow a k' x' b k x h = .node a k' x' (.node b k x h) := by unfold Tr.leanLow; rw [if_pos hd]
    rw [hR]
    exact leanLow_1 hl hm hh hz hd
  · cases b with
    | nil => exact absurd (Nat.zero_le _) hd
    | node b1 k2 x2 b2 =>
      have hR : Tr.leanLow a k' x' (.node b1 k2 x2 b2) k x h = .node (.node a k' x' b1) k2 x2 (.node b2 k x h) := by unfold Tr.leanLow; rw [if_neg hd]
      rw [hR]
      exact leanLow_2 hl hm hh hz hd
end Go.Proofs.Ytbpeeifgfjpghaa
