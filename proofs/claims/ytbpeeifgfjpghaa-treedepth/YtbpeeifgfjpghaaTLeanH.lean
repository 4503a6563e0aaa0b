/- A high tree that is deeper by two. -/
import Derived.Test.YtbpeeifgfjpghaaTAt
namespace Go.Proofs.Ytbpeeifgfjpghaa
open Go.RowKit

set_option maxRecDepth 100000 in
set_option maxHeartbeats 4000000 in
theorem leanHigh_1 {w : World} {pl pm ph : Option Addr} {a b l : TI} {k' x' k x : Int} (hl : Nd w pl l) (hm : Mid w pm k x) (hh : Nd w ph (.node a k' x' b)) (hz : l.size + a.size + b.size < 4611686018427387000) (hd : b.depth ≥ a.depth) :
    Calls Try.prog 134 #[.pointer pl, .pointer pm, .pointer ph] w fun e w' => ∃ p, e = .returned (.pointer p) ∧ Nd w' p (.node (.node l k x a) k' x' b) ∧ Kept [] w w' := by
  obtain ⟨g, pa, pb, rfl, hb, ha, hbb⟩ := hh
  obtain ⟨-, -, c2, c3, -, -⟩ := six hb
  have HA := hide (deep_at hbb)
  have HB := hide (deep_at ha)
  have HO := hide (over_at hl hm ha (by omega))
  have hd2 : ((a.depth : Int) ≤ (b.depth : Int)) = True := by simp; omega
  have HP : Hid (∀ w3 p3, Nd w3 p3 (.node l k x a) → Kept [] w w3 → Made 120 #[.pointer p3, .pointer (some ⟨g, 0, none⟩), .pointer pb] w3 (.node (.node l k x a) k' x' b)) :=
    fun w3 p3 hn hk => over_at hn (show Mid w3 (some ⟨g, 0, none⟩) k' x' from ⟨g, _, _, _, _, rfl, hb.kept hk (by simp)⟩) (hbb.kept hk) (by simp only [Tr.size]; omega)
  clear hd hm hl ha hbb hb hz
  generalize a.depth = ad at *
  generalize b.depth = bd at *
  generalize Tr.node l k x a = t2 at *
  generalize Tr.node t2 k' x' b = t3 at *
  go_enter Try.func134, Try.ntmps134
  go_wp2_with (first
    | (go_at_call 56; refine (unhide HA _ (by first | exact Kept.refl _ _ | exact (Kept.refl _ _).drew)).mono ?_; rintro e w3 ⟨rfl, hq⟩; have hq' := hq.symm; subst hq'; clear HA)
    | (go_at_call 56; refine (unhide HB _ (by first | exact Kept.refl _ _ | exact (Kept.refl _ _).drew)).mono ?_; rintro e w3 ⟨rfl, hq⟩; have hq' := hq.symm; subst hq')
    | fail)
  go_region_held3 (fun w' => w'.cell? ⟨g, 3, none⟩ = some (.pointer pb)) (first | go_keep | (exact (unhide HK).cell' c3)) (first
    | (go_at_call 120; refine (unhide HO _ (by first | exact Kept.refl _ _ | exact (Kept.refl _ _).drew)).mono ?_; rintro e w3 ⟨p3, rfl, hn3, hk3⟩; have HK := hide hk3; have HP3 := hide ((unhide HP _ _ hn3 hk3).then hk3); clear hn3 hk3 HO)
    | (go_at_call 120; refine (unhide HP3 _ (by first | exact Kept.refl _ _ | exact (Kept.refl _ _).drew)).mono ?_; rintro e w4 ⟨p4, rfl, hn4, hk4⟩; clear HK; have HK := hide hk4; have HN := hide hn4; clear hn4 hk4))
  all_goals go_wp2
  all_goals
    go_ret
    exact ⟨_, rfl, unhide HN, unhide HK⟩
set_option maxRecDepth 100000 in
set_option maxHeartbeats 4000000 in
theorem leanHigh_2 {w : World} {pl pm ph : Option Addr} {a1 a2 b l : TI} {k' x' k2 x2 k x : Int} (hl : Nd w pl l) (hm : Mid w pm k x) (hh : Nd w ph (.node (.node a1 k2 x2 a2) k' x' b)) (hz : l.size + (a1.size + 1 + a2.size) + b.size < 4611686018427387000) (hd : ¬ b.depth ≥ (Tr.node a1 k2 x2 a2).depth) :
    Calls Try.prog 134 #[.pointer pl, .pointer pm, .pointer ph] w fun e w' => ∃ p, e = .returned (.pointer p) ∧ Nd w' p (.node (.node l k x a1) k2 x2 (.node a2 k' x' b)) ∧ Kept [] w w' := by
  obtain ⟨g, pa, pb, rfl, hb, ha, hbb⟩ := hh
  obtain ⟨-, -, c2, c3, -, -⟩ := six hb
  have HA := hide (deep_at hbb)
  have HB := hide (deep_at ha)
  obtain ⟨g2, q1, q2, rfl, hb2, hq1, hq2⟩ := ha
  obtain ⟨-, -, d2, d3, -, -⟩ := six hb2
  have HO := hide (over_at hl hm hq1 (by omega))
  have hd2 : (((Tr.node a1 k2 x2 a2).depth : Int) ≤ (b.depth : Int)) = False := by simp only [eq_iff_iff, iff_false]; omega
  have HP : Hid (∀ w3, Kept [] w w3 → Made 120 #[.pointer q2, .pointer (some ⟨g, 0, none⟩), .pointer pb] w3 (.node a2 k' x' b)) :=
    fun w3 hk => over_at (hq2.kept hk) (show Mid w3 (some ⟨g, 0, none⟩) k' x' from ⟨g, _, _, _, _, rfl, hb.kept hk (by simp)⟩) (hbb.kept hk) (by omega)
  have HR : Hid (∀ w4 p1 p2, Nd w4 p1 (.node l k x a1) → Nd w4 p2 (.node a2 k' x' b) → Kept [] w w4 → Made 120 #[.pointer p1, .pointer (some ⟨g2, 0, none⟩), .pointer p2] w4 (.node (.node l k x a1) k2 x2 (.node a2 k' x' b))) :=
    fun w4 p1 p2 h1 h2 hk => over_at h1 (show Mid w4 (some ⟨g2, 0, none⟩) k2 x2 from ⟨g2, _, _, _, _, rfl, hb2.kept hk (by simp)⟩) h2 (by simp only [Tr.size]; omega)
  clear hd hm hl hbb hb hb2 hq1 hq2 hz
  generalize (Tr.node a1 k2 x2 a2).depth = ad at *
  generalize b.depth = bd at *
  generalize Tr.node l k x a1 = t1 at *
  generalize Tr.node a2 k' x' b = t2 at *
  generalize Tr.node t1 k2 x2 t2 = t3 at *
  go_enter Try.func134, Try.ntmps134
  go_wp2_with (first
    | (go_at_call 56; refine (unhide HA _ (by first | exact Kept.refl _ _ | exact (Kept.refl _ _).drew)).mono ?_; rintro e w3 ⟨rfl, hq⟩; have hq' := hq.symm; subst hq'; clear HA)
    | (go_at_call 56; refine (unhide HB _ (by first | exact Kept.refl _ _ | exact (Kept.refl _ _).drew)).mono ?_; rintro e w3 ⟨rfl, hq⟩; have hq' := hq.symm; subst hq')
    | fail)
  go_region_held3 (fun w' => w'.cell? ⟨g, 3, none⟩ = some (.pointer pb) ∧ w'.cell? ⟨g2, 2, none⟩ = some (.pointer q1) ∧ w'.cell? ⟨g2, 3, none⟩ = some (.pointer q2)) (first | go_keep | (exact ⟨(unhide HK).cell' c3, (unhide HK).cell' d2, (unhide HK).cell' d3⟩)) (first
    | (go_at_call 120; refine (unhide HO _ (by first | exact Kept.refl _ _ | exact (Kept.refl _ _).drew)).mono ?_; rintro e w3 ⟨p3, rfl, hn3, hk3⟩; have HK := hide hk3; have HP3 := hide (unhide HP _ hk3); have HN := hide hn3; clear hn3 hk3 HO)
    | (go_at_call 120; refine (unhide HP3 _ (by first | exact Kept.refl _ _ | exact (Kept.refl _ _).drew)).mono ?_; rintro e w4 ⟨p4, rfl, hn4, hk4⟩; have HK0 := HK; clear HK; have HK := hide ((unhide HK0).trans hk4 (by simp)); have HR3 := hide ((unhide HR _ _ _ ((unhide HN).kept hk4) hn4 (unhide HK)).then (unhide HK)); clear hn4 hk4 HP3 HN HK0)
    | (go_at_call 120; refine (unhide HR3 _ (by first | exact Kept.refl _ _ | exact (Kept.refl _ _).drew)).mono ?_; rintro e w5 ⟨p5, rfl, hn5, hk5⟩; clear HK; have HK := hide hk5; have HN := hide hn5; clear hn5 hk5))
  all_goals go_wp2
  all_goals
    go_ret
    exact ⟨_, rfl, unhide HN, unhide HK⟩
theorem leanHigh_any {w : World} {pl pm ph : Option Addr} {a b l : TI} {k' x' k x : Int} (hl : Nd w pl l) (hm : Mid w pm k x) (hh : Nd w ph (.node a k' x' b)) (hz : l.size + a.size + b.size < 4611686018427387000) :
    Calls Try.prog 134 #[.pointer pl, .pointer pm, .pointer ph] w fun e w' => ∃ p, e = .returned (.pointer p) ∧ Nd w' p (Tr.leanHigh l k x a k' x' b) ∧ Kept [] w w' := by
  by_cases hd : b.depth ≥ a.depth
  · have hR : Tr.leanHigh l k x a k' x' b = .node (.node l k x a) k' x' b := by unfold Tr.leanHigh; rw [if_pos hd]
    rw [hR]
    exact leanHigh_1 hl hm hh hz hd
  · cases a with
    | nil => exact absurd (Nat.zero_le _) hd
    | node a1 k2 x2 a2 =>
      have hR : Tr.leanHigh l k x (.node a1 k2 x2 a2) k' x' b = .node (.node l k x a1) k2 x2 (.node a2 k' x' b) := by unfold Tr.leanHigh; rw [if_neg hd]
      rw [hR]
      exact leanHigh_2 hl hm hh hz hd
end Go.Proofs.Ytbpeeifgfjpghaa
