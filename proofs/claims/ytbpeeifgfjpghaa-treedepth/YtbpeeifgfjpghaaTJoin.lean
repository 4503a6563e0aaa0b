/- Two trees and an entry between them joined. -/
import Derived.Test.YtbpeeifgfjpghaaTEven
namespace Go.Proofs.Ytbpeeifgfjpghaa
open Go.RowKit

set_option maxRecDepth 100000 in
set_option maxHeartbeats 4000000 in
theorem join_n (n : Nat) : ∀ (w : World) (pl pm ph : Option Addr) (l h : TI) (k x : Int), Nd w pl l → Mid w pm k x → Nd w ph h → l.size + h.size < 4611686018427385000 → l.size + h.size ≤ n →
    Calls Try.prog 91 #[.pointer pl, .pointer pm, .pointer ph] w fun e w' => ∃ p, e = .returned (.pointer p) ∧ Nd w' p (Tr.join l k x h) ∧ Kept [] w w' := by
  induction n with
  | zero => ?_
  | succ n ih => ?_
  all_goals
    intro w pl pm ph l h k x hl hm hh hz hn
    have HA := hide (deep_at hl)
    have HB := hide (deep_at hh)
    have HC := hide (deep_at hh)
    have HD := hide (deep_at hl)
    have dl := l.depth_le_size
    have dh := h.depth_le_size
    by_cases h1 : l.depth > h.depth + 1
    rotate_left
    by_cases h2 : h.depth > l.depth + 1
    rotate_left
    · have hR := Tr.join_over l k x h h1 h2
      rw [hR]
      have HO := hide (over_at hl hm hh (by omega))
      have e1 : ((h.depth : Int) + 1 < (l.depth : Int)) = False := by simp only [eq_iff_iff, iff_false]; omega
      have e2 : ((l.depth : Int) + 1 < (h.depth : Int)) = False := by simp only [eq_iff_iff, iff_false]; omega
      clear hl hm hh hR
      generalize Tr.node l k x h = t3 at *
      generalize h.depth = hd at *
      generalize h.size = hs at *
      generalize l.depth = ld at *
      generalize l.size = ls at *
      go_enter Try.func91, Try.ntmps91
      go_wp2_with (first
        | (go_at_call 56; refine (unhide HA _ (by first | exact Kept.refl _ _ | exact (Kept.refl _ _).drew)).mono ?_; rintro e w3 ⟨rfl, hq⟩; have hq' := hq.symm; subst hq'; clear HA)
        | (go_at_call 56; refine (unhide HB _ (by first | exact Kept.refl _ _ | exact (Kept.refl _ _).drew)).mono ?_; rintro e w3 ⟨rfl, hq⟩; have hq' := hq.symm; subst hq'; clear HB)
        | (go_at_call 56; refine (unhide HC _ (by first | exact Kept.refl _ _ | exact (Kept.refl _ _).drew)).mono ?_; rintro e w3 ⟨rfl, hq⟩; have hq' := hq.symm; subst hq'; clear HC)
        | (go_at_call 56; refine (unhide HD _ (by first | exact Kept.refl _ _ | exact (Kept.refl _ _).drew)).mono ?_; rintro e w3 ⟨rfl, hq⟩; have hq' := hq.symm; subst hq'; clear HD)
        | (go_at_call 120; refine (unhide HO _ (by first | exact Kept.refl _ _ | exact (Kept.refl _ _).drew)).mono ?_; rintro e w3 ⟨p3, rfl, hn3, hk3⟩; have HK := hide hk3; have HN := hide hn3; clear hn3 hk3 HO))
      go_ret
      exact ⟨_, rfl, unhide HN, unhide HK⟩
  · exfalso; omega
  · exfalso; omega
  · cases l with
    | nil => exact absurd h1 (by simp [Tr.depth])
    | node a k' x' b =>
      have hR := Tr.join_low a k' x' b k x h h1
      rw [hR]
      simp only [Tr.size] at hz hn
      have e1 : ((h.depth : Int) + 1 < ((Tr.node a k' x' b).depth : Int)) = True := by simp only [eq_iff_iff, iff_true]; omega
      have hzz : a.size + (Tr.join b k x h).size < 4611686018427386000 := by rw [Tr.join_size]; omega
      have hdd : (Tr.node a k' x' b).depth < 4611686018427387000 := by
        have := (Tr.node a k' x' b).depth_le_size; simp only [Tr.size] at this; omega
      obtain ⟨g, pa, pb, rfl, hb, ha, hbb⟩ := hl
      obtain ⟨-, -, c2, c3, -, -⟩ := six hb
      have HO : Hid (Made 91 #[.pointer pb, .pointer pm, .pointer ph] w (Tr.join b k x h)) := Made.of fun W hk => ih W pb pm ph b h k x (hbb.kept hk) (hm.kept hk) (hh.kept hk) (by omega) (by omega)
      have HP : Hid (∀ w3 p3, Nd w3 p3 (Tr.join b k x h) → Kept [] w w3 → Made 121 #[.pointer pa, .pointer (some ⟨g, 0, none⟩), .pointer p3] w3 (Tr.even a k' x' (Tr.join b k x h))) :=
        fun w3 p3 hn hk => even_at (ha.kept hk) (show Mid w3 (some ⟨g, 0, none⟩) k' x' from ⟨g, _, _, _, _, rfl, hb.kept hk (by simp)⟩) hn hzz
      clear hm hh hR hb ha hbb hzz h1 ih
      generalize Tr.join b k x h = t2 at *
      generalize Tr.even a k' x' t2 = t3 at *
      generalize (Tr.node a k' x' b).depth = ld at *
      generalize h.depth = hd at *
      generalize h.size = hs at *
      go_enter Try.func91, Try.ntmps91
      go_wp2_with (first
        | (go_at_call 56; refine (unhide HA _ (by first | exact Kept.refl _ _ | exact (Kept.refl _ _).drew)).mono ?_; rintro e w3 ⟨rfl, hq⟩; have hq' := hq.symm; subst hq'; clear HA)
        | (go_at_call 56; refine (unhide HB _ (by first | exact Kept.refl _ _ | exact (Kept.refl _ _).drew)).mono ?_; rintro e w3 ⟨rfl, hq⟩; have hq' := hq.symm; subst hq'; clear HB)
        | fail)
      go_region_held3 (fun w' => w'.cell? ⟨g, 2, none⟩ = some (.pointer pa) ∧ w'.cell? ⟨g, 3, none⟩ = some (.pointer pb)) (first | go_keep | (exact ⟨(unhide HK).cell' c2, (unhide HK).cell' c3⟩)) (first
        | (go_at_call 91; refine (unhide HO _ (by first | exact Kept.refl _ _ | exact (Kept.refl _ _).drew)).mono ?_; rintro e w3 ⟨p3, rfl, hn3, hk3⟩; have HK := hide hk3; have HP3 := hide ((unhide HP _ _ hn3 hk3).then hk3); clear hn3 hk3 HO)
        | (go_at_call 121; refine (unhide HP3 _ (by first | exact Kept.refl _ _ | exact (Kept.refl _ _).drew)).mono ?_; rintro e w4 ⟨p4, rfl, hn4, hk4⟩; clear HK; have HK := hide hk4; have HN := hide hn4; clear hn4 hk4))
      all_goals go_wp2
      all_goals
        go_ret
        exact ⟨_, rfl, unhide HN, unhide HK⟩
  · cases h with
    | nil => exact absurd h2 (by simp [Tr.depth])
    | node a k' x' b =>
      have hR := Tr.join_high l k x a k' x' b h1 h2
      rw [hR]
      simp only [Tr.size] at hz hn
      have e1 : (((Tr.node a k' x' b).depth : Int) + 1 < (l.depth : Int)) = False := by simp only [eq_iff_iff, iff_false]; omega
      have e2 : ((l.depth : Int) + 1 < ((Tr.node a k' x' b).depth : Int)) = True := by simp only [eq_iff_iff, iff_true]; omega
      have hzz : (Tr.join l k x a).size + b.size < 4611686018427386000 := by rw [Tr.join_size]; omega
      have hdd : (Tr.node a k' x' b).depth < 4611686018427387000 := by
        have := (Tr.node a k' x' b).depth_le_size; simp only [Tr.size] at this; omega
      obtain ⟨g, pa, pb, rfl, hb, ha, hbb⟩ := hh
      obtain ⟨-, -, c2, c3, -, -⟩ := six hb
      have HO : Hid (Made 91 #[.pointer pl, .pointer pm, .pointer pa] w (Tr.join l k x a)) := Made.of fun W hk => ih W pl pm pa l a k x (hl.kept hk) (hm.kept hk) (ha.kept hk) (by omega) (by omega)
      have HP : Hid (∀ w3 p3, Nd w3 p3 (Tr.join l k x a) → Kept [] w w3 → Made 121 #[.pointer p3, .pointer (some ⟨g, 0, none⟩), .pointer pb] w3 (Tr.even (Tr.join l k x a) k' x' b)) :=
        fun w3 p3 hn hk => even_at hn (show Mid w3 (some ⟨g, 0, none⟩) k' x' from ⟨g, _, _, _, _, rfl, hb.kept hk (by simp)⟩) (hbb.kept hk) hzz
      clear hm hl hR hb ha hbb hzz h1 h2 ih
      generalize Tr.join l k x a = t2 at *
      generalize Tr.even t2 k' x' b = t3 at *
      generalize (Tr.node a k' x' b).depth = hd at *
      generalize l.depth = ld at *
      generalize l.size = ls at *
      go_enter Try.func91, Try.ntmps91
      go_wp2_with (first
        | (go_at_call 56; refine (unhide HA _ (by first | exact Kept.refl _ _ | exact (Kept.refl _ _).drew)).mono ?_; rintro e w3 ⟨rfl, hq⟩; have hq' := hq.symm; subst hq'; clear HA)
        | (go_at_call 56; refine (unhide HB _ (by first | exact Kept.refl _ _ | exact (Kept.refl _ _).drew)).mono ?_; rintro e w3 ⟨rfl, hq⟩; have hq' := hq.symm; subst hq'; clear HB)
        | (go_at_call 56; refine (unhide HC _ (by first | exact Kept.refl _ _ | exact (Kept.refl _ _).drew)).mono ?_; rintro e w3 ⟨rfl, hq⟩; have hq' := hq.symm; subst hq'; clear HC)
        | (go_at_call 56; refine (unhide HD _ (by first | exact Kept.refl _ _ | exact (Kept.refl _ _).drew)).mono ?_; rintro e w3 ⟨rfl, hq⟩; have hq' := hq.symm; subst hq'; clear HD)
        | fail)
      go_region_held3 (fun w' => w'.cell? ⟨g, 2, none⟩ = some (.pointer pa) ∧ w'.cell? ⟨g, 3, none⟩ = some (.pointer pb)) (first | go_keep | (exact ⟨(unhide HK).cell' c2, (unhide HK).cell' c3⟩)) (first
        | (go_at_call 91; refine (unhide HO _ (by first | exact Kept.refl _ _ | exact (Kept.refl _ _).drew)).mono ?_; rintro e w3 ⟨p3, rfl, hn3, hk3⟩; have HK := hide hk3; have HP3 := hide ((unhide HP _ _ hn3 hk3).then hk3); clear hn3 hk3 HO)
        | (go_at_call 121; refine (unhide HP3 _ (by first | exact Kept.refl _ _ | exact (Kept.refl _ _).drew)).mono ?_; rintro e w4 ⟨p4, rfl, hn4, hk4⟩; clear HK; have HK := hide hk4; have HN := hide hn4; clear hn4 hk4))
      all_goals go_wp2
      all_goals
        go_ret
        exact ⟨_, rfl, unhide HN, unhide HK⟩
theorem join_any {w : World} {pl pm ph : Option Addr} {l h : TI} {k x : Int} (hl : Nd w pl l) (hm : Mid w pm k x) (hh : Nd w ph h) (hz : l.size + h.size < 4611686018427385000) :
    Calls Try.prog 91 #[.pointer pl, .pointer pm, .pointer ph] w fun e w' => ∃ p, e = .returned (.pointer p) ∧ Nd w' p (Tr.join l k x h) ∧ Kept [] w w' := join_n _ w pl pm ph l h k x hl hm hh hz (Nat.le_refl _)
theorem join_at {w : World} {pl pm ph : Option Addr} {l h : TI} {k x : Int} (hl : Nd w pl l) (hm : Mid w pm k x) (hh : Nd w ph h) (hz : l.size + h.size < 4611686018427385000) :
    Made 91 #[.pointer pl, .pointer pm, .pointer ph] w (Tr.join l k x h) := Made.of fun _ hk => join_any (hl.kept hk) (hm.kept hk) (hh.kept hk) hz
end Go.Proofs.Ytbpeeifgfjpghaa
