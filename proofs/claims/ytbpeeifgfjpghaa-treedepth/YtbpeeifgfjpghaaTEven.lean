/- Two trees whose depths may differ by two; two trees joined. -/
import Derived.Test.YtbpeeifgfjpghaaTLeanL
import Derived.Test.YtbpeeifgfjpghaaTLeanH
namespace Go.Proofs.Ytbpeeifgfjpghaa
open Go.RowKit

theorem leanLow_at {w : World} {pl pm ph : Option Addr} {a b h : TI} {k' x' k x : Int} (hl : Nd w pl (.node a k' x' b)) (hm : Mid w pm k x) (hh : Nd w ph h) (hz : a.size + b.size + h.size < 4611686018427387000) :
    Made 133 #[.pointer pl, .pointer pm, .pointer ph] w (Tr.leanLow a k' x' b k x h) := Made.of fun _ hk => leanLow_any (hl.kept hk) (hm.kept hk) (hh.kept hk) hz
theorem leanHigh_at {w : World} {pl pm ph : Option Addr} {a b l : TI} {k' x' k x : Int} (hl : Nd w pl l) (hm : Mid w pm k x) (hh : Nd w ph (.node a k' x' b)) (hz : l.size + a.size + b.size < 4611686018427387000) :
    Made 134 #[.pointer pl, .pointer pm, .pointer ph] w (Tr.leanHigh l k x a k' x' b) := Made.of fun _ hk => leanHigh_any (hl.kept hk) (hm.kept hk) (hh.kept hk) hz

set_option maxRecDepth 100000 in
set_option maxHeartbeats 4000000 in
theorem even_any {w : World} {pl pm ph : Option Addr} {l h : TI} {k x : Int} (hl : Nd w pl l) (hm : Mid w pm k x) (hh : Nd w ph h) (hz : l.size + h.size < 4611686018427386000) :
    Calls Try.prog 121 #[.pointer pl, .pointer pm, .pointer ph] w fun e w' => ∃ p, e = .returned (.pointer p) ∧ Nd w' p (Tr.even l k x h) ∧ Kept [] w w' := by
  have HA := hide (deep_at hl)
  have HB := hide (deep_at hh)
  have HC := hide (deep_at hh)
  have HD := hide (deep_at hl)
  have dl := l.depth_le_size
  have dh := h.depth_le_size
  by_cases h1 : l.depth > h.depth + 1
  · cases l with
    | nil => exact absurd h1 (by simp [Tr.depth])
    | node a k' x' b =>
      have hR : Tr.even (.node a k' x' b) k x h = Tr.leanLow a k' x' b k x h := by unfold Tr.even; rw [if_pos h1]
      rw [hR]
      have HO := hide (leanLow_at hl hm hh (by simp only [Tr.size] at hz; omega))
      have e1 : ((h.depth : Int) + 1 < ((Tr.node a k' x' b).depth : Int)) = True := by simp only [eq_iff_iff, iff_true]; omega
      clear hl hm hh hR
      generalize Tr.leanLow a k' x' b k x h = t3 at *
      generalize (Tr.node a k' x' b).depth = ld at *
      generalize (Tr.node a k' x' b).size = ls at *
      generalize h.depth = hd at *
      generalize h.size = hs at *
      go_enter Try.func121, Try.ntmps121
      go_wp2_with (first
        | (go_at_call 56; refine (unhide HA _ (by first | exact Kept.refl _ _ | exact (Kept.refl _ _).drew)).mono ?_; rintro e w3 ⟨rfl, hq⟩; have hq' := hq.symm; subst hq'; clear HA)
        | (go_at_call 56; refine (unhide HB _ (by first | exact Kept.refl _ _ | exact (Kept.refl _ _).drew)).mono ?_; rintro e w3 ⟨rfl, hq⟩; have hq' := hq.symm; subst hq'; clear HB)
        | (go_at_call 133; refine (unhide HO _ (by first | exact Kept.refl _ _ | exact (Kept.refl _ _).drew)).mono ?_; rintro e w3 ⟨p3, rfl, hn3, hk3⟩; have HK := hide hk3; have HN := hide hn3; clear hn3 hk3 HO))
      go_ret
      exact ⟨_, rfl, unhide HN, unhide HK⟩
  · by_cases h2 : h.depth > l.depth + 1
    · cases h with
      | nil => exact absurd h2 (by simp [Tr.depth])
      | node a k' x' b =>
        have hR : Tr.even l k x (.node a k' x' b) = Tr.leanHigh l k x a k' x' b := by unfold Tr.even; rw [if_neg h1, if_pos h2]
        rw [hR]
        have HO := hide (leanHigh_at hl hm hh (by simp only [Tr.size] at hz; omega))
        have e1 : (((Tr.node a k' x' b).depth : Int) + 1 < (l.depth : Int)) = False := by simp only [eq_iff_iff, iff_false]; omega
        have e2 : ((l.depth : Int) + 1 < ((Tr.node a k' x' b).depth : Int)) = True := by simp only [eq_iff_iff, iff_true]; omega
        clear hl hm hh hR
        generalize Tr.leanHigh l k x a k' x' b = t3 at *
        generalize (Tr.node a k' x' b).depth = hd at *
        generalize (Tr.node a k' x' b).size = hs at *
        generalize l.depth = ld at *
        generalize l.size = ls at *
        go_enter Try.func121, Try.ntmps121
        go_wp2_with (first
          | (go_at_call 56; refine (unhide HA _ (by first | exact Kept.refl _ _ | exact (Kept.refl _ _).drew)).mono ?_; rintro e w3 ⟨rfl, hq⟩; have hq' := hq.symm; subst hq'; clear HA)
          | (go_at_call 56; refine (unhide HB _ (by first | exact Kept.refl _ _ | exact (Kept.refl _ _).drew)).mono ?_; rintro e w3 ⟨rfl, hq⟩; have hq' := hq.symm; subst hq'; clear HB)
          | (go_at_call 56; refine (unhide HC _ (by first | exact Kept.refl _ _ | exact (Kept.refl _ _).drew)).mono ?_; rintro e w3 ⟨rfl, hq⟩; have hq' := hq.symm; subst hq'; clear HC)
          | (go_at_call 56; refine (unhide HD _ (by first | exact Kept.refl _ _ | exact (Kept.refl _ _).drew)).mono ?_; rintro e w3 ⟨rfl, hq⟩; have hq' := hq.symm; subst hq'; clear HD)
          | (go_at_call 134; refine (unhide HO _ (by first | exact Kept.refl _ _ | exact (Kept.refl _ _).drew)).mono ?_; rintro e w3 ⟨p3, rfl, hn3, hk3⟩; have HK := hide hk3; have HN := hide hn3; clear hn3 hk3 HO))
        go_ret
        exact ⟨_, rfl, unhide HN, unhide HK⟩
    · have hR : Tr.even l k x h = .node l k x h := by unfold Tr.even; rw [if_neg h1, if_neg h2]
      rw [hR]
      have HO := hide (over_at hl hm hh (by omega))
      have e1 : ((h.depth : Int) + 1 < (l.depth : Int)) = False := by simp only [eq_iff_iff, iff_false]; omega
      have e2 : ((l.depth : Int) + 1 < (h.depth : Int)) = False := by simp only [eq_iff_iff, iff_false]; omega
      clear hl hm hh hR
      generalize Tr.node l k x h = t3 at *
      generalize h.depth = hd at *
      generalize h.size = hs at *
      generalize l.depth = ld at *
      generalize l.size = ls at *
      go_enter Try.func121, Try.ntmps121
      go_wp2_with (first
        | (go_at_call 56; refine (unhide HA _ (by first | exact Kept.refl _ _ | exact (Kept.refl _ _).drew)).mono ?_; rintro e w3 ⟨rfl, hq⟩; have hq' := hq.symm; subst hq'; clear HA)
        | (go_at_call 56; refine (unhide HB _ (by first | exact Kept.refl _ _ | exact (Kept.refl _ _).drew)).mono ?_; rintro e w3 ⟨rfl, hq⟩; have hq' := hq.symm; subst hq'; clear HB)
        | (go_at_call 56; refine (unhide HC _ (by first | exact Kept.refl _ _ | exact (Kept.refl _ _).drew)).mono ?_; rintro e w3 ⟨rfl, hq⟩; have hq' := hq.symm; subst hq'; clear HC)
        | (go_at_call 56; refine (unhide HD _ (by first | exact Kept.refl _ _ | exact (Kept.refl _ _).drew)).mono ?_; rintro e w3 ⟨rfl, hq⟩; have hq' := hq.symm; subst hq'; clear HD)
        | (go_at_call 120; refine (unhide HO _ (by first | exact Kept.refl _ _ | exact (Kept.refl _ _).drew)).mono ?_; rintro e w3 ⟨p3, rfl, hn3, hk3⟩; have HK := hide hk3; have HN := hide hn3; clear hn3 hk3 HO))
      go_ret
      exact ⟨_, rfl, unhide HN, unhide HK⟩
theorem even_at {w : World} {pl pm ph : Option Addr} {l h : TI} {k x : Int} (hl : Nd w pl l) (hm : Mid w pm k x) (hh : Nd w ph h) (hz : l.size + h.size < 4611686018427386000) :
    Made 121 #[.pointer pl, .pointer pm, .pointer ph] w (Tr.even l k x h) := Made.of fun _ hk => even_any (hl.kept hk) (hm.kept hk) (hh.kept hk) hz
end Go.Proofs.Ytbpeeifgfjpghaa
