/- The last entry taken out; two trees made one. -/
import Derived.Test.YtbpeeifgfjpghaaTPut
namespace Go.Proofs.Ytbpeeifgfjpghaa
open Go.RowKit

def Cuts (w w' : World) (e : Ending) (l : TI) (k x : Int) (r : TI) : Prop := ∃ p1 p2, e = .returned (.tuple #[.pointer p1, .pointer p2]) ∧ Nd w' p1 (Tr.cut .nil l k x r).1 ∧ Mid w' p2 (Tr.cut .nil l k x r).2.1 (Tr.cut .nil l k x r).2.2 ∧ Kept [] w w'
set_option maxRecDepth 100000 in
set_option maxHeartbeats 4000000 in
theorem cut_any (r : TI) : ∀ (w : World) (p : Option Addr) (l : TI) (k x : Int), Nd w p (.node l k x r) → l.size + r.size < 4611686018427384000 →
    Calls Try.prog 94 #[.pointer p] w fun e w' => Cuts w w' e l k x r := by
  induction r with
  | nil =>
    intro w p l k x hp hz
    have HM := hide hp.mid
    obtain ⟨g, pa, pb, rfl, hb, hl, hr⟩ := hp
    have hr : pb = none := hr
    subst hr
    obtain ⟨-, -, c2, c3, -, -⟩ := six hb
    have HL := hide hl
    clear hb hl
    go_enter Try.func94, Try.ntmps94
    go_wp2
    go_ret2
    exact ⟨_, _, rfl, unhide HL, unhide HM, Kept.refl _ _⟩
  | node a k' x' b iha ihb =>
    intro w p l k x hp hz
    obtain ⟨g, pa, pb, rfl, hb, hl, hr⟩ := hp
    obtain ⟨-, -, c2, c3, -, -⟩ := six hb
    have s1 := Tr.cut_size .nil a k' x' b
    simp only [Tr.size] at hz
    have HO : Hid (∀ W, Kept [] w W → Calls Try.prog 94 #[.pointer pb] W fun e w' => Cuts W w' e a k' x' b) := fun W hk => ihb W pb a k' x' (hr.kept hk) (by omega)
    obtain ⟨gb, qa, qb, rfl, -, -, -⟩ := hr
    have HP : Hid (∀ w3 p3, Nd w3 p3 (Tr.cut .nil a k' x' b).1 → Kept [] w w3 → Made 91 #[.pointer pa, .pointer (some ⟨g, 0, none⟩), .pointer p3] w3 (Tr.join l k x (Tr.cut .nil a k' x' b).1)) :=
      fun w3 p3 hn hk => join_at (hl.kept hk) (show Mid w3 (some ⟨g, 0, none⟩) k x from ⟨g, _, _, _, _, rfl, hb.kept hk (by simp)⟩) hn (by omega)
    have HR : Hid (∀ (e : Ending) (w' : World), (∃ p1 p2, e = .returned (.tuple #[.pointer p1, .pointer p2]) ∧ Nd w' p1 (Tr.join l k x (Tr.cut .nil a k' x' b).1) ∧ Mid w' p2 (Tr.cut .nil a k' x' b).2.1 (Tr.cut .nil a k' x' b).2.2 ∧ Kept [] w w') → Cuts w w' e l k x (.node a k' x' b)) := by
      rintro e w' ⟨p1, p2, h1, h2, h3, h4⟩
      exact ⟨p1, p2, h1, h2, h3, h4⟩
    clear hb hl hz s1 iha ihb
    unfold Cuts at HO
    generalize Tr.join l k x (Tr.cut .nil a k' x' b).1 = t3 at *
    generalize (Tr.cut .nil a k' x' b).1 = t2 at *
    generalize (Tr.cut .nil a k' x' b).2.1 = k2 at *
    generalize (Tr.cut .nil a k' x' b).2.2 = x2 at *
    go_enter Try.func94, Try.ntmps94
    go_wp2_with (first
      | (go_at_call 94; refine (unhide HO _ (by first | exact Kept.refl _ _ | exact (Kept.refl _ _).drew | exact (Kept.refl _ _).drew.drew)).mono ?_; rintro e w3 ⟨p3, p4, rfl, hn3, hm3, hk3⟩; have HK := hide hk3; have HP3 := hide (unhide HP _ _ hn3 hk3); have HM3 := hide hm3; have c2' := hk3.cell' c2; have c3' := hk3.cell' c3; clear hn3 hk3 hm3 HO)
      | (go_at_call 91; refine (unhide HP3 _ (by first | exact Kept.refl _ _ | exact (Kept.refl _ _).drew | exact (Kept.refl _ _).drew.drew)).mono ?_; rintro e w4 ⟨p5, rfl, hn4, hk4⟩; have HN := hide hn4; have HM4 := hide ((unhide HM3).kept hk4); have HK4 := hide ((unhide HK).trans hk4 (by simp)); clear hn4 hk4))
    go_ret2
    exact unhide HR _ _ ⟨_, _, rfl, unhide HN, unhide HM4, unhide HK4⟩
set_option maxRecDepth 100000 in
set_option maxHeartbeats 4000000 in
theorem meet_any {w : World} {pl ph : Option Addr} {l h : TI} (hl : Nd w pl l) (hh : Nd w ph h) (hz : l.size + h.size < 4611686018427384000) :
    Calls Try.prog 53 #[.pointer pl, .pointer ph] w fun e w' => ∃ p, e = .returned (.pointer p) ∧ Nd w' p (Tr.meet l h) ∧ Kept [] w w' := by
  cases l with
  | nil =>
    have hl : pl = none := hl
    subst hl
    have HH := hide hh
    clear hh
    go_enter Try.func53, Try.ntmps53
    go_wp2
    go_ret
    exact ⟨_, rfl, unhide HH, Kept.refl _ _⟩
  | node l k x r =>
    have s1 := Tr.cut_size .nil l k x r
    simp only [Tr.size] at hz
    have HO := hide (cut_any r w pl l k x hl (by omega))
    unfold Cuts at HO
    obtain ⟨gb, qa, qb, rfl, -, -, -⟩ := hl
    have HP : Hid (∀ w3 p3 p4, Nd w3 p3 (Tr.cut .nil l k x r).1 → Mid w3 p4 (Tr.cut .nil l k x r).2.1 (Tr.cut .nil l k x r).2.2 → Kept [] w w3 → Made 91 #[.pointer p3, .pointer p4, .pointer ph] w3 (Tr.meet (.node l k x r) h)) :=
      fun w3 p3 p4 hn hm hk => join_at hn hm (hh.kept hk) (by omega)
    clear hh hz s1
    generalize Tr.meet (.node l k x r) h = t3 at *
    generalize (Tr.cut .nil l k x r).1 = t2 at *
    generalize (Tr.cut .nil l k x r).2.1 = k2 at *
    generalize (Tr.cut .nil l k x r).2.2 = x2 at *
    go_enter Try.func53, Try.ntmps53
    go_wp2_with (first
      | (go_at_call 94; refine (unhide HO).mono ?_; rintro e w3 ⟨p3, p4, rfl, hn3, hm3, hk3⟩; have HP3 := hide ((unhide HP _ _ _ hn3 hm3 hk3).then hk3); clear hn3 hk3 hm3 HO)
      | (go_at_call 91; refine (unhide HP3 _ (by first | exact Kept.refl _ _ | exact (Kept.refl _ _).drew | exact (Kept.refl _ _).drew.drew)).mono ?_; rintro e w4 ⟨p5, rfl, hn4, hk4⟩; have HN := hide hn4; have HK4 := hide hk4; clear hn4 hk4))
    go_ret
    exact ⟨_, rfl, unhide HN, unhide HK4⟩
theorem meet_at {w : World} {pl ph : Option Addr} {l h : TI} (hl : Nd w pl l) (hh : Nd w ph h) (hz : l.size + h.size < 4611686018427384000) : Made 53 #[.pointer pl, .pointer ph] w (Tr.meet l h) :=
  Made.of fun _ hk => meet_any (hl.kept hk) (hh.kept hk) hz
end Go.Proofs.Ytbpeeifgfjpghaa
