/- A tree parted at a key. -/
import Derived.Test.YtbpeeifgfjpghaaTCut
namespace Go.Proofs.Ytbpeeifgfjpghaa
open Go.RowKit

set_option maxRecDepth 100000 in
set_option maxHeartbeats 4000000 in
theorem split_any (t : TI) : ∀ (w : World) (p : Option Addr) (k : Int), Nd w p t → t.size < 4611686018427384000 →
    Calls Try.prog 50 #[.pointer p, .int .i64 k] w fun e w' => ∃ p1 p2, e = .returned (.tuple #[.pointer p1, .pointer p2]) ∧ Nd w' p1 (t.split k).1 ∧ Nd w' p2 (t.split k).2 ∧ Kept [] w w' := by
  induction t with
  | nil =>
    intro w p k hp hz
    have hp : p = none := hp
    subst hp
    clear hz
    go_enter Try.func50, Try.ntmps50
    go_wp2
    go_ret2
    exact ⟨_, _, rfl, Nd.of_nil, Nd.of_nil, Kept.refl _ _⟩
  | node l k' x' r ihl ihr =>
    intro w p k hp hz
    obtain ⟨g, pa, pb, rfl, hb, hl, hr⟩ := hp
    obtain ⟨c0, -, c2, c3, -, -⟩ := six hb
    simp only [Tr.size] at hz
    have HML : Hid (∀ W, Kept [] w W → Mid W (some ⟨g, 0, none⟩) k' x') := fun W hk => ⟨g, _, _, _, _, rfl, hb.kept hk (by simp)⟩
    have HC := hide (fun W => less_any (w := W) k' k)
    clear hb
    by_cases h1 : k' < k
    · rw [show decide (k' < k) = true by simp [h1]] at HC
      have hR : (Tr.node l k' x' r).split k = (Tr.join l k' x' (r.split k).1, (r.split k).2) := by simp only [Tr.split, klt_int, h1, decide_true, if_true]
      rw [hR]
      have s1 := r.split_size k
      have HO : Hid (∀ W, Kept [] w W → Calls Try.prog 50 #[.pointer pb, .int .i64 k] W fun e w' => ∃ p1 p2, e = .returned (.tuple #[.pointer p1, .pointer p2]) ∧ Nd w' p1 (r.split k).1 ∧ Nd w' p2 (r.split k).2 ∧ Kept [] W w') := fun W hk => ihr W pb k (hr.kept hk) (by omega)
      have HR : Hid (∀ w3 p3, Nd w3 p3 (r.split k).1 → Kept [] w w3 → Made 91 #[.pointer pa, .pointer (some ⟨g, 0, none⟩), .pointer p3] w3 (Tr.join l k' x' (r.split k).1)) :=
        fun w3 p3 hn hk => join_at (hl.kept hk) (unhide HML _ hk) hn (by omega)
      clear hl hr ihl ihr HML hR s1
      simp only
      generalize Tr.join l k' x' (r.split k).1 = t3 at *
      generalize (r.split k).1 = t2 at *
      generalize (r.split k).2 = t4 at *
      go_enter Try.func50, Try.ntmps50
      go_wp2_with (first
        | (go_at_call 52; refine (unhide HC _).mono ?_; rintro e w3 ⟨rfl, hq⟩; have hq' := hq.symm; subst hq')
        | (go_at_call 50; refine (unhide HO _ (by first | exact Kept.refl _ _ | exact (Kept.refl _ _).drew | exact (Kept.refl _ _).drew.drew)).mono ?_; rintro e w3 ⟨p3, p4, rfl, hn3, hn4, hk3⟩; have HK := hide hk3; have HR3 := hide (unhide HR _ _ hn3 hk3); have HN4 := hide hn4; have c2' := hk3.cell' c2; have c3' := hk3.cell' c3; clear hn3 hk3 hn4 HO)
        | (go_at_call 91; refine (unhide HR3 _ (by first | exact Kept.refl _ _ | exact (Kept.refl _ _).drew | exact (Kept.refl _ _).drew.drew)).mono ?_; rintro e w4 ⟨p5, rfl, hn5, hk5⟩; have HN5 := hide hn5; have HM5 := hide ((unhide HN4).kept hk5); have HK5 := hide ((unhide HK).trans hk5 (by simp)); clear hn5 hk5))
      go_ret2
      exact ⟨_, _, rfl, unhide HN5, unhide HM5, unhide HK5⟩
    · rw [show decide (k' < k) = false by simp [h1]] at HC
      have hR : (Tr.node l k' x' r).split k = ((l.split k).1, Tr.join (l.split k).2 k' x' r) := by simp only [Tr.split, klt_int, h1, decide_false, Bool.false_eq_true, if_false]
      rw [hR]
      have s1 := l.split_size k
      have HO : Hid (∀ W, Kept [] w W → Calls Try.prog 50 #[.pointer pa, .int .i64 k] W fun e w' => ∃ p1 p2, e = .returned (.tuple #[.pointer p1, .pointer p2]) ∧ Nd w' p1 (l.split k).1 ∧ Nd w' p2 (l.split k).2 ∧ Kept [] W w') := fun W hk => ihl W pa k (hl.kept hk) (by omega)
      have HR : Hid (∀ w3 p3, Nd w3 p3 (l.split k).2 → Kept [] w w3 → Made 91 #[.pointer p3, .pointer (some ⟨g, 0, none⟩), .pointer pb] w3 (Tr.join (l.split k).2 k' x' r)) :=
        fun w3 p3 hn hk => join_at hn (unhide HML _ hk) (hr.kept hk) (by omega)
      clear hl hr ihl ihr HML hR s1
      simp only
      generalize Tr.join (l.split k).2 k' x' r = t3 at *
      generalize (l.split k).1 = t2 at *
      generalize (l.split k).2 = t4 at *
      go_enter Try.func50, Try.ntmps50
      go_wp2_with (first
        | (go_at_call 52; refine (unhide HC _).mono ?_; rintro e w3 ⟨rfl, hq⟩; have hq' := hq.symm; subst hq')
        | (go_at_call 50; refine (unhide HO _ (by first | exact Kept.refl _ _ | exact (Kept.refl _ _).drew | exact (Kept.refl _ _).drew.drew)).mono ?_; rintro e w3 ⟨p3, p4, rfl, hn3, hn4, hk3⟩; have HK := hide hk3; have HR3 := hide (unhide HR _ _ hn4 hk3); have HN4 := hide hn3; have c2' := hk3.cell' c2; have c3' := hk3.cell' c3; clear hn3 hk3 hn4 HO)
        | (go_at_call 91; refine (unhide HR3 _ (by first | exact Kept.refl _ _ | exact (Kept.refl _ _).drew | exact (Kept.refl _ _).drew.drew)).mono ?_; rintro e w4 ⟨p5, rfl, hn5, hk5⟩; have HN5 := hide hn5; have HM5 := hide ((unhide HN4).kept hk5); have HK5 := hide ((unhide HK).trans hk5 (by simp)); clear hn5 hk5))
      go_ret2
      exact ⟨_, _, rfl, unhide HM5, unhide HN5, unhide HK5⟩
end Go.Proofs.Ytbpeeifgfjpghaa
