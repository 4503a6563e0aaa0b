/- A Thing comes back out of a reader, whatever it is: frames, too. -/
import Derived.Test.YtiabhgkndejigaaThingS
namespace Go.Proofs.Ytiabhgkndejigaa
open Go.RowKit

/-- The reader goes from l with bh behind its frames to l' with bh'. -/
def RStep (t : Th) (l : List Nat) (bh : List (List Nat)) (l' : List Nat) (bh' : List (List Nat)) : Prop :=
  (t.k < 7 ∧ l = t.bytes ++ l' ∧ bh' = bh) ∨ (t.k = 7 ∧ bh.length < 16 ∧ ∃ rest, l = form l'.length ++ (l' ++ rest) ∧ bh' = bh ++ [rest]) ∨ (t.k = 8 ∧ l = [] ∧ bh = bh' ++ [l'])

/-- Behind a call on the reader. -/
def RPost (w : World) (b : Nat) (bv : Value) (D : Option Nat) (l' : List Nat) (bh' : List (List Nat)) (w' : World) : Prop :=
  ∃ lv' bv' hs', Rf w' b lv' bv' hs' l' bh' D ∧ Kept (rfoot b bv) w w' ∧ ∀ x, x ∈ rfoot b bv' → x ∈ rfoot b bv ∨ w.heap.size ≤ x

theorem RPost.from {w W w' : World} {b : Nat} {bv : Value} {D : Option Nat} {l' : List Nat} {bh' : List (List Nat)} (k : Kept [] w W) (h : RPost W b bv D l' bh' w') : RPost w b bv D l' bh' w' := by
  obtain ⟨lv', bv', hs', h1, h2, h3⟩ := h
  refine ⟨lv', bv', hs', h1, (k.mono (by simp)).trans h2 (fun x hx => Or.inl hx), fun x hx => ?_⟩
  rcases h3 x hx with h | h
  · exact Or.inl h
  · right; have := k.size; omega

theorem Took.post {w w' : World} {b : Nat} {lv bv : Value} {hs : List Value} {l rest : List Nat} {bh : List (List Nat)} {D : Option Nat} (h : Rf w b lv bv hs l bh D) (ht : Took w b lv bv rest w') : RPost w b bv D rest bh w' := by
  obtain ⟨⟨lv', h1, h2⟩, h3⟩ := ht
  exact ⟨lv', bv, hs, h.step h1 h2 h3, h3.mono (fun x hx => by simp at hx; subst hx; exact Or.inl (by simp [rfoot])), fun x hx => Or.inl hx⟩

set_option maxRecDepth 100000 in
set_option maxHeartbeats 400000 in
theorem back_7 {w : World} {b : Nat} {lv bv : Value} {hs : List Value} {inner rest : List Nat} {bh : List (List Nat)} {D : Option Nat} (t : Th) (h : Rf w b lv bv hs (form inner.length ++ (inner ++ rest)) bh D) (hb : ∀ x ∈ form inner.length ++ (inner ++ rest), x < 256) (h16 : bh.length < 16) (hj : t.k = 7) :
    Calls Try.prog 37 #[t.val, .pointer (some ⟨b, 0, none⟩)] w fun e w' => e = .returned (.bool true) ∧ RPost w b bv D inner (bh ++ [rest]) w' := by
  have HK := fun w => kind_any t w
  rw [show rnd t.kind 9 = 7 from hj] at HK
  clear hj
  obtain ⟨k, n, i, pa, pc, p⟩ := t
  simp only [Th.val, Th.copy] at *
  have hbl := h.rd.bl
  simp only [List.length_append] at hbl
  have HC : Hid (∀ W, Kept [] w W → Calls Try.prog 68 #[.pointer (some ⟨b, 0, none⟩)] W fun e w' => e = .returned (.int .i64 (inner.length : Nat)) ∧ RPost w b bv D inner (bh ++ [rest]) w') := by
    refine hide fun W hW => ?_
    refine (renter_ok (h.kept hW (by simp)) hb h16 inner.length (read_form0 inner.length (inner ++ rest) (by omega)) (by simp) (by simp; omega)).mono ?_
    rintro e w' ⟨rfl, ⟨lv', bv', hs', g1, g2⟩, hk⟩
    rw [List.take_left, List.drop_left] at g1
    refine ⟨rfl, RPost.from hW ⟨lv', bv', hs', g1, hk, fun x hx => ?_⟩⟩
    simp only [rfoot, List.mem_cons, Option.mem_toList] at hx ⊢
    rcases hx with rfl | hx
    · exact Or.inl (Or.inl rfl)
    · rcases g2 with g2 | g2
      · rw [g2] at hx; exact Or.inl (Or.inr hx)
      · exact Or.inr (g2 x hx)
  have hil : inner.length ≤ 140737488355328 := by omega
  clear h hb hbl
  go_enter Try.func37, Try.ntmps37
  go_wp2_with (first | (go_at_call 90; refine (HK _).mono ?_; rintro e w' ⟨rfl, rfl⟩) | (go_at_call 68; refine (unhide HC _ ?_).mono ?_; exact ((Kept.refl [] _).alloc _).alloc _; rintro e w1 ⟨rfl, hp⟩; obtain ⟨lv', bv', hs', hrf, hk, hx⟩ := hp; have HRF := hide hrf; have HX := hide hx; clear hrf hx) | (go_at_call 24; refine (rest_ok (unhide HRF).rd).mono ?_; rintro e w2 ⟨rfl, rfl⟩))
  go_ret
  exact ⟨rfl, lv', bv', hs', unhide HRF, hk, unhide HX⟩

set_option maxRecDepth 100000 in
set_option maxHeartbeats 400000 in
theorem back_8 {w : World} {b : Nat} {lv bv : Value} {hs : List Value} {l' : List Nat} {bh' : List (List Nat)} {D : Option Nat} (t : Th) (h : Rf w b lv bv hs [] (bh' ++ [l']) D) (hj : t.k = 8) :
    Calls Try.prog 37 #[t.val, .pointer (some ⟨b, 0, none⟩)] w fun e w' => e = .returned (.bool true) ∧ RPost w b bv D l' bh' w' := by
  have HK := fun w => kind_any t w
  rw [show rnd t.kind 9 = 8 from hj] at HK
  clear hj
  obtain ⟨k, n, i, pa, pc, p⟩ := t
  simp only [Th.val, Th.copy] at *
  have HC : Hid (∀ W, Kept [] w W → Calls Try.prog 70 #[.pointer (some ⟨b, 0, none⟩)] W fun e w' => e = .returned (.tuple #[]) ∧ RPost w b bv D l' bh' w') := by
    refine hide fun W hW => ?_
    refine (rleave_ok (h.kept hW (by simp)) (by simp)).mono ?_
    rintro e w' ⟨rfl, ⟨lv', bv', hs', g1, g2⟩, hk⟩
    have e1 : (bh' ++ [l']).getD ((bh' ++ [l']).length - 1) [] = l' := by simp [List.getD]
    have e2 : (bh' ++ [l']).dropLast = bh' := by simp
    rw [e1, e2] at g1
    refine ⟨rfl, RPost.from hW ⟨lv', bv', hs', g1, hk.mono (fun x hx => by simp at hx; subst hx; exact Or.inl (by simp [rfoot])), fun x hx => ?_⟩⟩
    simp only [rfoot, g2] at hx ⊢
    exact Or.inl hx
  clear h
  go_enter Try.func37, Try.ntmps37
  go_wp2_with (first | (go_at_call 90; refine (HK _).mono ?_; rintro e w' ⟨rfl, rfl⟩) | (go_at_call 70; refine (unhide HC _ ?_).mono ?_; exact ((Kept.refl [] _).alloc _).alloc _; rintro e w1 ⟨rfl, HP⟩))
  go_ret
  exact ⟨rfl, HP⟩

theorem tback_any {w : World} {b : Nat} {lv bv : Value} {hs : List Value} {l l' : List Nat} {bh bh' : List (List Nat)} {D : Option Nat} (t : Th) (ok : t.ok) (h : Rf w b lv bv hs l bh D) (hb : ∀ x ∈ l, x < 256) (hS : Far w t.pv t.p [b]) (hpl : t.p.length ≤ 1000000000000) (hs' : RStep t l bh l' bh') :
    Calls Try.prog 37 #[t.val, .pointer (some ⟨b, 0, none⟩)] w fun e w' => e = .returned (.bool true) ∧ RPost w b bv D l' bh' w' := by
  rcases hs' with ⟨hk, rfl, rfl⟩ | ⟨hk, h16, rest, rfl, rfl⟩ | ⟨hk, rfl, rfl⟩
  · have hT : Calls Try.prog 37 #[t.val, .pointer (some ⟨b, 0, none⟩)] w fun e w' => e = .returned (.bool true) ∧ Took w b lv bv l' w' := by
      match hj : t.k, hk with
      | 0, _ => exact back_0 t ok h.rd hb hj
      | 1, _ => exact back_1 t ok h.rd hb hj
      | 2, _ => exact back_2 t ok h.rd hb hj
      | 3, _ => exact back_3 t ok h.rd hb hj
      | 4, _ => exact back_4 t ok h.rd hb hj
      | 5, _ => exact back_5 t ok h.rd hb hS hpl hj
      | 6, _ => exact back_6 t ok h.rd hb hS hpl hj
    refine hT.mono ?_
    rintro e w' ⟨rfl, ht⟩
    exact ⟨rfl, ht.post h⟩
  · exact back_7 t h hb h16 hk
  · exact back_8 t h hk
end Go.Proofs.Ytiabhgkndejigaa
