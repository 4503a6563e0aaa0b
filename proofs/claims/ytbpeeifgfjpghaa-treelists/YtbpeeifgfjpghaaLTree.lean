/- Trees in memory, and the calls that ask them. -/
import Derived.Test.YtbpeeifgfjpghaaLFind
import Derived.Test.YtbpeeifgfjpghaaLPut
namespace Go.Proofs.Ytbpeeifgfjpghaa
open Go.RowKit

/-- the tree at q is this one -/
def Tt (w : World) (q : Option Addr) (t : TI) : Prop := (q = none ∧ t = .nil) ∨ ∃ b p, q = some ⟨b, 0, none⟩ ∧ Blk w b #[.pointer p] 90 ∧ Nd w p t
theorem Tt.kept {w w' : World} {t : TI} {q : Option Addr} (h : Tt w q t) (hk : Kept [] w w') : Tt w' q t := by
  rcases h with h | ⟨b, p, h1, h2, h3⟩
  · exact Or.inl h
  · exact Or.inr ⟨b, p, h1, h2.kept hk (by simp), h3.kept hk⟩
theorem Tt.of_nil {w : World} : Tt w none .nil := Or.inl ⟨rfl, rfl⟩
theorem Tt.new {w : World} {p : Option Addr} {t : TI} (h : Nd w p t) : Tt (w.alloc (.cells #[.pointer p] 90)) (some ⟨w.heap.size, 0, none⟩) t :=
  Or.inr ⟨_, p, rfl, Blk.new _ _ _, h.kept ((Kept.refl [] w).alloc _)⟩

set_option maxRecDepth 100000 in
theorem root_any {w : World} {q : Option Addr} {t : TI} (h : Tt w q t) : ∃ p, Nd w p t ∧ ∀ W, Kept [] w W → Calls Try.prog 42 #[.pointer q] W fun e w' => e = .returned (.pointer p) ∧ w' = W := by
  rcases h with ⟨rfl, rfl⟩ | ⟨b, p, rfl, hb, hp⟩
  · refine ⟨none, rfl, fun W hk => ?_⟩
    go_enter Try.func42, Try.ntmps42
    go_wp2
    go_ret
    exact ⟨rfl, rfl⟩
  · refine ⟨p, hp, fun W hk => ?_⟩
    have hc := (hb.kept hk (by simp)).cell 0
    simp only [List.getElem?_toArray, List.getElem?_cons_zero] at hc
    clear hb hp hk
    go_enter Try.func42, Try.ntmps42
    go_wp2
    go_ret
    exact ⟨rfl, rfl⟩

/-- key, value and presence of what was found -/
def fv (o : Option (Int × VT)) : VT := (o.getD (0, (none, 0, 0))).2
set_option maxRecDepth 100000 in
theorem Get_any {w : World} {q : Option Addr} {t : TI} (k : Int) (h : Tt w q t) : Calls Try.prog 18 #[.pointer q, .int .i64 k] w fun e w' => e = .returned (.tuple #[.slice (fv (t.find k)).1 (fv (t.find k)).2.1 (fv (t.find k)).2.2, .bool (t.find k).isSome]) ∧ w' = w := by
  obtain ⟨p, hp, hr⟩ := root_any h
  have HR := hide (hr w (Kept.refl _ _))
  have HC := hide (find_any k hp)
  clear hr hp h
  go_enter Try.func18, Try.ntmps18
  go_wp2_with (first
    | (go_at_call 42; refine (unhide HR).mono ?_; rintro e w3 ⟨rfl, hq⟩; have hq' := hq.symm; subst hq')
    | fail)
  refine (unhide HC).mono ?_
  rintro e w3 ⟨⟨p3, rfl, hf⟩, hq⟩
  have hq' := hq.symm
  subst hq'
  rcases hf with ⟨hf, rfl⟩ | ⟨k', x, hf, b, u1, u2, u3, u4, rfl, hb⟩
  · have HF := hide hf
    clear hf
    go_wp2
    go_ret2
    exact ⟨by rw [unhide HF]; rfl, rfl⟩
  · have HF := hide hf
    obtain ⟨c0, c1, -, -, -, -⟩ := six hb
    clear hb hf
    go_wp2
    go_ret2
    exact ⟨by rw [unhide HF]; rfl, rfl⟩
set_option maxRecDepth 100000 in
set_option maxHeartbeats 1000000 in
theorem Put_any {w : World} {q : Option Addr} {t : TI} (k : Int) (x : VT) (h : Tt w q t) (hz : t.size < 4611686018427384000) :
    Calls Try.prog 17 #[.pointer q, .int .i64 k, .slice x.1 x.2.1 x.2.2] w fun e w' => ∃ q, e = .returned (.pointer q) ∧ Tt w' q (t.put k x) ∧ Kept [] w w' := by
  obtain ⟨p, hp, hr⟩ := root_any h
  have HR := hide hr
  have HC : Hid (∀ W b, Kept [] w W → Blk W b #[.int .i64 k, .slice x.1 x.2.1 x.2.2, .pointer none, .pointer none, .int .i64 0, .int .i64 0] 88 → Made 43 #[.pointer p, .pointer (some ⟨b, 0, none⟩)] W (t.put k x)) := fun W b hk hb => put_at (hp.kept hk) ⟨b, _, _, _, _, rfl, hb⟩ hz
  clear hr hp h hz
  generalize t.put k x = t2 at *
  go_enter Try.func17, Try.ntmps17
  have HC' := hide (unhide HC _ w.heap.size ((Kept.refl [] w).alloc _) (Blk.new w _ _))
  clear HC
  go_wp2_with (first
    | (go_at_call 42; refine (unhide HR _ (Kept.refl _ _)).mono ?_; rintro e w3 ⟨rfl, hq⟩; have hq' := hq.symm; subst hq')
    | (go_at_call 43; refine (unhide HC' _ (Kept.refl _ _)).mono ?_; rintro e w3 ⟨p3, rfl, hn3, hk3⟩; have HN := hide (Tt.new hn3); have HK := hide ((((Kept.refl [] w).alloc _).trans hk3 (by simp)).alloc (.cells #[.pointer p3] 90)); clear hn3 hk3))
  go_ret
  exact ⟨_, rfl, unhide HN, unhide HK⟩
end Go.Proofs.Ytbpeeifgfjpghaa
