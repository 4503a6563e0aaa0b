/- Trees in memory, and the calls that ask them. -/
import Derived.Test.YtbpeeifgfjpghaaTFind
import Derived.Test.YtbpeeifgfjpghaaTWith
import Derived.Test.YtbpeeifgfjpghaaTSplit
namespace Go.Proofs.Ytbpeeifgfjpghaa
open Go.RowKit

/-- the tree at q is this one -/
def Tt (w : World) (q : Option Addr) (t : TI) : Prop := (q = none ∧ t = .nil) ∨ ∃ b p, q = some ⟨b, 0, none⟩ ∧ Blk w b #[.pointer p] 102 ∧ Nd w p t
theorem Tt.kept {w w' : World} {t : TI} {q : Option Addr} (h : Tt w q t) (hk : Kept [] w w') : Tt w' q t := by
  rcases h with h | ⟨b, p, h1, h2, h3⟩
  · exact Or.inl h
  · exact Or.inr ⟨b, p, h1, h2.kept hk (by simp), h3.kept hk⟩
theorem Tt.of_nil {w : World} : Tt w none .nil := Or.inl ⟨rfl, rfl⟩
theorem Tt.new {w : World} {p : Option Addr} {t : TI} (h : Nd w p t) : Tt (w.alloc (.cells #[.pointer p] 102)) (some ⟨w.heap.size, 0, none⟩) t :=
  Or.inr ⟨_, p, rfl, Blk.new _ _ _, h.kept ((Kept.refl [] w).alloc _)⟩

set_option maxRecDepth 100000 in
theorem root_any {w : World} {q : Option Addr} {t : TI} (h : Tt w q t) : ∃ p, Nd w p t ∧ ∀ W, Kept [] w W → Calls Try.prog 49 #[.pointer q] W fun e w' => e = .returned (.pointer p) ∧ w' = W := by
  rcases h with ⟨rfl, rfl⟩ | ⟨b, p, rfl, hb, hp⟩
  · refine ⟨none, rfl, fun W hk => ?_⟩
    go_enter Try.func49, Try.ntmps49
    go_wp2
    go_ret
    exact ⟨rfl, rfl⟩
  · refine ⟨p, hp, fun W hk => ?_⟩
    have hc := (hb.kept hk (by simp)).cell 0
    simp only [List.getElem?_toArray, List.getElem?_cons_zero] at hc
    clear hb hp hk
    go_enter Try.func49, Try.ntmps49
    go_wp2
    go_ret
    exact ⟨rfl, rfl⟩

set_option maxRecDepth 100000 in
theorem Len_any {w : World} {q : Option Addr} {t : TI} (h : Tt w q t) : Calls Try.prog 25 #[.pointer q] w fun e w' => e = .returned (.int .i64 (t.size : Nat)) ∧ w' = w := by
  obtain ⟨p, hp, hr⟩ := root_any h
  have HR := hide (hr w (Kept.refl _ _))
  have HC := hide (count_any hp)
  clear hr hp h
  go_enter Try.func25, Try.ntmps25
  go_wp2_with (first
    | (go_at_call 49; refine (unhide HR).mono ?_; rintro e w3 ⟨rfl, hq⟩; have hq' := hq.symm; subst hq')
    | (go_at_call 54; refine (unhide HC).mono ?_; rintro e w3 ⟨rfl, hq⟩; have hq' := hq.symm; subst hq'))
  go_ret
  exact ⟨rfl, rfl⟩
set_option maxRecDepth 100000 in
theorem Depth_any {w : World} {q : Option Addr} {t : TI} (h : Tt w q t) : Calls Try.prog 28 #[.pointer q] w fun e w' => e = .returned (.int .i64 (t.depth : Nat)) ∧ w' = w := by
  obtain ⟨p, hp, hr⟩ := root_any h
  have HR := hide (hr w (Kept.refl _ _))
  have HC := hide (deep_any hp)
  clear hr hp h
  go_enter Try.func28, Try.ntmps28
  go_wp2_with (first
    | (go_at_call 49; refine (unhide HR).mono ?_; rintro e w3 ⟨rfl, hq⟩; have hq' := hq.symm; subst hq')
    | (go_at_call 56; refine (unhide HC).mono ?_; rintro e w3 ⟨rfl, hq⟩; have hq' := hq.symm; subst hq'))
  go_ret
  exact ⟨rfl, rfl⟩
set_option maxRecDepth 100000 in
theorem Rank_any {w : World} {q : Option Addr} {t : TI} (k : Int) (h : Tt w q t) (hz : t.size < 4611686018427384000) : Calls Try.prog 48 #[.pointer q, .int .i64 k] w fun e w' => e = .returned (.int .i64 (t.rank k : Nat)) ∧ w' = w := by
  obtain ⟨p, hp, hr⟩ := root_any h
  have HR := hide (hr w (Kept.refl _ _))
  have HC := hide (rank_any k hp (by omega))
  clear hr hp h
  go_enter Try.func48, Try.ntmps48
  go_wp2_with (first
    | (go_at_call 49; refine (unhide HR).mono ?_; rintro e w3 ⟨rfl, hq⟩; have hq' := hq.symm; subst hq')
    | (go_at_call 90; refine (unhide HC).mono ?_; rintro e w3 ⟨rfl, hq⟩; have hq' := hq.symm; subst hq'))
  go_ret
  exact ⟨rfl, rfl⟩

/-- key, value and presence of what was found -/
def fk (o : Option (Int × Int)) : Int := (o.getD (0, 0)).1
def fv (o : Option (Int × Int)) : Int := (o.getD (0, 0)).2
set_option maxRecDepth 100000 in
theorem Get_any {w : World} {q : Option Addr} {t : TI} (k : Int) (h : Tt w q t) : Calls Try.prog 46 #[.pointer q, .int .i64 k] w fun e w' => e = .returned (.tuple #[.int .i64 (fv (t.find k)), .bool (t.find k).isSome]) ∧ w' = w := by
  obtain ⟨p, hp, hr⟩ := root_any h
  have HR := hide (hr w (Kept.refl _ _))
  have HC := hide (find_any k hp)
  clear hr hp h
  go_enter Try.func46, Try.ntmps46
  go_wp2_with (first
    | (go_at_call 49; refine (unhide HR).mono ?_; rintro e w3 ⟨rfl, hq⟩; have hq' := hq.symm; subst hq')
    | fail)
  refine (unhide HC).mono ?_
  rintro e w3 ⟨⟨p3, rfl, hf⟩, hq⟩
  have hq' := hq.symm
  subst hq'
  rcases hf with ⟨hf, rfl⟩ | ⟨k', x, hf, b, u1, u2, u3, u4, rfl, hb⟩
  · have HF := hide hf
    clear hf
    go_wp2
    go_ret2
    exact ⟨by rw [unhide HF]; rfl, rfl⟩
  · have HF := hide hf
    obtain ⟨c0, c1, -, -, -, -⟩ := six hb
    clear hb hf
    go_wp2
    go_ret2
    exact ⟨by rw [unhide HF]; rfl, rfl⟩
set_option maxRecDepth 100000 in
theorem At_any {w : World} {q : Option Addr} {t : TI} (i : Int) (h : Tt w q t) (hz : t.size < 4611686018427384000) (hi : -9223372036854775808 ≤ i ∧ i ≤ 9223372036854775807) :
    Calls Try.prog 64 #[.pointer q, .int .i64 i] w fun e w' => e = .returned (.tuple #[.int .i64 (fk (t.at' i)), .int .i64 (fv (t.at' i)), .bool (t.at' i).isSome]) ∧ Kept [] w w' := by
  obtain ⟨p, hp, hr⟩ := root_any h
  have HR := hide (hr w (Kept.refl _ _))
  have HC := hide (at_any i hp (by omega) hi)
  clear hr hp h
  go_enter Try.func64, Try.ntmps64
  go_wp2_with (first
    | (go_at_call 49; refine (unhide HR).mono ?_; rintro e w3 ⟨rfl, hq⟩; have hq' := hq.symm; subst hq')
    | fail)
  refine (unhide HC).mono ?_
  rintro e w3 ⟨⟨p3, rfl, hf⟩, hq⟩
  have hq' := hq.symm
  subst hq'
  rcases hf with ⟨hf, rfl⟩ | ⟨k', x, hf, b, u1, u2, u3, u4, rfl, hb⟩
  · have HF := hide hf
    clear hf
    go_wp2
    go_ret3
    exact ⟨by rw [unhide HF]; rfl, Kept.refl _ _⟩
  · have HF := hide hf
    obtain ⟨c0, c1, -, -, -, -⟩ := six hb
    clear hb hf
    go_wp2_with fail
    go_region_held3 (fun w' => w'.cell? ⟨b, 0, none⟩ = some (.int .i64 k') ∧ w'.cell? ⟨b, 1, none⟩ = some (.int .i64 x)) (go_keep) (fail)
    all_goals go_wp2
    all_goals
      go_ret3
      exact ⟨by rw [unhide HF]; rfl, (Kept.refl _ _).drew⟩
set_option maxRecDepth 100000 in
theorem Seek_any {w : World} {q : Option Addr} {t : TI} (k : Int) (h : Tt w q t) (hz : t.size < 4611686018427384000) :
    Calls Try.prog 47 #[.pointer q, .int .i64 k] w fun e w' => e = .returned (.tuple #[.int .i64 (fk (t.at' (t.rank k : Nat))), .int .i64 (fv (t.at' (t.rank k : Nat))), .bool (t.at' (t.rank k : Nat)).isSome]) ∧ Kept [] w w' := by
  have s1 := t.rank_size k
  have HR := hide (Rank_any k h hz)
  have HC := hide (At_any ((t.rank k : Nat) : Int) h hz (by omega))
  clear h s1
  generalize ((t.rank k : Nat) : Int) = rk at *
  generalize fk (t.at' rk) = a1 at *
  generalize fv (t.at' rk) = a2 at *
  generalize (t.at' rk).isSome = a3 at *
  go_enter Try.func47, Try.ntmps47
  go_wp2_with (first
    | (go_at_call 48; refine (unhide HR).mono ?_; rintro e w3 ⟨rfl, hq⟩; have hq' := hq.symm; subst hq')
    | (go_at_call 64; refine (unhide HC).mono ?_; rintro e w3 ⟨rfl, hq⟩; have HQ := hide hq; clear hq))
  go_ret3
  exact ⟨rfl, unhide HQ⟩
set_option maxRecDepth 100000 in
theorem New_any {w : World} : Calls Try.prog 31 #[] w fun e w' => ∃ q, e = .returned (.pointer q) ∧ Tt w' q .nil ∧ Kept [] w w' := by
  have HN := hide (Tt.new (w := w) Nd.of_nil)
  go_enter Try.func31, Try.ntmps31
  go_wp2
  go_ret
  exact ⟨_, rfl, unhide HN, (Kept.refl _ _).alloc _⟩
end Go.Proofs.Ytbpeeifgfjpghaa
