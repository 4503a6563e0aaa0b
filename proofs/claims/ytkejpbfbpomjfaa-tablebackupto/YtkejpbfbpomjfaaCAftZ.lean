/- After: how long a table would be. -/
import Derived.Test.YtkejpbfbpomjfaaPkBL
import Derived.Test.YtkejpbfbpomjfaaCCpyZ
namespace Go.Proofs.Ytkejpbfbpomjfaa.tre
open Go.RowKit
set_option linter.unusedVariables false

set_option maxRecDepth 100000 in
set_option maxHeartbeats 2000000 in
theorem After_yes {w : World} {b : Nat} {T : Tb} (h : Tab w b T) (hT : Tok T) {o : Opm} {ks vs : Value} (ho : OpAt w o ks vs) (hkb : ∀ x, w.heap.size ≤ x → Free x ks) (hvb : ∀ x, w.heap.size ≤ x → Free x vs) (hr : rfs T o = 0) :
    Calls Try.prog 24 #[.pointer (some ⟨b, 0, none⟩), opv o ks vs] w fun e w' => e = .returned (.tuple #[.int .i64 (tSz (nxt T o) : Nat), .int .i64 0]) ∧ Kept [] w w' := by
  obtain ⟨hrg, hlt, l1, l2, l3⟩ := right_len hr
  have hN := hT.nxt hr
  have HR : Hid (∀ W, Kept [] w W → _) := hide (fun W (hk : Kept [] w W) => refusal_any (h.kept hk) (ho.kept hk))
  rw [hr] at HR
  have HC := fun W (hk : Kept [] w W) => hide (copy_any (h.kept hk))
  have HD := fun W b2 (hk : Kept [] w W) (hb2 : w.heap.size ≤ b2) (ht : Tab W b2 T) => hide (do_any ht hT (ho.kept hk) (hkb b2 hb2) (hvb b2 hb2) l1 l2 l3 (fun hw => hlt hw hT.rev))
  have HS := fun W b2 (ht : Tab W b2 (nxt T o)) => hide (size_any ht hN.ok hN.rev)
  have HOB := hide (Blk.new w #[.int .i64 o.kind, ks, vs, .int .i64 o.rev] 34)
  have HK0 := hide ((Kept.refl [] w).alloc (.cells #[.int .i64 o.kind, ks, vs, .int .i64 o.rev] 34))
  generalize tSz (nxt T o) = z at *
  unfold opv at *
  clear h hT ho hkb hvb hr hrg hlt l1 l2 l3 hN
  go_enter Try.func24, Try.ntmps24
  go_wp2_with (first
    | (go_at_call 27; refine (unhide HR _ (unhide HK0)).mono ?_; rintro e w3 ⟨rfl, hq⟩
       have HK3 := hide ((unhide HK0).step hq)
       have HO3 := hide ((unhide HOB).kept hq (by simp))
       obtain ⟨o0, o1, o2, o3⟩ := box4 (unhide HO3)
       clear hq HR)
    | (go_at_call 42; refine (unhide (HC _ (unhide HK3))).mono ?_; rintro e w4 ⟨b2, rfl, ht4, hb4, hk4⟩
       have HT4 := hide ht4
       have HK4 := hide ((unhide HK3).step hk4)
       have HB4 : Hid (w.heap.size ≤ b2) := Nat.le_trans (unhide HK3).size hb4
       have HO4 := hide ((unhide HO3).kept hk4 (by simp))
       obtain ⟨o0, o1, o2, o3⟩ := box4 (unhide HO4)
       clear ht4 hb4 hk4 HC)
    | (go_at_call 28; refine (unhide (HD _ _ (unhide HK4) (unhide HB4) (unhide HT4))).mono ?_; rintro e w5 ⟨kv, vv, rfl, n1, n2, n3, n4⟩
       have HT5 := hide n3
       have HK5 := hide ((unhide HK4).trans n4 (fun y hy => by simp at hy; subst hy; exact Or.inr (unhide HB4)))
       clear n1 n2 n3 n4 HD)
    | (go_at_call 23; refine (unhide (HS _ _ (unhide HT5))).mono ?_; rintro e w6 ⟨rfl, hq⟩
       have HK6 := hide ((unhide HK5).step hq)
       clear hq HS)
    | fail)
  all_goals
    go_ret2
    exact ⟨rfl, unhide HK6⟩
set_option maxRecDepth 100000 in
set_option maxHeartbeats 1000000 in
theorem After_no {w : World} {b : Nat} {T : Tb} (h : Tab w b T) {o : Opm} {ks vs : Value} (ho : OpAt w o ks vs) (hr : rfs T o ≠ 0) :
    Calls Try.prog 24 #[.pointer (some ⟨b, 0, none⟩), opv o ks vs] w fun e w' => e = .returned (.tuple #[.int .i64 0, .int .i64 (rfs T o)]) ∧ Kept [] w w' := by
  have HR : Hid (∀ W, Kept [] w W → _) := hide (fun W (hk : Kept [] w W) => refusal_any (h.kept hk) (ho.kept hk))
  have HK0 := hide ((Kept.refl [] w).alloc (.cells #[.int .i64 o.kind, ks, vs, .int .i64 o.rev] 34))
  have hrb : (rfs T o == 0) = false := by simp; exact hr
  generalize rfs T o = R at *
  unfold opv at *
  clear h ho hr
  go_enter Try.func24, Try.ntmps24
  go_wp2_with (first
    | (go_at_call 27; refine (unhide HR _ (unhide HK0)).mono ?_; rintro e w3 ⟨rfl, hq⟩
       have HK3 := hide ((unhide HK0).step hq)
       clear hq HR)
    | fail)
  go_ret2
  exact ⟨rfl, unhide HK3⟩
end Go.Proofs.Ytkejpbfbpomjfaa.tre
