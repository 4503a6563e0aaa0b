/- Rows of the law held against each other; a table's revision. -/
import Derived.Test.YtkejpbfbpomjfabCAwkZ
import Derived.Test.YtkejpbfbpomjfabPkBL
namespace Go.Proofs.Ytkejpbfbpomjfab.tre
open Go.RowKit

theorem add_none2 (b off j : Nat) : (⟨b, off, none⟩ : Addr).add j = ⟨b, off + j, none⟩ := by unfold Addr.add; split <;> simp_all

set_option maxRecDepth 100000 in
theorem trev_any {w : World} {b : Nat} {T : Tb} (h : Tab w b T) : Calls Try.prog 10 #[.pointer (some ⟨b, 0, none⟩)] w fun e w' => e = .returned (.int .i64 (T.rev : Int)) ∧ w' = w := by
  obtain ⟨q, hb, ht⟩ := h
  obtain ⟨c0, c1, c2⟩ := box3 hb
  clear hb ht
  generalize (T.rev : Int) = rv at *
  go_enter Try.func10, Try.ntmps10
  go_wp2_with fail
  go_ret
  exact ⟨rfl, rfl⟩
set_option maxRecDepth 100000 in
set_option maxHeartbeats 1000000 in
theorem sameRow_any {w : World} {k1 v1 k2 v2 : Value} {a b c d : List Nat} (r1 r2 : Int) (h1 : Wide w k1 a) (h2 : Wide w v1 b) (h3 : Wide w k2 c) (h4 : Wide w v2 d) (la : a.length ≤ 140737488355328) (lb : b.length ≤ 140737488355328) :
    Calls Try.prog 21 #[.agg #[k1, v1, .int .i64 r1], .agg #[k2, v2, .int .i64 r2]] w fun e w' => e = .returned (.bool (decide (a = c ∧ b = d ∧ r1 = r2))) ∧ Kept [] w w' := by
  have HS1 : Hid (∀ W, Kept [] w W → _) := hide (fun W (hk : Kept [] w W) => same_full (h1.kept hk) (h3.kept hk) la)
  have HS2 : Hid (∀ W, Kept [] w W → _) := hide (fun W (hk : Kept [] w W) => same_full (h2.kept hk) (h4.kept hk) lb)
  obtain ⟨xa, xc, rfl⟩ := wide_len h1
  obtain ⟨ya, yc, rfl⟩ := wide_len h2
  obtain ⟨za, zc, rfl⟩ := wide_len h3
  obtain ⟨ua, uc, rfl⟩ := wide_len h4
  clear h1 h2 h3 h4
  have HB1 : Hid (Blk ((w.alloc (.cells #[.slice xa a.length xc, .slice ya b.length yc, .int .i64 r1] 32)).alloc (.cells #[.slice za c.length zc, .slice ua d.length uc, .int .i64 r2] 32)) w.heap.size #[.slice xa a.length xc, .slice ya b.length yc, .int .i64 r1] 32) := hide ((Blk.new w _ _).alloc _)
  have HB2 : Hid (Blk ((w.alloc (.cells #[.slice xa a.length xc, .slice ya b.length yc, .int .i64 r1] 32)).alloc (.cells #[.slice za c.length zc, .slice ua d.length uc, .int .i64 r2] 32)) (w.heap.size + 1) #[.slice za c.length zc, .slice ua d.length uc, .int .i64 r2] 32) := hide (new2 w _ _ _)
  generalize hac : decide (a = c) = ac at HS1
  generalize hbd : decide (b = d) = bd at HS2
  have hres : decide (a = c ∧ b = d ∧ r1 = r2) = (ac && (bd && decide (r1 = r2))) := by rw [← hac, ← hbd]; simp [Bool.decide_and]
  rw [hres]
  clear hres hac hbd
  generalize a.length = la' at *
  generalize b.length = lb' at *
  generalize c.length = lc' at *
  generalize d.length = ld' at *
  cases ac
  · go_enter Try.func21, Try.ntmps21
    go_wp2_with (first
      | (go_at_call 12; refine (unhide HS1 _ (((Kept.refl [] w).alloc _).alloc _)).mono ?_; rintro e w1 ⟨rfl, hk1⟩
         have HK1 := hide ((((Kept.refl [] w).alloc _).alloc _).step hk1)
         clear hk1 HS1))
    go_ret
    exact ⟨rfl, unhide HK1⟩
  · cases bd
    · go_enter Try.func21, Try.ntmps21
      go_wp2_with (first
        | (go_at_call 12; refine (unhide HS1 _ (((Kept.refl [] w).alloc _).alloc _)).mono ?_; rintro e w1 ⟨rfl, hk1⟩
           have HK1 := hide ((((Kept.refl [] w).alloc _).alloc _).step hk1)
           obtain ⟨p0, p1, p2⟩ := box3 ((unhide HB1).kept hk1 (by simp))
           obtain ⟨q0, q1, q2⟩ := box3 ((unhide HB2).kept hk1 (by simp))
           clear hk1 HS1)
        | (go_at_call 12; refine (unhide HS2 _ (unhide HK1)).mono ?_; rintro e w2 ⟨rfl, hk2⟩
           have HK2 := hide ((unhide HK1).step hk2)
           clear hk2 HS2))
      go_ret
      exact ⟨rfl, unhide HK2⟩
    · go_enter Try.func21, Try.ntmps21
      go_wp2_with (first
        | (go_at_call 12; refine (unhide HS1 _ (((Kept.refl [] w).alloc _).alloc _)).mono ?_; rintro e w1 ⟨rfl, hk1⟩
           have HK1 := hide ((((Kept.refl [] w).alloc _).alloc _).step hk1)
           have HB3 := hide ((unhide HB1).kept hk1 (by simp))
           have HB4 := hide ((unhide HB2).kept hk1 (by simp))
           obtain ⟨p0, p1, p2⟩ := box3 (unhide HB3)
           obtain ⟨q0, q1, q2⟩ := box3 (unhide HB4)
           clear hk1 HS1)
        | (go_at_call 12; refine (unhide HS2 _ (unhide HK1)).mono ?_; rintro e w2 ⟨rfl, hk2⟩
           have HK2 := hide ((unhide HK1).step hk2)
           obtain ⟨s0, s1, s2⟩ := box3 ((unhide HB3).kept hk2 (by simp))
           obtain ⟨t0, t1, t2⟩ := box3 ((unhide HB4).kept hk2 (by simp))
           clear hk2 HS2))
      go_ret
      refine ⟨ret_bool ?_, unhide HK2⟩
      rw [Bool.eq_iff_iff]
      simp
theorem flatR_get : ∀ {l : List Re} {k j : Nat} {e : Re}, l[k]? = some e → j < 3 → (flatR l)[k * 3 + j]? = (rec3 e)[j]?
  | x :: l, 0, j, e, h, hj => by
    simp at h
    subst h
    have hf : flatR (x :: l) = rec3 x ++ flatR l := rfl
    rw [hf, Nat.zero_mul, Nat.zero_add, List.getElem?_append_left (by simp [rec3]; omega)]
  | x :: l, k + 1, j, e, h, hj => by
    have hf : flatR (x :: l) = rec3 x ++ flatR l := rfl
    have hl : (rec3 x).length = 3 := rfl
    rw [hf, List.getElem?_append_right (by rw [hl]; omega), hl, show (k + 1) * 3 + j - 3 = k * 3 + j by omega]
    exact flatR_get (by simpa using h) hj
theorem rrow_at {X : World} {B n : Nat} {qa : Option Addr} {N qc : Nat} {R : List Re} (h : X.ownsRow B 32 3 (.slice qa N qc) n (flatR R)) {r : Nat} {a : Re} (hr : R[r]? = some a) : ∃ g, qa = some ⟨g, 0, none⟩ ∧ X.cell? ⟨g, r * 3, none⟩ = some a.ks ∧ X.cell? ⟨g, r * 3 + 1, none⟩ = some a.vs ∧ X.cell? ⟨g, r * 3 + 2, none⟩ = some (.int .i64 a.e.2.2) := by
  have hfl : (flatR R)[r * 3 + 0]? = some a.ks := by rw [flatR_get hr (by omega)]; rfl
  rcases h.2 with ⟨e1, h0⟩ | ⟨g, cap, cur, e1, hb, hh, _⟩
  · exfalso
    have hlen := h.1
    rw [h0] at hlen
    simp at hlen
    rw [hlen] at hfl
    cases hfl
  · cases e1
    have hc : ∀ j u, j < 3 → (rec3 a)[j]? = some u → X.cell? ⟨g, r * 3 + j, none⟩ = some u := fun j u hj hu => by
      have := h.cells (g := g) rfl (r * 3 + j) u (by rw [flatR_get hr hj]; exact hu)
      rw [add_none2] at this
      simpa using this
    exact ⟨g, rfl, hc 0 _ (by omega) rfl, hc 1 _ (by omega) rfl, hc 2 _ (by omega) rfl⟩
end Go.Proofs.Ytkejpbfbpomjfab.tre
