/- A reader that is in no frame (table): its calls write its own block alone. -/
import Derived.Test.YtkejpbfbpomjfabPkBI
namespace Go.Proofs.Ytkejpbfbpomjfab
open Go.RowKit

def RsQ (w : World) (b : Nat) (F : List Nat) (s' : RS) (w' : World) : Prop := ∃ F', Rs w' b F' s' ∧ Kept [b] w w' ∧ ∀ x ∈ F', x ∈ F
theorem RsQ.from {w W w' : World} {b : Nat} {F : List Nat} {s' : RS} (k : Kept [] w W) (h : RsQ W b F s' w') : RsQ w b F s' w' := by
  obtain ⟨F', h1, h2, h3⟩ := h
  exact ⟨F', h1, (k.mono (by simp)).trans h2 (fun x hx => Or.inl hx), h3⟩
theorem RsQ.same {w w' : World} {b : Nat} {F : List Nat} {s : RS} (h : Rs w b F s) (k : Kept [] w w') : RsQ w b F s w' := ⟨F, h.kept k (by simp), k.mono (by simp), fun _ hx => hx⟩
theorem RsQ.err {w w' : World} {b c : Nat} {F : List Nat} (hb : b ∈ F) (hc : c ≠ 0) (h : RdF w' b c) (k : Kept [b] w w') : RsQ w b F (rF c) w' :=
  ⟨[b], Or.inl ⟨hc, h, rfl, rfl, rfl⟩, k, fun x hx => by simp at hx; subst hx; exact hb⟩
theorem RsQ.took {w w' : World} {b : Nat} {lv bv : Value} {hs : List Value} {l l' : List Nat} {bh : List (List Nat)} {D : Option Nat} (h : Rf w b lv bv hs l bh D) (hr : ∃ lv', Rd w' b lv' bv l' ∧ lv'.ownBlock = lv.ownBlock) (hk : Kept [b] w w') (h1 : ∀ x ∈ l', x < 256) (h2 : ∀ r ∈ bh, ∀ x ∈ r, x < 256) : RsQ w b (D.toList ++ rfoot b bv) ⟨0, l', bh⟩ w' := by
  obtain ⟨lv', r1, r2⟩ := hr
  exact ⟨_, Or.inr ⟨rfl, h1, h2, lv', bv, hs, D, h.step r1 r2 hk, rfl⟩, hk, fun _ hx => hx⟩

theorem rnum_q {w : World} {b : Nat} {F : List Nat} {s : RS} (h : Rs w b F s) :
    Calls Try.prog 31 #[.pointer (some ⟨b, 0, none⟩)] w fun e w' => e = .returned (.int .u64 ((rNum s).2 : Nat)) ∧ RsQ w b F (rNum s).1 w' := by
  have h0 := h
  rcases h with ⟨h1, h2, _, _, rfl⟩ | ⟨h1, h3, h4, lv, bv, hs, D, h2, rfl⟩
  · refine (rnum_fault h2 h1).mono ?_
    rintro e w' ⟨rfl, hk⟩
    rw [rNum, if_pos h1]
    exact ⟨rfl, RsQ.same h0 hk⟩
  · rw [rNum, if_neg (by simpa using h1)]
    cases hr : readNum 0 0 s.left with
    | inl c =>
      refine (rnum_err h2.rd h3 hr).mono ?_
      rintro e w' ⟨rfl, g1, hk⟩
      exact ⟨rfl, RsQ.err h0.mem (by rcases readNum_code _ _ _ hr with rfl | rfl <;> omega) g1 hk⟩
    | inr p =>
      obtain ⟨n, r⟩ := p
      refine (rnum_ok h2.rd h3 hr).mono ?_
      rintro e w' ⟨rfl, g1, hk⟩
      exact ⟨rfl, RsQ.took h2 g1 hk (readNum_lt _ 0 0 (by omega) (by simp) h3 hr).2.1 h4⟩

theorem rtext_q {w : World} {b : Nat} {F : List Nat} {s : RS} (h : Rs w b F s) (most : Int) (hm9 : most ≤ 9223372036854775807) :
    Calls Try.prog 50 #[.pointer (some ⟨b, 0, none⟩), .int .i64 most] w fun e w' => NewB w (rText s most).2 e w' ∧ RsQ w b F (rText s most).1 w' := by
  have h0 := h
  rcases h with ⟨h1, h2, _, _, rfl⟩ | ⟨h1, h3, h4, lv, bv, hs, D, h2, rfl⟩
  · refine (rtext_fault h2 h1 most).mono ?_
    rintro e w' ⟨rfl, hk⟩
    rw [rText, if_pos h1]
    exact ⟨NewB.nil _ _, RsQ.same h0 hk⟩
  · rw [rText, if_neg (by simpa using h1)]
    cases hr : readNum 0 0 s.left with
    | inl c =>
      refine (rtext_err h2.rd h3 most hm9 c (Or.inl hr)).mono ?_
      rintro e w' ⟨rfl, g1, hk⟩
      exact ⟨NewB.nil _ _, RsQ.err h0.mem (by rcases readNum_code _ _ _ hr with rfl | rfl <;> omega) g1 hk⟩
    | inr p =>
      obtain ⟨n, r⟩ := p
      simp only
      by_cases ha : most.toNat < n
      · rw [if_pos ha]
        refine (rtext_err h2.rd h3 most hm9 11 (Or.inr ⟨n, r, hr, Or.inl ⟨ha, rfl⟩⟩)).mono ?_
        rintro e w' ⟨rfl, g1, hk⟩
        exact ⟨NewB.nil _ _, RsQ.err h0.mem (by omega) g1 hk⟩
      · rw [if_neg ha]
        by_cases hl : r.length < n
        · rw [if_pos hl]
          refine (rtext_err h2.rd h3 most hm9 10 (Or.inr ⟨n, r, hr, Or.inr ⟨by omega, hl, rfl⟩⟩)).mono ?_
          rintro e w' ⟨rfl, g1, hk⟩
          exact ⟨NewB.nil _ _, RsQ.err h0.mem (by omega) g1 hk⟩
        · rw [if_neg hl]
          have htl : (r.take n).length = n := by simp; omega
          refine (rtext_ok h2.rd h3 n most hm9 hr (by omega) (by omega)).mono ?_
          rintro e w' ⟨a, cap, rfl, ho, hrd, hk⟩
          refine ⟨⟨a, cap, ?_, ?_⟩, RsQ.took h2 hrd hk (fun y hy => (readNum_lt _ 0 0 (by omega) (by simp) h3 hr).2.1 y (List.mem_of_mem_drop hy)) h4⟩
          · show Ending.returned (.slice a n cap) = .returned (.slice a (r.take n).length cap)
            rw [htl]
          · show w'.ownsRow w.heap.size 5 1 (.slice a (r.take n).length cap) (r.take n).length (u8s (r.take n))
            rw [htl] at ho ⊢
            exact ho
set_option maxRecDepth 100000 in
set_option maxHeartbeats 400000 in
theorem clone_wide {w : World} {x : Value} {bs : List Nat} (h : Wide w x bs) (hl : bs.length ≤ 140737488355328) :
    Calls Try.prog 46 #[x] w fun e w' => ∃ a cap, e = .returned (.slice a bs.length cap) ∧ w'.ownsRow w.heap.size 5 1 (.slice a bs.length cap) bs.length (u8s bs) ∧ Kept [] w w' := by
  rcases h with h | ⟨a0, rfl, rfl⟩
  · exact clone_any h hl
  · obtain ⟨i0, hi, hz0, hz1, hz2⟩ := info_parts Try.info5
    have e0 := fun (a : Option Addr) (n c : Nat) (w : World) => Lib.run_eql_slice_nil (P := Try.prog) w 22 5 a n c 0 0 Try.underlying22
    have hs : Wide (w.alloc (.cells #[] 5)) (.slice (some a0) 0 0) [] := Or.inr ⟨a0, rfl, rfl⟩
    clear hl
    go_enter Try.func46, Try.ntmps46
    go_wp2_with (at_builtin; refine wpList_append_wide _ rfl _ _ 22 rfl w.heap.size 5 i0 (.int .u8 0) Try.underlying22 hi hz0 hz1 hz2 rfl _ [] rfl (World.ownsRow_made w #[] 0 (Nat.le_refl _) (Nat.zero_le _) rfl) _ [] rfl hs ?c1 ?c2 ?_)
    case c1 => simp
    case c2 => simp
    intro v' w1 hown hg hat
    obtain ⟨a, c, hv⟩ := own_len hown
    subst hv
    go_wp2
    go_ret
    exact ⟨a, c, rfl, by simpa using hown, ((Kept.refl [] w).alloc _).grown hg (fun k hk => by simp [Value.ownBlock] at hk; right; omega)⟩

set_option maxRecDepth 100000 in
set_option maxHeartbeats 400000 in
theorem read_w {w : World} {x : Value} {bs : List Nat} (h : Wide w x bs) (hl : bs.length ≤ 140737488355328) (hb : ∀ x ∈ bs, x < 256) :
    Calls Try.prog 30 #[x] w fun e w' => ∃ b F, e = .returned (.pointer (some ⟨b, 0, none⟩)) ∧ Rs w' b F ⟨0, bs, []⟩ ∧ (∀ x ∈ F, w.heap.size ≤ x) ∧ Kept [] w w' := by
  have HC := hide (clone_wide h hl)
  have HB := hide hb
  clear h hb
  go_enter Try.func30, Try.ntmps30
  go_wp2_with (first | (go_at_call 46; refine (unhide HC).mono ?_; rintro e w1 ⟨ca, cc, rfl, hfo, hk1⟩))
  go_ret
  have hks := hk1.size
  have hr : Rd (w1.alloc (.cells #[.slice ca bs.length cc, .slice none 0 0, .int .i64 0] 84)) w1.heap.size (.slice ca bs.length cc) nilS bs :=
    ⟨Blk.new _ _ _, sees_alloc _ (Sees.of_own hfo), fun e => by have := (hfo.lt _ e).2; omega, hl⟩
  refine ⟨w1.heap.size, _, rfl, Or.inr ⟨rfl, unhide HB, by simp, _, nilS, [], _, Rf.new hr, rfl⟩, fun x hx => ?_, hk1.alloc _⟩
  simp only [rfoot, nilS, List.mem_append, List.mem_cons, Option.mem_toList] at hx
  rcases hx with hx | rfl | hx
  · exact (hfo.lt x hx).1
  · exact hks
  · cases hx
end Go.Proofs.Ytkejpbfbpomjfab
