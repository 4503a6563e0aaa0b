/- The document's disk: Image, New, Load, carry. -/
import Derived.Test.YtfaoblnghkiibaaQRef
import Derived.Test.YtfaoblnghkiibaaQLoad
import Derived.Deep.OwnRows
namespace Go.Proofs.Ytfaoblnghkiibaa
open Go.RowKit

set_option maxRecDepth 100000 in
theorem rnimage (w : World) : Calls Try.prog 37 #[.pointer none] w fun e w' => e = .returned (.slice none 0 0) ∧ w' = w := by
  go_enter Try.func37, Try.ntmps37
  go_wp2
  go_ret
  exact ⟨rfl, rfl⟩
set_option maxRecDepth 100000 in
theorem rimage_any {w : World} {m : Nat} {G : List Nat} {d : Dm} (h : Rk w m G d) :
    Calls Try.prog 37 #[.pointer (some ⟨m, 0, none⟩)] w fun e w' => ∃ a cap, e = .returned (.slice a (64 * d.n) cap) ∧ w'.ownsRow w.heap.size 5 1 (.slice a (64 * d.n) cap) (64 * d.n) (u8s d.safe) ∧ Kept [] w w' := by
  obtain ⟨sb, sc, pa, pc, vs, h, -⟩ := h
  obtain ⟨c0, -, -, -, -⟩ := rp_cells h
  have hlen := h.ok.len
  have hn := h.ok.most
  have HC := hide (copied_any (sees_image h.safe h.ok.byte) (by omega))
  rw [hlen] at HC
  clear h hlen
  go_enter Try.func37, Try.ntmps37
  go_wp2_with (first | (go_at_call 30; refine (unhide HC).mono ?_; rintro e w2 ⟨a, cap, rfl, ho, hk⟩; have HO := hide ho; have HK := hide hk; clear HC ho hk))
  go_ret
  exact ⟨a, cap, rfl, unhide HO, unhide HK⟩

theorem own_base {w : World} {base n : Nat} {e : TypeId} {s : Nat} {v : Value} {xs : List Value} (h : w.ownsRow base e s v n xs) : w.ownsRow 0 e s v n xs := by
  refine ⟨h.1, ?_⟩
  rcases h.2 with h2 | ⟨g, cap, cur, hv, hg, r⟩
  · exact Or.inl h2
  · exact Or.inr ⟨g, cap, cur, hv, Nat.zero_le _, r⟩
theorem made5 (N : Nat) : madeCells #[Value.int .u8 0] N = (u8s (List.replicate N 0)).toArray := by
  apply Array.ext_getElem?
  intro i
  by_cases hi : i < N
  · have e1 : (u8s (List.replicate N 0)).toArray[i]? = some (.int .u8 0) := by
      simp only [u8s, List.getElem?_toArray, List.getElem?_map, List.getElem?_replicate, if_pos hi]; rfl
    rw [e1]
    simp [madeCells, hi, Nat.mod_one]
  · rw [Array.getElem?_eq_none (by rw [size_madeCells]; omega), Array.getElem?_eq_none (by simp [u8s_length]; omega)]

theorem rk_fresh {w : World} {m sb sc n : Nat} {s : List Nat} (ok : (fresh n s).ok) (hm : Blk w m (rcells sb sc n (.slice none 0 0) none 0 0) 73) (hs : w.ownsRow 0 5 1 (.slice (some ⟨sb, 0, none⟩) (64 * n) sc) (64 * n) (u8s s)) (hms : m ≠ sb) : Rk w m [m, sb] (fresh n s) :=
  ⟨sb, sc, none, 0, [], ⟨ok, hm, hs, rfl, ⟨rfl, Or.inl ⟨rfl, rfl⟩⟩, fun j v x h1 => by simp at h1, hms, fun p hp => (by cases hp)⟩, by simp, by simp, fun p hp => (by cases hp), fun v hv => by simp at hv, fun x hx => by
    simp at hx
    rcases hx with rfl | rfl
    · exact hm.lt
    · exact (hs.lt x rfl).2⟩

set_option maxRecDepth 100000 in
theorem rnew_no {w : World} {x : Int} (hx : x < 1 ∨ 65536 < x) : Calls Try.prog 11 #[.int .i64 x] w fun e w' => e = .returned (.tuple #[.pointer none, .int .i64 2]) ∧ w' = w := by
  by_cases h1 : x < 1
  · have t1 : (x < 1) = True := by simp; omega
    clear hx h1
    go_enter Try.func11, Try.ntmps11
    go_wp2
    go_ret2
    exact ⟨rfl, rfl⟩
  · have t1 : (x < 1) = False := by simp; omega
    have t2 : ((65536 : Int) < x) = True := by simp; omega
    clear hx h1
    go_enter Try.func11, Try.ntmps11
    go_wp2
    go_ret2
    exact ⟨rfl, rfl⟩

set_option maxRecDepth 100000 in
set_option maxHeartbeats 1000000 in
theorem rnew_yes {w : World} {n : Nat} (h1 : 1 ≤ n) (h2 : n ≤ 65536) : Calls Try.prog 11 #[.int .i64 (n : Int)] w fun e w' => ∃ m G, e = .returned (.tuple #[.pointer (some ⟨m, 0, none⟩), .int .i64 0]) ∧ Rk w' m G (fresh n (List.replicate (64 * n) 0)) ∧ Nx [] w G w' := by
  obtain ⟨i0, hi, hz0, hz1, hz2⟩ := info_parts info5p
  have HI := hide (⟨hi, hz0, hz1, hz2⟩ : _ ∧ _ ∧ _ ∧ _)
  clear hi hz0 hz1 hz2
  have t1 : ((n : Int) < 1) = False := by simp; omega
  have t2 : ((65536 : Int) < (n : Int)) = False := by simp; omega
  have hN : (64 : Int) * (n : Int) = ((64 * n : Nat) : Int) := by omega
  have HN := hide hN
  clear hN
  obtain ⟨M, hM⟩ : ∃ M, M = madeCells #[Value.int .u8 0] (64 * n) := ⟨_, rfl⟩
  go_enter Try.func11, Try.ntmps11
  go_wp2_with (first | (at_make; refine wpList_make_row _ rfl _ _ 22 rfl 5 i0 (.int .u8 0) Try.underlying22 (unhide HI).1 (unhide HI).2.1 (unhide HI).2.2.1 rfl .i64 .i64 (64 * n) (by rw [← unhide HN]; rfl) (by rw [← unhide HN]; rfl) (by rw [(unhide HI).2.2.2]; omega) (by omega) ?_; rw [← hM]; have HM := hide hM; clear hM))
  go_ret2
  have hMe : M = (u8s (List.replicate (64 * n) 0)).toArray := (unhide HM).trans (made5 _)
  have hb0 : Blk (w.alloc (.cells M 5)) w.heap.size (u8s (List.replicate (64 * n) 0)).toArray 5 := by rw [hMe]; exact Blk.new _ _ _
  have ho : (w.alloc (.cells M 5)).ownsRow 0 5 1 (.slice (some ⟨w.heap.size, 0, none⟩) (64 * n) (64 * n)) (64 * n) (u8s (List.replicate (64 * n) 0)) := by
    refine ⟨by simp [u8s_length], Or.inr ⟨w.heap.size, 64 * n, _, rfl, Nat.zero_le _, hb0, Nat.le_refl _, by unfold maxLen; omega, by simp [u8s_length], ?_⟩⟩
    simp only [Nat.mul_one]
    rw [List.take_of_length_le (by simp [u8s_length])]
  refine ⟨_, [w.heap.size + 1, w.heap.size], rfl, rk_fresh (sb := w.heap.size) (sc := 64 * n) (fresh_ok h1 h2 (zeros_len n) (zeros_byte n)) ?_ (own_kept ho ((Kept.refl [] _).alloc _) (by simp)) (by omega), ((Kept.refl _ _).alloc _).alloc _, ?_⟩
  · have := Blk.new (w.alloc (.cells M 5)) (rcells w.heap.size (64 * n) n (.slice none 0 0) none 0 0) 73
    simpa [rcells, leftOf] using this
  · intro x hx
    simp at hx
    right; omega

set_option maxRecDepth 100000 in
theorem rload_no {w : World} {a : Option Addr} {L cap : Nat} (hL : L ≤ 9223372036854775807) (h : noDisk L) : Calls Try.prog 12 #[.slice a L cap] w fun e w' => e = .returned (.tuple #[.pointer none, .int .i64 82]) ∧ w' = w := by
  by_cases h0 : L = 0
  · subst h0
    go_enter Try.func12, Try.ntmps12
    go_wp2
    go_ret2
    exact ⟨rfl, rfl⟩
  · have e1 : IntKind.i64.wrap ((L : Int) / 64) = ((L / 64 : Nat) : Int) := by rw [IntKind.wrap_i64]; omega
    have e2 : IntKind.i64.wrap ((L : Int) % 64) = ((L % 64 : Nat) : Int) := by rw [IntKind.wrap_i64]; omega
    have e3 : (L : Int) / 64 = ((L / 64 : Nat) : Int) := by omega
    have e4 : (L : Int) % 64 = ((L % 64 : Nat) : Int) := by omega
    have t0 : ((L : Int) == 0) = false := by simp; omega
    have hq : L % 64 = 0 → 65536 < L / 64 := by unfold noDisk at h; omega
    clear h
    generalize L / 64 = q at *
    generalize L % 64 = r at *
    by_cases h1 : r = 0
    · subst h1
      simp only [Int.natCast_zero] at e2 e4
      have t3 : ((65536 : Int) < (q : Int)) = True := by have := hq rfl; simp; omega
      clear hq h0
      go_enter Try.func12, Try.ntmps12
      go_wp2
      go_ret2
      exact ⟨rfl, rfl⟩
    · have t1 : (r = 0) = False := by simp [h1]
      clear hq h0 h1
      go_enter Try.func12, Try.ntmps12
      go_wp2
      go_ret2
      exact ⟨rfl, rfl⟩

set_option maxRecDepth 100000 in
set_option maxHeartbeats 1000000 in
theorem rload_yes {w : World} {v : Value} {bs : List Nat} {n : Nat} (hv : Sees w v bs) (hl : bs.length = 64 * n) (h1 : 1 ≤ n) (h2 : n ≤ 65536) :
    Calls Try.prog 12 #[v] w fun e w' => ∃ m G, e = .returned (.tuple #[.pointer (some ⟨m, 0, none⟩), .int .i64 0]) ∧ Rk w' m G (fresh n bs) ∧ Nx [] w G w' := by
  have HC := hide (copied_any hv (by omega))
  have HBY : Hid (∀ x ∈ bs, x < 256) := by obtain ⟨_, _, _, _, _, h, _⟩ := hv; exact h
  obtain ⟨va, vc, rfl, -⟩ := hv
  rw [hl] at HC ⊢
  have HL := hide hl
  clear hl
  have e1 : IntKind.i64.wrap (((64 * n : Nat) : Int) / 64) = (n : Int) := by rw [IntKind.wrap_i64]; omega
  have e2 : IntKind.i64.wrap (((64 * n : Nat) : Int) % 64) = 0 := by rw [IntKind.wrap_i64]; omega
  have e3 : ((64 * n : Nat) : Int) / 64 = (n : Int) := by omega
  have e4 : ((64 * n : Nat) : Int) % 64 = 0 := by omega
  have t0 : (((64 * n : Nat) : Int) == 0) = false := by simp; omega
  have t2 : ((65536 : Int) < (n : Int)) = False := by simp; omega
  obtain ⟨N, hN⟩ : ∃ N, N = 64 * n := ⟨_, rfl⟩
  rw [← hN] at e1 e2 e3 e4 t0 HC ⊢
  have HN := hide hN
  clear hN
  go_enter Try.func12, Try.ntmps12
  go_wp2_with (first | (go_at_call 30; refine (unhide HC).mono ?_; rintro e w2 ⟨a, cap, rfl, ho, hk⟩; have HO := hide ho; have HK := hide hk; clear HC ho hk))
  go_ret2
  obtain ⟨g, c, hv9, hb9, hl9, -, -⟩ := row_of_own (unhide HO) (by have := unhide HN; omega)
  injection hv9 with q1 q2 q3
  subst q1
  subst q3
  have hsz := (unhide HK).size
  have ho0 : w2.ownsRow 0 5 1 (.slice (some ⟨g, 0, none⟩) (64 * n) cap) (64 * n) (u8s bs) := by
    rw [← unhide HN]
    exact own_base (unhide HO)
  refine ⟨_, [w2.heap.size, g], rfl, rk_fresh (sb := g) (sc := cap) (fresh_ok h1 h2 (unhide HL) (unhide HBY)) ?_ (own_kept ho0 ((Kept.refl [] _).alloc _) (by simp)) (by omega), (unhide HK).alloc _, ?_⟩
  · have := Blk.new w2 (rcells g cap n (.slice none 0 0) none 0 0) 73
    have e := unhide HN
    subst e
    simpa [rcells, leftOf] using this
  · intro x hx
    simp at hx
    right; omega
end Go.Proofs.Ytfaoblnghkiibaa
