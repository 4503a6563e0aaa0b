/- The writer's New, Num, Int, Len, Done. -/
import Derived.Test.YtiabhgkndejigabLay
namespace Go.Proofs.Ytiabhgkndejigab
open Go.RowKit

def newWS (room : Nat) : WS := ⟨room, [], [], 0⟩
def nilS : Value := .slice none 0 0

set_option maxRecDepth 100000 in
set_option maxHeartbeats 400000 in
theorem new_any (room : Nat) (w : World) (hr : room < 9223372036854775808) :
    Calls Try.prog 10 #[.int .i64 (room : Int)] w fun e w' => ∃ b, e = .returned (.pointer (some ⟨b, 0, none⟩)) ∧ w.heap.size ≤ b ∧ Wr w' b (newWS room) nilS nilS ∧ Kept [] w w' := by
  go_enter Try.func10, Try.ntmps10
  go_wp2
  go_ret
  refine ⟨w.heap.size, rfl, Nat.le_refl _, ⟨Blk.new _ _ _, World.ownsRow_nil _ _ _ _, World.ownsRow_nil _ _ _ _, by simp [nilS, Value.ownBlock], by simp [nilS, Value.ownBlock], by simp [nilS, Value.ownBlock], hr, by simp [newWS], by simp [newWS], by simp [newWS]⟩, (Kept.refl _ _).alloc _⟩

theorem sees_alloc {w : World} {v : Value} {bs : List Nat} (o : Obj) (h : Sees w v bs) : Sees (w.alloc o) v bs := h.kept ((Kept.refl [] w).alloc o) (by simp)

theorem foot_lt {w : World} {b : Nat} {s : WS} {v sv : Value} (h : Wr w b s v sv) : ∀ x, x ∈ foot b v sv → x < w.heap.size := by
  intro x hx
  simp [foot] at hx
  rcases hx with rfl | hx | hx
  · exact h.blk.lt
  · exact (h.own.lt _ hx).2
  · exact (h.sown.lt _ hx).2

theorem form_any' (n : Nat) (w : World) (hn : n < 18446744073709551616) :
    Calls Try.prog 52 #[.int .u64 n] w fun e w' => ∃ a cap, e = .returned (.slice a (form n).length cap) ∧ w'.ownsRow w.heap.size 5 1 (.slice a (form n).length cap) (form n).length (u8s (form n)) ∧ Kept [] w w' := by
  refine (form_any n w hn).mono ?_
  rintro e w' ⟨v, rfl, h1, h2⟩
  obtain ⟨a, cap, rfl⟩ := own_len h1
  exact ⟨a, cap, rfl, h1, h2⟩

/-- What a call of lay with one part needs, where that part is of new memory. -/
theorem lay_one {w w1 : World} {b : Nat} {s : WS} {v sv : Value} (h : Wr w b s v sv) (hf : s.fault = 0) (fv : Value) (fs : List Nat)
    (hfo : w1.ownsRow w.heap.size 5 1 fv fs.length (u8s fs)) (hk1 : Kept [] w w1)
    (hl : s.bs.length + fs.length ≤ 70368744177664) (hroom : s.bs.length + fs.length ≤ s.room) :
    Calls Try.prog 51 #[.pointer (some ⟨b, 0, none⟩), .slice (some ⟨w1.heap.size, 0, none⟩) 1 1] (w1.alloc (.cells #[fv] 22)) fun e w' => e = .returned (.tuple #[]) ∧
      ∃ v', Wr w' b { s with bs := s.bs ++ fs } v' sv ∧ Kept (foot b v sv) w w' ∧ ∀ x, x ∈ foot b v' sv → x ∈ foot b v sv ∨ w.heap.size ≤ x := by
  have hfl := foot_lt h
  have hks := hk1.size
  have ec : cat [(fv, fs)] = fs := by simp [cat]
  have h1 : Wr (w1.alloc (.cells #[fv] 22)) b s v sv := (h.kept hk1 (by simp)).alloc _
  refine (lay_fits h1 hf w1.heap.size 1 [(fv, fs)] (Blk.new _ _ _) (fun hm => by have := hfl _ hm; omega) ?_ (by rw [ec]; exact hl) (by simp) (by rw [ec]; exact hroom)).mono ?_
  · intro p hp
    simp at hp; subst hp
    refine ⟨sees_alloc _ (Sees.of_own hfo), fun k hk hm => ?_⟩
    have := hfl _ hm; have := (hfo.lt k hk).1; omega
  · rintro e w' ⟨rfl, v', hw, hk, hx⟩
    rw [ec] at hw
    refine ⟨rfl, v', hw, (hk1.alloc _).mono (by simp) |>.trans hk (fun x hx => Or.inl hx), fun x hxx => ?_⟩
    rcases hx x hxx with h2 | h2
    · exact Or.inl h2
    · right; simp at h2; omega

set_option maxRecDepth 100000 in
set_option maxHeartbeats 400000 in
theorem wnum_fits {w : World} {b : Nat} {s : WS} {v sv : Value} (h : Wr w b s v sv) (hf : s.fault = 0) (n : Nat) (hn : n < 18446744073709551616) (hl : s.bs.length ≤ 1000000000000) (hroom : s.bs.length + (form n).length ≤ s.room) :
    Calls Try.prog 37 #[.pointer (some ⟨b, 0, none⟩), .int .u64 n] w fun e w' => e = .returned (.tuple #[]) ∧
      ∃ v', Wr w' b { s with bs := s.bs ++ form n } v' sv ∧ Kept (foot b v sv) w w' ∧ ∀ x, x ∈ foot b v' sv → x ∈ foot b v sv ∨ w.heap.size ≤ x := by
  have HH := hide h
  clear h
  have h10 := form_le10 n hn
  go_enter Try.func37, Try.ntmps37
  go_wp2_with (first | (go_at_call 52; refine (form_any' n _ hn).mono ?_; rintro e w1 ⟨fa, fc, rfl, hfo, hk1⟩) | (go_at_call 51; refine (lay_one (unhide HH) hf _ _ hfo hk1 (by omega) hroom).mono ?_; rintro e w2 ⟨rfl, HX⟩))
  go_end0
  exact ⟨rfl, HX⟩

set_option maxRecDepth 100000 in
set_option maxHeartbeats 400000 in
theorem wint_fits {w : World} {b : Nat} {s : WS} {v sv : Value} (h : Wr w b s v sv) (hf : s.fault = 0) (i : Int) (h1 : -9223372036854775808 ≤ i) (h2 : i ≤ 9223372036854775807) (hl : s.bs.length ≤ 1000000000000) (hroom : s.bs.length + (form (fold i)).length ≤ s.room) :
    Calls Try.prog 46 #[.pointer (some ⟨b, 0, none⟩), .int .i64 i] w fun e w' => e = .returned (.tuple #[]) ∧
      ∃ v', Wr w' b { s with bs := s.bs ++ form (fold i) } v' sv ∧ Kept (foot b v sv) w w' ∧ ∀ x, x ∈ foot b v' sv → x ∈ foot b v sv ∨ w.heap.size ≤ x := by
  have HH := hide h
  clear h
  have hn := fold_lt i h1 h2
  have h10 := form_le10 _ hn
  go_enter Try.func46, Try.ntmps46
  go_wp2_with (first | (go_at_call 75; refine (fold_any i _ h1 h2).mono ?_; rintro e w1 ⟨rfl, rfl⟩) | (go_at_call 52; refine (form_any' _ _ hn).mono ?_; rintro e w1 ⟨fa, fc, rfl, hfo, hk1⟩) | (go_at_call 51; refine (lay_one (unhide HH) hf _ _ hfo hk1 (by omega) hroom).mono ?_; rintro e w2 ⟨rfl, HX⟩))
  go_end0
  exact ⟨rfl, HX⟩

set_option maxRecDepth 100000 in
set_option maxHeartbeats 400000 in
theorem wlen_ok {w : World} {b : Nat} {s : WS} {v sv : Value} (h : Wr w b s v sv) (hf : s.fault = 0) :
    Calls Try.prog 30 #[.pointer (some ⟨b, 0, none⟩)] w fun e w' => e = .returned (.int .i64 (s.bs.length : Nat)) ∧ w = w' := by
  obtain ⟨c0, c1, c2, c3⟩ := blk4 h.blk
  obtain ⟨a, cap, rfl⟩ := own_len h.own
  have HH := hide h
  clear h
  go_enter Try.func30, Try.ntmps30
  go_wp2_with (first | (go_at_call 49; refine (fails_no (unhide HH) hf).mono ?_; rintro e w' ⟨rfl, rfl⟩))
  go_ret
  exact ⟨rfl, rfl⟩

set_option maxRecDepth 100000 in
set_option maxHeartbeats 400000 in
/-- bytes.Clone -/
theorem clone_any {w : World} {x : Value} {bs : List Nat} (h : Sees w x bs) (hl : bs.length ≤ 140737488355328) :
    Calls Try.prog 40 #[x] w fun e w' => ∃ a cap, e = .returned (.slice a bs.length cap) ∧ w'.ownsRow w.heap.size 5 1 (.slice a bs.length cap) bs.length (u8s bs) ∧ Kept [] w w' := by
  obtain ⟨i0, hi, hz0, hz1, hz2⟩ := info_parts Try.info5
  have e0 := fun (a : Option Addr) (n c : Nat) (w : World) => Lib.run_eql_slice_nil (P := Try.prog) w 22 5 a n c 0 0 Try.underlying22
  rcases h with ⟨rfl, rfl⟩ | ⟨b, off, cap, rfl, h1, h2, h3, h4⟩
  · go_enter Try.func40, Try.ntmps40
    go_wp2
    go_ret
    exact ⟨none, 0, rfl, World.ownsRow_nil _ _ _ _, Kept.refl _ _⟩
  · have hs : Sees w (.slice (some ⟨b, off, none⟩) bs.length cap) bs := Or.inr ⟨b, off, cap, rfl, h1, h2, h3, h4⟩
    clear h1 h2 h3 h4
    go_enter Try.func40, Try.ntmps40
    go_wp2_with (at_builtin; refine wpList_append_sees _ rfl _ _ 22 rfl w.heap.size 5 i0 (.int .u8 0) Try.underlying22 hi hz0 hz1 hz2 rfl _ [] rfl (World.ownsRow_made w #[] 0 (Nat.le_refl _) (Nat.zero_le _) rfl) _ bs rfl (sees_alloc _ hs) ?c1 ?c2 ?_)
    case c1 => first | omega | (simp; omega)
    case c2 => simp
    intro v' w1 hown hg hat
    obtain ⟨a, c, hv⟩ := own_len hown
    subst hv
    go_wp2
    go_ret
    exact ⟨a, c, rfl, by simpa using hown, ((Kept.refl [] w).alloc _).grown hg (fun k hk => by simp [Value.ownBlock] at hk; right; omega)⟩

set_option maxRecDepth 100000 in
set_option maxHeartbeats 400000 in
theorem wdone_ok {w : World} {b : Nat} {s : WS} {v sv : Value} (h : Wr w b s v sv) (hf : s.fault = 0) (hs : s.sts = []) :
    Calls Try.prog 16 #[.pointer (some ⟨b, 0, none⟩)] w fun e w' => ∃ a cap, e = .returned (.tuple #[.slice a s.bs.length cap, .int .i64 0]) ∧ w'.ownsRow w.heap.size 5 1 (.slice a s.bs.length cap) s.bs.length (u8s s.bs) ∧ Kept [] w w' := by
  obtain ⟨c0, c1, c2, c3⟩ := blk4 h.blk
  have hsee := Sees.of_own h.own
  obtain ⟨a, cap, rfl⟩ := own_len h.own
  obtain ⟨sa, scap, hsv⟩ := own_len h.sown
  rw [hs] at hsv; rw [hsv] at c2; rw [hf] at c3
  have hbb := h.bbs
  clear h hf hs hsv
  go_enter Try.func16, Try.ntmps16
  go_wp2_with (first | (go_at_call 40; refine (clone_any hsee (by omega)).mono ?_; rintro e w' ⟨ca, cc, rfl, hfo, hk1⟩))
  go_ret2
  exact ⟨ca, cc, rfl, hfo, hk1⟩
end Go.Proofs.Ytiabhgkndejigab
