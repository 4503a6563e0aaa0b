/- A text of the base. -/
import Derived.Test.YtfhfkpgfnlmfhaaDoorPkC
import Derived.Deep.RegionWith
/- The writer where there is no room; num. -/
namespace Go.Proofs.YtfhfkpgfnlmfhaaDoor
open Go.RowKit

def failWS (c : Nat) : WS := ⟨0, [], [], c⟩

theorem Blk.set4 {w : World} {b : Nat} {x0 x1 x2 x3 y0 y1 y2 y3 : Value} {t : TypeId} (h : Blk w b #[x0, x1, x2, x3] t) :
    Blk ((((w.setCell ⟨b, 0, none⟩ y0).setCell ⟨b, 1, none⟩ y1).setCell ⟨b, 2, none⟩ y2).setCell ⟨b, 3, none⟩ y3) b #[y0, y1, y2, y3] t := by
  have h3 := (((h.set 0 y0).set 1 y1).set 2 y2).set 3 y3
  simpa using h3

theorem failWr {w : World} {b : Nat} (c : Nat) (hc : c < 1000) (h : Blk w b #[.int .i64 0, .slice none 0 0, .slice none 0 0, .int .i64 c] 77) : Wr w b (failWS c) nilS nilS :=
  ⟨h, World.ownsRow_nil _ _ _ _, World.ownsRow_nil _ _ _ _, by simp [nilS, Value.ownBlock], by simp [nilS, Value.ownBlock], by simp [nilS, Value.ownBlock], by simp [failWS], by simp [failWS], by simp [failWS], hc⟩

set_option maxRecDepth 100000 in
set_option maxHeartbeats 400000 in
theorem fail_do {w : World} {b : Nat} {s : WS} {v sv : Value} (h : Wr w b s v sv) (hf : s.fault = 0) (c : Nat) (hc : c < 1000) :
    Calls Tryd.prog 51 #[.pointer (some ⟨b, 0, none⟩), .int .i64 c] w fun e w' => e = .returned (.tuple #[]) ∧ Wr w' b (failWS c) nilS nilS ∧ Kept [b] w w' := by
  obtain ⟨c0, c1, c2, c3⟩ := blk4 h.blk
  have f0 := h.blk.frozen 0
  have f1 := h.blk.frozen 1
  have f2 := h.blk.frozen 2
  have f3 := h.blk.frozen 3
  have HH := hide h
  clear h
  go_enter Tryd.func51, Tryd.ntmps51
  go_wp2_with (first | (go_at_call 74; refine (fails_no (unhide HH) hf).mono ?_; rintro e w' ⟨rfl, rfl⟩))
  go_end0
  exact ⟨rfl, failWr c hc (unhide HH).blk.set4, ((((Kept.refl [b] w).setCell (Or.inl (by simp)) _).setCell (Or.inl (by simp)) _).setCell (Or.inl (by simp)) _).setCell (Or.inl (by simp)) _⟩

set_option maxRecDepth 100000 in
set_option maxHeartbeats 400000 in
theorem fail_not {w : World} {b : Nat} {s : WS} {v sv : Value} (h : Wr w b s v sv) (hf : s.fault ≠ 0) (c : Nat) :
    Calls Tryd.prog 51 #[.pointer (some ⟨b, 0, none⟩), .int .i64 c] w fun e w' => e = .returned (.tuple #[]) ∧ w = w' := by
  have HH := hide h
  clear h
  go_enter Tryd.func51, Tryd.ntmps51
  go_wp2_with (first | (go_at_call 74; refine (fails_yes (unhide HH) hf).mono ?_; rintro e w' ⟨rfl, rfl⟩))
  go_end0
  exact ⟨rfl, rfl⟩

set_option maxRecDepth 100000 in
set_option maxHeartbeats 1000000 in
/-- lay where there is no room. -/
theorem lay_nofit {w : World} {b : Nat} {s : WS} {v sv : Value} (h : Wr w b s v sv) (hf : s.fault = 0) (pb pc : Nat) (ps : List (Value × List Nat))
    (hpb : Blk w pb (ps.map (·.1)).toArray 23) (hps : ∀ p, p ∈ ps → Sees w p.1 p.2)
    (hl : s.bs.length + (cat ps).length ≤ 70368744177664) (hn : ps.length < 1000) (hroom : ¬ s.bs.length + (cat ps).length ≤ s.room) :
    Calls Tryd.prog 52 #[.pointer (some ⟨b, 0, none⟩), .slice (some ⟨pb, 0, none⟩) ps.length pc] w fun e w' => e = .returned (.tuple #[]) ∧ Wr w' b (failWS 13) nilS nilS ∧ Kept [b] w w' := by
  have HH := hide h
  have HPS := hide hps
  have HPB := hide hpb
  clear h hps hpb
  have hnn : (0 : Int) ≤ (ps.length : Int) := by omega
  go_enter Tryd.func52, Tryd.ntmps52
  go_wp2_with (first | (go_at_call 74; refine (fails_no (unhide HH) hf).mono ?_; rintro e w' ⟨rfl, rfl⟩))
  go_loop [4, 13] (fun sz i => ∃ k : Nat, k ≤ ps.length ∧ i = .int .i64 k ∧ sz = .int .i64 ((cat (ps.take k)).length : Nat)) (fun _ i => ps.length - (intOf i).toNat)
  case atStart => exact ⟨0, by omega, rfl, rfl⟩
  case round =>
    obtain ⟨k, hk, rfl, rfl⟩ := hrel
    have hle := cat_take_le ps k
    by_cases hlt : k < ps.length
    · have hce : w.cell? ⟨pb, k, none⟩ = some (ps[k].1) := by rw [(unhide HPB).cell]; simp [hlt]
      obtain ⟨a, cap, hv⟩ := sees_len ((unhide HPS) ps[k] (List.getElem_mem hlt))
      have ht : (cat (ps.take (k + 1))).length = (cat (ps.take k)).length + ps[k].2.length := by rw [cat_take ps k hlt]; simp
      have hle2 := cat_take_le ps (k + 1)
      have HT := hide ht
      clear ht
      rw [hv] at hce
      have hle3 : (cat (ps.take k)).length + ps[k].2.length ≤ (cat ps).length := by rw [← unhide HT]; exact hle2
      clear hle2
      clear hv
      go_wp2
      go_round
      case rel => exact ⟨k + 1, by omega, by go_num, by rw [unhide HT]; go_num⟩
      case measure => simp [intOf]; omega
    · have hkl : k = ps.length := by omega
      subst hkl
      rw [List.take_length]
      clear hle hk hlt
      have HRM := hide hroom
      clear hroom
      go_wp2_with (first | (go_at_call 75; refine (hasRoom_any (unhide HH) _ (by omega) false (by simpa using unhide HRM)).mono ?_; rintro e w1 ⟨rfl, hq⟩) | (go_at_call 51; refine (fail_do ((unhide HH).quiet hq) hf 13 (by omega)).mono ?_; rintro e w2 ⟨rfl, hw2, hk2⟩))
      refine bodyPost_ret (results_none rfl _ _ _) rfl ?_
      exact ⟨rfl, hw2, (hq.kept.mono (by simp)).trans hk2 (fun x hx => Or.inl hx)⟩

theorem lay_one_nofit {w w1 : World} {b : Nat} {s : WS} {v sv : Value} (h : Wr w b s v sv) (hf : s.fault = 0) (fv : Value) (fs : List Nat)
    (hfo : w1.ownsRow w.heap.size 5 1 fv fs.length (u8s fs)) (hk1 : Kept [] w w1)
    (hl : s.bs.length + fs.length ≤ 70368744177664) (hroom : ¬ s.bs.length + fs.length ≤ s.room) :
    Calls Tryd.prog 52 #[.pointer (some ⟨b, 0, none⟩), .slice (some ⟨w1.heap.size, 0, none⟩) 1 1] (w1.alloc (.cells #[fv] 23)) fun e w' => e = .returned (.tuple #[]) ∧ Wr w' b (failWS 13) nilS nilS ∧ Kept [b] w w' := by
  have ec : cat [(fv, fs)] = fs := by simp [cat]
  have h1 : Wr (w1.alloc (.cells #[fv] 23)) b s v sv := (h.kept hk1 (by simp)).alloc _
  refine (lay_nofit h1 hf w1.heap.size 1 [(fv, fs)] (Blk.new _ _ _) ?_ (by rw [ec]; exact hl) (by simp) (by rw [ec]; exact hroom)).mono ?_
  · intro p hp
    simp at hp; subst hp
    exact sees_alloc _ (Sees.of_own hfo)
  · rintro e w' ⟨rfl, hw, hk⟩
    exact ⟨rfl, hw, (hk1.alloc _).mono (by simp) |>.trans hk (fun x hx => Or.inl hx)⟩

set_option maxRecDepth 100000 in
set_option maxHeartbeats 400000 in
theorem wnum_nofit {w : World} {b : Nat} {s : WS} {v sv : Value} (h : Wr w b s v sv) (hf : s.fault = 0) (n : Nat) (hn : n < 18446744073709551616) (hl : s.bs.length ≤ 1000000000000) (hroom : ¬ s.bs.length + (form n).length ≤ s.room) :
    Calls Tryd.prog 121 #[.pointer (some ⟨b, 0, none⟩), .int .u64 n] w fun e w' => e = .returned (.tuple #[]) ∧ Wr w' b (failWS 13) nilS nilS ∧ Kept [b] w w' := by
  have HH := hide h
  have HR := hide hroom
  clear h hroom
  have h10 := form_le10 n hn
  go_enter Tryd.func121, Tryd.ntmps121
  go_wp2_with (first | (go_at_call 123; refine (form_any' n _ hn).mono ?_; rintro e w1 ⟨fa, fc, rfl, hfo, hk1⟩) | (go_at_call 52; refine (lay_one_nofit (unhide HH) hf _ _ hfo hk1 (by omega) (unhide HR)).mono ?_; rintro e w2 ⟨rfl, HX⟩))
  go_end0
  exact ⟨rfl, HX⟩

set_option maxRecDepth 100000 in
set_option maxHeartbeats 400000 in
theorem wdone_fault {w : World} {b : Nat} {s : WS} {v sv : Value} (h : Wr w b s v sv) (hf : s.fault ≠ 0) :
    Calls Tryd.prog 29 #[.pointer (some ⟨b, 0, none⟩)] w fun e w' => e = .returned (.tuple #[.slice none 0 0, .int .i64 (s.fault : Int)]) ∧ ∃ m, w' = w.drewN m := by
  obtain ⟨c0, c1, c2, c3⟩ := blk4 h.blk
  have hn : ((s.fault : Int) != 0) = true := by rw [bne_iff_ne]; omega
  clear h hf
  go_enter Tryd.func29, Tryd.ntmps29
  go_wp2
  go_quiet (fail)
  go_wp2
  go_ret2
  exact ⟨rfl, _, rfl⟩

end Go.Proofs.YtfhfkpgfnlmfhaaDoor
