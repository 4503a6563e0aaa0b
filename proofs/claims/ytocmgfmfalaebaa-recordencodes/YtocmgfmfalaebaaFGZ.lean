/- RecordEncodes. -/
import Derived.Test.YtocmgfmfalaebaaFFZ
import Derived.Test.YtocmgfmfalaebaaPkU
namespace Go.Proofs.Ytocmgfmfalaebaa
open Go.RowKit

/-- The record's box, and what came in. -/
structure EnS (w : World) (p : Pl) (l : Lo) (W : World) : Prop where
  box : Blk W w.heap.size (rcc p l) 26
  rw : RecW W p l
  kept : Kept [] w W
theorem EnS.go {w : World} {p : Pl} {l : Lo} {W Y : World} (h : EnS w p l W) (k : Kept [] W Y) : EnS w p l Y := ⟨h.box.kept k (by simp), h.rw.kept k, h.kept.step k⟩
theorem EnS.begin {w : World} {p : Pl} {l : Lo} (h : RecW w p l) : EnS w p l (w.alloc (.cells (rcc p l) 26)) := ⟨Blk.new _ _ _, h.kept ((Kept.refl [] w).alloc _), (Kept.refl [] w).alloc _⟩
/-- Beside it the lent one in its box. -/
structure EnT (w : World) (p : Pl) (l m : Lo) (w0 : World) (b : Nat) (W : World) : Prop where
  s : EnS w p l W
  ln : Ln3 w0 W p m
  box : Blk W b (rcc p m) 26
theorem EnT.go {w : World} {p : Pl} {l m : Lo} {w0 : World} {b : Nat} {W Y : World} (h : EnT w p l m w0 b W) (k : Kept [] W Y) : EnT w p l m w0 b Y := ⟨h.s.go k, h.ln.kept k, h.box.kept k (by simp)⟩
theorem EnT.begin {w : World} {p : Pl} {l m : Lo} {w0 W : World} (h : EnS w p l W) (hl : Ln3 w0 W p m) : EnT w p l m w0 W.heap.size (W.alloc (.cells (rcc p m) 26)) := ⟨h.go ((Kept.refl [] W).alloc _), hl.kept ((Kept.refl [] W).alloc _), Blk.new _ _ _⟩

set_option maxRecDepth 100000 in
set_option maxHeartbeats 1600000 in
theorem encodes_yes (w : World) (p : Pl) (l : Lo) (h1 : RecW w p l) (q1 : p.key.length ≤ 140737488355326) (q2 : p.val.length ≤ 140737488355326) (q3 : p.copy.length ≤ 140737488355326) (hs : snd p = true) : Calls Try.prog 3 #[rv p l] w fun e w' => e = .returned (.bool true) ∧ Kept [] w w' := by
  have HD0 := hide (EnS.begin h1)
  clear h1
  have HQ := hide (And.intro q1 (And.intro q2 q3))
  clear q1 q2 q3
  have HSP := hide hs
  have HPL : Hid ((enc p).length ≤ 140737488355328) := by have := len_all hs; unfold Hid; omega
  clear hs
  have HG1 : Hid True := trivial
  have HR : ∀ m, rv p m = .agg #[.int .i64 p.kind, .int .i64 p.shard, .int .i64 p.epoch, .int .i64 p.peer, .int .i64 p.client, .int .i64 p.seq, .int .i64 p.okind, .slice m.ka p.key.length m.kc, .slice m.va p.val.length m.vc, .int .i64 p.rev, .slice m.ca p.copy.length m.cc] := fun m => rv_lit p m
  rw [HR]
  go_enter Try.func3, Try.ntmps3
  go_wp2_with (first
    | (go_at_call 9; refine (rencode_any _ p l (unhide HD0).rw).mono ?_; rintro e w1 ⟨k1, hz⟩; rcases hz with ⟨-, a1, x1, rfl, ho⟩ | ⟨hz, -⟩; rotate_left; (exact absurd hz (by rw [unhide HSP]; simp)); have HO1 := hide (Sees.of_own ho); have HD1 := hide ((unhide HD0).go k1); obtain ⟨d0, d1, d2, d3, d4, d5, d6, d7, d8, d9, d10⟩ := box11 (unhide HD1).box; clear k1 HD0 ho)
    | (go_at_call 10; refine (rsound_any _ p l).mono ?_; rintro e w2 ⟨rfl, k2⟩; rw [unhide HSP]; have HO2 := hide ((unhide HO1).kept k2 (by simp)); have HD2 := hide ((unhide HD1).go k2); obtain ⟨d0, d1, d2, d3, d4, d5, d6, d7, d8, d9, d10⟩ := box11 (unhide HD2).box; clear k2 HD1 HO1)
    | (go_at_call 11; refine (lentRecord_any (unhide HD2).rw (unhide HQ).1 (unhide HQ).2.1 (unhide HQ).2.2).mono ?_; rintro e w3 ⟨m, rfl, hm, k3⟩; have HO3 := hide (((unhide HO2).kept k3 (by simp)).kept ((Kept.refl [] w3).alloc (.cells (rcc p m) 26)) (by simp)); have HT3 := hide (EnT.begin ((unhide HD2).go k3) hm); rw [HR]; clear k3 HD2 HO2 hm; rw [show rcc p m = #[.int .i64 p.kind, .int .i64 p.shard, .int .i64 p.epoch, .int .i64 p.peer, .int .i64 p.client, .int .i64 p.seq, .int .i64 p.okind, .slice m.ka p.key.length m.kc, .slice m.va p.val.length m.vc, .int .i64 p.rev, .slice m.ca p.copy.length m.cc] from rfl] at HT3 HO3; obtain ⟨d0, d1, d2, d3, d4, d5, d6, d7, d8, d9, d10⟩ := box11 (unhide HT3).s.box; obtain ⟨e0, e1, e2, e3, e4, e5, e6, e7, e8, e9, e10⟩ := box11 (unhide HT3).box)
    | (go_at_call 12; refine (encode_any _ p m ((unhide HT3).ln.recW (unhide HQ).1 (unhide HQ).2.1 (unhide HQ).2.2).far).mono ?_; rintro e w4 ⟨k4, hz⟩; rcases hz with ⟨-, a4, x4, rfl, ho⟩ | ⟨hz, -⟩; rotate_left; (exact absurd hz (by rw [unhide HSP]; simp)); have HP4 := hide (Sees.of_own ho); have HO4 := hide ((unhide HO3).kept k4 (by simp)); have HT4 := hide ((unhide HT3).go k4); clear k4 HT3 HO3 ho; obtain ⟨d0, d1, d2, d3, d4, d5, d6, d7, d8, d9, d10⟩ := box11 (unhide HT4).s.box; obtain ⟨e0, e1, e2, e3, e4, e5, e6, e7, e8, e9, e10⟩ := box11 (unhide HT4).box)
    | (go_at_call 13; refine (size_anyR _ p m ((unhide HT4).ln.recW (unhide HQ).1 (unhide HQ).2.1 (unhide HQ).2.2).far).mono ?_; rintro e w5 ⟨k5, hz⟩; rcases hz with ⟨-, rfl⟩ | ⟨hz, -⟩; rotate_left; (exact absurd hz (by rw [unhide HSP]; simp)); have HP5 := hide ((unhide HP4).kept k5 (by simp)); have HO5 := hide ((unhide HO4).kept k5 (by simp)); have HT5 := hide ((unhide HT4).go k5); clear k5 HT4 HO4 HP4; obtain ⟨d0, d1, d2, d3, d4, d5, d6, d7, d8, d9, d10⟩ := box11 (unhide HT5).s.box; obtain ⟨e0, e1, e2, e3, e4, e5, e6, e7, e8, e9, e10⟩ := box11 (unhide HT5).box)
    | (go_at_call 14; refine (sound_any _ p m).mono ?_; rintro e w6 ⟨rfl, k6⟩; rw [unhide HSP]; have HP6 := hide ((unhide HP5).kept k6 (by simp)); have HO6 := hide ((unhide HO5).kept k6 (by simp)); have HT6 := hide ((unhide HT5).go k6); clear k6 HT5 HO5 HP5; obtain ⟨d0, d1, d2, d3, d4, d5, d6, d7, d8, d9, d10⟩ := box11 (unhide HT6).s.box; obtain ⟨e0, e1, e2, e3, e4, e5, e6, e7, e8, e9, e10⟩ := box11 (unhide HT6).box)
    | (go_at_call 15; refine (keptRecord_any (unhide HT6).ln (unhide HT6).s.rw (unhide HQ).1 (unhide HQ).2.1 (unhide HQ).2.2).mono ?_; rintro e w7 ⟨rfl, k7⟩; have HP7 := hide ((unhide HP6).kept k7 (by simp)); have HO7 := hide ((unhide HO6).kept k7 (by simp)); have HK7 := hide ((unhide HT6).s.kept.step k7); clear k7 HT6 HO6 HP6)
    | (go_at_call 16; refine (same_full (Or.inl (unhide HO7)) (Or.inl (unhide HP7)) (unhide HPL)).mono ?_; rintro e w8 ⟨rfl, k8⟩; rw [decide_eq_true rfl]; have HK8 := hide ((unhide HK7).step k8); clear k8))
  all_goals
    go_ret
    exact ⟨rfl, unhide HK8⟩
set_option maxRecDepth 100000 in
set_option maxHeartbeats 1600000 in
theorem encodes_no (w : World) (p : Pl) (l : Lo) (h1 : RecW w p l) (q1 : p.key.length ≤ 140737488355326) (q2 : p.val.length ≤ 140737488355326) (q3 : p.copy.length ≤ 140737488355326) (hs : snd p = false) : Calls Try.prog 3 #[rv p l] w fun e w' => e = .returned (.bool true) ∧ Kept [] w w' := by
  have HD0 := hide (EnS.begin h1)
  clear h1
  have HQ := hide (And.intro q1 (And.intro q2 q3))
  clear q1 q2 q3
  have HSP := hide hs
  clear hs
  have HG1 : Hid True := trivial
  have HR : ∀ m, rv p m = .agg #[.int .i64 p.kind, .int .i64 p.shard, .int .i64 p.epoch, .int .i64 p.peer, .int .i64 p.client, .int .i64 p.seq, .int .i64 p.okind, .slice m.ka p.key.length m.kc, .slice m.va p.val.length m.vc, .int .i64 p.rev, .slice m.ca p.copy.length m.cc] := fun m => rv_lit p m
  rw [HR]
  go_enter Try.func3, Try.ntmps3
  go_wp2_with (first
    | (go_at_call 9; refine (rencode_any _ p l (unhide HD0).rw).mono ?_; rintro e w1 ⟨k1, hz⟩; rcases hz with ⟨hz, -⟩ | ⟨-, rfl⟩; (exact absurd hz (by rw [unhide HSP]; simp)); have HD1 := hide ((unhide HD0).go k1); obtain ⟨d0, d1, d2, d3, d4, d5, d6, d7, d8, d9, d10⟩ := box11 (unhide HD1).box; clear k1 HD0)
    | (go_at_call 10; refine (rsound_any _ p l).mono ?_; rintro e w2 ⟨rfl, k2⟩; rw [unhide HSP]; have HD2 := hide ((unhide HD1).go k2); obtain ⟨d0, d1, d2, d3, d4, d5, d6, d7, d8, d9, d10⟩ := box11 (unhide HD2).box; clear k2 HD1)
    | (go_at_call 11; refine (lentRecord_any (unhide HD2).rw (unhide HQ).1 (unhide HQ).2.1 (unhide HQ).2.2).mono ?_; rintro e w3 ⟨m, rfl, hm, k3⟩; have HT3 := hide (EnT.begin ((unhide HD2).go k3) hm); rw [HR]; clear k3 HD2 hm; rw [show rcc p m = #[.int .i64 p.kind, .int .i64 p.shard, .int .i64 p.epoch, .int .i64 p.peer, .int .i64 p.client, .int .i64 p.seq, .int .i64 p.okind, .slice m.ka p.key.length m.kc, .slice m.va p.val.length m.vc, .int .i64 p.rev, .slice m.ca p.copy.length m.cc] from rfl] at HT3; obtain ⟨d0, d1, d2, d3, d4, d5, d6, d7, d8, d9, d10⟩ := box11 (unhide HT3).s.box; obtain ⟨e0, e1, e2, e3, e4, e5, e6, e7, e8, e9, e10⟩ := box11 (unhide HT3).box)
    | (go_at_call 12; refine (encode_any _ p m ((unhide HT3).ln.recW (unhide HQ).1 (unhide HQ).2.1 (unhide HQ).2.2).far).mono ?_; rintro e w4 ⟨k4, hz⟩; rcases hz with ⟨hz, -⟩ | ⟨-, rfl⟩; (exact absurd hz (by rw [unhide HSP]; simp)); have HT4 := hide ((unhide HT3).go k4); clear k4 HT3; obtain ⟨d0, d1, d2, d3, d4, d5, d6, d7, d8, d9, d10⟩ := box11 (unhide HT4).s.box; obtain ⟨e0, e1, e2, e3, e4, e5, e6, e7, e8, e9, e10⟩ := box11 (unhide HT4).box)
    | (go_at_call 13; refine (size_anyR _ p m ((unhide HT4).ln.recW (unhide HQ).1 (unhide HQ).2.1 (unhide HQ).2.2).far).mono ?_; rintro e w5 ⟨k5, hz⟩; rcases hz with ⟨hz, -⟩ | ⟨-, rfl⟩; (exact absurd hz (by rw [unhide HSP]; simp)); have HT5 := hide ((unhide HT4).go k5); clear k5 HT4; obtain ⟨d0, d1, d2, d3, d4, d5, d6, d7, d8, d9, d10⟩ := box11 (unhide HT5).s.box; obtain ⟨e0, e1, e2, e3, e4, e5, e6, e7, e8, e9, e10⟩ := box11 (unhide HT5).box)
    | (go_at_call 14; refine (sound_any _ p m).mono ?_; rintro e w6 ⟨rfl, k6⟩; rw [unhide HSP]; have HT6 := hide ((unhide HT5).go k6); clear k6 HT5; obtain ⟨d0, d1, d2, d3, d4, d5, d6, d7, d8, d9, d10⟩ := box11 (unhide HT6).s.box; obtain ⟨e0, e1, e2, e3, e4, e5, e6, e7, e8, e9, e10⟩ := box11 (unhide HT6).box)
    | (go_at_call 15; refine (keptRecord_any (unhide HT6).ln (unhide HT6).s.rw (unhide HQ).1 (unhide HQ).2.1 (unhide HQ).2.2).mono ?_; rintro e w7 ⟨rfl, k7⟩; have HK7 := hide ((unhide HT6).s.kept.step k7); clear k7 HT6)
    | (go_at_call 16; refine (same_full (ps := []) (bs := []) (Or.inl (Or.inl ⟨rfl, rfl⟩)) (Or.inl (Or.inl ⟨rfl, rfl⟩)) (by simp)).mono ?_; rintro e w8 ⟨rfl, k8⟩; rw [decide_eq_true rfl]; have HK8 := hide ((unhide HK7).step k8); clear k8))
  all_goals
    go_ret
    exact ⟨rfl, unhide HK8⟩
theorem encodes_walk (w : World) (p : Pl) (l : Lo) (h1 : RecW w p l) (q1 : p.key.length ≤ 140737488355326) (q2 : p.val.length ≤ 140737488355326) (q3 : p.copy.length ≤ 140737488355326) : Calls Try.prog 3 #[rv p l] w fun e w' => e = .returned (.bool true) ∧ Kept [] w w' := by
  cases hs : snd p with
  | true => exact encodes_yes w p l h1 q1 q2 q3 hs
  | false => exact encodes_no w p l h1 q1 q2 q3 hs
end Go.Proofs.Ytocmgfmfalaebaa
