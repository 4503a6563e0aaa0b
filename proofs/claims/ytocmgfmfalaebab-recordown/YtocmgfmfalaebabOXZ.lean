/- RecordOwn, whatever the records. -/
import Derived.Test.YtocmgfmfalaebabOWZ
import Derived.Test.YtocmgfmfalaebabPkV
namespace Go.Proofs.Ytocmgfmfalaebab
open Go.RowKit

set_option maxRecDepth 100000 in
set_option maxHeartbeats 1600000 in
theorem own_no (w : World) (p q : Pl) (l mo : Lo) (h1 : RecW w p l) (h2 : RecW w q mo) (q1 : p.key.length ≤ 140737488355326) (q2 : p.val.length ≤ 140737488355326) (q3 : p.copy.length ≤ 140737488355326) (hs : snd p = false) : Calls Try.prog 4 #[rv p l, rv q mo] w fun e w' => e = .returned (.bool true) ∧ Kept [] w w' := by
  have HA := hide (fun W => awake_any W)
  have HQ := hide (And.intro q1 (And.intro q2 q3))
  have HSP := hide hs
  have HRW := hide (fun (W : World) (k : Kept [] w W) => h1.kept k)
  have HRQ := hide (fun (W : World) (k : Kept [] w W) => h2.kept k)
  have H0 : Hid (OS w [] [(w.heap.size + 1, rcc q mo), (w.heap.size, rcc p l)] ((w.alloc (.cells (rcc p l) 26)).alloc (.cells (rcc q mo) 26))) := by
    have k := ((Kept.refl [] w).alloc (.cells (rcc p l) 26)).alloc (.cells (rcc q mo) 26)
    refine ⟨k, Pool.nil _ _, fun x hx => ?_⟩
    simp at hx
    rcases hx with rfl | rfl
    · exact new1 _ _ _ _
    · exact (Blk.new _ _ _).alloc _
  clear h1 h2 hs q1 q2 q3
  have HR : ∀ m, rv p m = .agg #[.int .i64 p.kind, .int .i64 p.shard, .int .i64 p.epoch, .int .i64 p.peer, .int .i64 p.client, .int .i64 p.seq, .int .i64 p.okind, .slice m.ka p.key.length m.kc, .slice m.va p.val.length m.vc, .int .i64 p.rev, .slice m.ca p.copy.length m.cc] := fun m => rv_lit p m
  rw [rv_lit q mo, HR]
  have HG1 : Hid True := trivial
  have HG2 : Hid True := trivial
  have HG3 : Hid True := trivial
  have HG4 : Hid True := trivial
  go_enter Try.func4, Try.ntmps4
  go_wp2_with (first
    | (go_at_call 5; refine (unhide HA _).mono ?_; rintro e w1 ⟨rfl, k1⟩; have H1 := hide ((unhide H0).go k1); clear k1 H0; obtain ⟨d0, d1, d2, d3, d4, d5, d6, d7, d8, d9, d10⟩ := box11 ((unhide H1).nth (i := 1) rfl); obtain ⟨c0, c1, c2, c3, c4, c5, c6, c7, c8, c9, c10⟩ := box11 ((unhide H1).nth (i := 0) rfl))
    | (go_at_call 7; clear HG1; refine (lentRecord_any (unhide HRW _ (unhide H1).kept) (unhide HQ).1 (unhide HQ).2.1 (unhide HQ).2.2).mono ?_; rintro e w2 ⟨m2, rfl, hln, k2⟩; have HM := hide (hln.recW (unhide HQ).1 (unhide HQ).2.1 (unhide HQ).2.2); rw [HR]; have H2 := hide (((unhide H1).go k2).box #[.int .i64 p.kind, .int .i64 p.shard, .int .i64 p.epoch, .int .i64 p.peer, .int .i64 p.client, .int .i64 p.seq, .int .i64 p.okind, .slice m2.ka p.key.length m2.kc, .slice m2.va p.val.length m2.vc, .int .i64 p.rev, .slice m2.ca p.copy.length m2.cc]); have HK2 := hide ((Kept.refl [] w2).alloc (.cells #[.int .i64 p.kind, .int .i64 p.shard, .int .i64 p.epoch, .int .i64 p.peer, .int .i64 p.client, .int .i64 p.seq, .int .i64 p.okind, .slice m2.ka p.key.length m2.kc, .slice m2.va p.val.length m2.vc, .int .i64 p.rev, .slice m2.ca p.copy.length m2.cc] 26)); clear hln k2 H1; obtain ⟨d0, d1, d2, d3, d4, d5, d6, d7, d8, d9, d10⟩ := box11 ((unhide H2).nth (i := 0) rfl); obtain ⟨c0, c1, c2, c3, c4, c5, c6, c7, c8, c9, c10⟩ := box11 ((unhide H2).nth (i := 1) rfl))
    | (go_at_call 6; clear HG2; refine (encode_any _ p m2 ((unhide HM).kept (unhide HK2)).far).mono ?_; rintro e w3 ⟨k3, hz⟩; rcases hz with ⟨hz, -⟩ | ⟨-, rfl⟩; (exact absurd hz (by rw [unhide HSP]; simp)); have H3 := hide ((unhide H2).go k3); have HK3 := hide ((unhide HK2).step k3); clear k3 H2 HK2; obtain ⟨d0, d1, d2, d3, d4, d5, d6, d7, d8, d9, d10⟩ := box11 ((unhide H3).nth (i := 0) rfl); obtain ⟨c0, c1, c2, c3, c4, c5, c6, c7, c8, c9, c10⟩ := box11 ((unhide H3).nth (i := 1) rfl))
    | (go_at_call 6; clear HG3; refine (encode_any _ q mo (unhide HRQ _ (unhide H3).kept).far).mono ?_; rintro e w4 ⟨k4, hz⟩; obtain ⟨a4, n4, c4, r4, rfl⟩ : ∃ a n c r, e = .returned (.tuple #[.slice a n c, .int .i64 r]) := (by rcases hz with ⟨-, a, c, rfl, -⟩ | ⟨-, rfl⟩ <;> exact ⟨_, _, _, _, rfl⟩); have H4 := hide ((unhide H3).go k4); have HK4 := hide ((unhide HK3).step k4); clear hz k4 H3 HK3; obtain ⟨d0, d1, d2, d3, d4, d5, d6, d7, d8, d9, d10⟩ := box11 ((unhide H4).nth (i := 0) rfl); obtain ⟨c0, c1, c2, c3, c4, c5, c6, c7, c8, c9, c10⟩ := box11 ((unhide H4).nth (i := 1) rfl))
    | (go_at_call 6; clear HG4; refine (encode_any _ p m2 ((unhide HM).kept (unhide HK4)).far).mono ?_; rintro e w5 ⟨k5, hz⟩; rcases hz with ⟨hz, -⟩ | ⟨-, rfl⟩; (exact absurd hz (by rw [unhide HSP]; simp)); have H5 := hide ((unhide H4).go k5); clear k5 H4 HK4)
    | (go_at_call 8; refine (same_full (ps := []) (bs := []) (Or.inl (Or.inl ⟨rfl, rfl⟩)) (Or.inl (Or.inl ⟨rfl, rfl⟩)) (by simp)).mono ?_; rintro e w6 ⟨rfl, k6⟩; rw [decide_eq_true rfl]; have HKZ := hide ((unhide H5).kept.step k6); clear k6))
  all_goals
    go_ret
    exact ⟨rfl, unhide HKZ⟩
theorem own_walk (w : World) (p q : Pl) (l mo : Lo) (h1 : RecIn w p l) (h2 : RecIn w q mo) : Calls Try.prog 4 #[rv p l, rv q mo] w fun e w' => e = .returned (.bool true) ∧ Kept [] w w' := by
  cases hs : snd p with
  | true => exact own_yes w p q l mo h1.w h2.w h1.kb h1.vb h1.cb hs
  | false => exact own_no w p q l mo h1.w h2.w h1.k2 h1.v2 h1.c2 hs
end Go.Proofs.Ytocmgfmfalaebab
