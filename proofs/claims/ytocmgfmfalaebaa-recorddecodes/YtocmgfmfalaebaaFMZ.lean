/- RecordDecodes. -/
import Derived.Test.YtocmgfmfalaebaaFLZ
import Derived.Test.YtocmgfmfalaebaaPkBI
namespace Go.Proofs.Ytocmgfmfalaebaa
open Go.RowKit

theorem kept_own {W : World} {base g cap : Nat} {P : List Nat} (hc : P.length + 2 ≤ cap) (ho : W.ownsRow base 5 1 (.slice (some ⟨g, 0, none⟩) (P.length + 2) cap) (P.length + 2) (u8s (P ++ [201, 77]))) (hl : P.length ≤ 140737488355326) {y : Value} (hy : Wide W y P) : Calls Try.prog 20 #[.slice (some ⟨g, 0, none⟩) P.length cap, y] W fun e w' => e = .returned (.bool true) ∧ Kept [] W w' :=
  (kept_yes rfl hl hc (Sees.of_own (lent_parts rfl ho).1) hy (lent_parts rfl ho).2.1 (lent_parts rfl ho).2.2).mono (by rintro e w' ⟨rfl, m, rfl⟩; exact ⟨rfl, (Kept.refl [] W).drewN m⟩)
/-- What came in, and a record in its box. -/
structure DcS (w : World) (ps : List Nat) (v : Value) (p : Pl) (l : Lo) (b : Nat) (W : World) : Prop where
  box : Blk W b (rcc p l) 26
  rw : RecW W p l
  inn : Wide W v ps
  kept : Kept [] w W
theorem DcS.go {w : World} {ps : List Nat} {v : Value} {p : Pl} {l : Lo} {b : Nat} {W Y : World} (h : DcS w ps v p l b W) (k : Kept [] W Y) : DcS w ps v p l b Y := ⟨h.box.kept k (by simp), h.rw.kept k, h.inn.kept k, h.kept.step k⟩

set_option maxRecDepth 100000 in
set_option maxHeartbeats 1600000 in
theorem decodes_yes (w : World) {ps : List Nat} {a : Option Addr} {cap : Nat} (h : Wide w (.slice a ps.length cap) ps) (hb : Bytes ps) (hl : ps.length ≤ 140737488355326) {p : Pl} (hd : dec ps = some p) : Calls Try.prog 4 #[.slice a ps.length cap] w fun e w' => e = .returned (.bool true) ∧ Kept [] w w' := by
  have HW := hide h
  have HBY := hide hb
  have HPL := hide hl
  have HDD := hide hd
  have HSP := hide (dec_some hb hd).1
  clear h hb hl hd
  have HR : ∀ m, rv p m = .agg #[.int .i64 p.kind, .int .i64 p.shard, .int .i64 p.epoch, .int .i64 p.peer, .int .i64 p.client, .int .i64 p.seq, .int .i64 p.okind, .slice m.ka p.key.length m.kc, .slice m.va p.val.length m.vc, .int .i64 p.rev, .slice m.ca p.copy.length m.cc] := fun m => rv_lit p m
  have HG1 : Hid True := trivial
  go_enter Try.func4, Try.ntmps4
  go_wp2_with (first
    | (go_at_call 17; refine (rdecode_any _ (unhide HW) (unhide HBY) (by have := unhide HPL; omega)).mono ?_; rintro e w1 ⟨k1, hz⟩; rcases hz with ⟨p2, l2, hz, rfl, hr⟩ | ⟨hz, -⟩; rotate_left; (exact absurd hz (by rw [unhide HDD]; simp)); (rw [unhide HDD] at hz; have hz' := Option.some.inj hz; subst hz'; clear hz); rw [HR]; have hk := (Kept.refl [] w1).alloc (.cells (rcc p l2) 26); have HS1 := hide (show DcS w ps (.slice a ps.length cap) p l2 w1.heap.size (w1.alloc (.cells (rcc p l2) 26)) from ⟨Blk.new _ _ _, hr.kept hk, ((unhide HW).kept k1).kept hk, k1.step hk⟩); clear hk hr k1 HW; rw [show rcc p l2 = #[.int .i64 p.kind, .int .i64 p.shard, .int .i64 p.epoch, .int .i64 p.peer, .int .i64 p.client, .int .i64 p.seq, .int .i64 p.okind, .slice l2.ka p.key.length l2.kc, .slice l2.va p.val.length l2.vc, .int .i64 p.rev, .slice l2.ca p.copy.length l2.cc] from rfl] at HS1)
    | (go_at_call 18; refine (lent_any (unhide HS1).inn (unhide HPL)).mono ?_; rintro e w2 ⟨g, gc, rfl, hgc, ho, k2⟩; have HS2 := hide ((unhide HS1).go k2); have HO := hide ho; have HGC := hide hgc; clear ho k2 hgc HS1)
    | (go_at_call 19; refine (decode_any _ _ ps (Or.inl (Sees.of_own (lent_parts rfl (unhide HO)).1)) (by have := unhide HPL; omega) (unhide HBY)).mono ?_; rintro e w3 ⟨k3, hz⟩; rcases hz with ⟨p2, l3, hz, rfl, hn⟩ | ⟨hz, -⟩; rotate_left; (exact absurd hz (by rw [unhide HDD]; simp)); (rw [unhide HDD] at hz; have hz' := Option.some.inj hz; subst hz'; clear hz); rw [HR]; have hk := (Kept.refl [] w3).alloc (.cells (rcc p l3) 26); have HS3 := hide (((unhide HS2).go k3).go hk); have HB3 := hide (Blk.new w3 (rcc p l3) 26); have HR3 := hide ((hn.snd (unhide HSP)).kept hk); have HO3 := hide (own_kept (own_kept (unhide HO) k3 (by simp)) hk (by simp)); clear hk hn k3 HS2 HO; rw [show rcc p l3 = #[.int .i64 p.kind, .int .i64 p.shard, .int .i64 p.epoch, .int .i64 p.peer, .int .i64 p.client, .int .i64 p.seq, .int .i64 p.okind, .slice l3.ka p.key.length l3.kc, .slice l3.va p.val.length l3.vc, .int .i64 p.rev, .slice l3.ca p.copy.length l3.cc] from rfl] at HS3 HB3 HR3 HO3)
    | (go_at_call 20; refine (kept_own (unhide HGC) (unhide HO3) (unhide HPL) (unhide HS3).inn).mono ?_; rintro e w4 ⟨rfl, k4⟩; have HS4 := hide ((unhide HS3).go k4); have HB4 := hide ((unhide HB3).kept k4 (by simp)); have HR4 := hide ((unhide HR3).kept k4); clear k4 HS3 HB3 HR3 HO3; obtain ⟨d0, d1, d2, d3, d4, d5, d6, d7, d8, d9, d10⟩ := box11 (unhide HS4).box; obtain ⟨e0, e1, e2, e3, e4, e5, e6, e7, e8, e9, e10⟩ := box11 (unhide HB4))
    | (go_at_call 21; refine (sameRec_any (unhide HS4).rw (unhide HR4)).mono ?_; rintro e w5 ⟨rfl, k5⟩; rw [(eqR_iff _ _).2 rfl]; have HK5 := hide ((unhide HS4).kept.step k5); clear k5))
  all_goals
    go_ret
    exact ⟨rfl, unhide HK5⟩
set_option maxRecDepth 100000 in
set_option maxHeartbeats 1600000 in
theorem decodes_no (w : World) {ps : List Nat} {a : Option Addr} {cap : Nat} (h : Wide w (.slice a ps.length cap) ps) (hb : Bytes ps) (hl : ps.length ≤ 140737488355326) (hd : dec ps = none) : Calls Try.prog 4 #[.slice a ps.length cap] w fun e w' => e = .returned (.bool true) ∧ Kept [] w w' := by
  have HW := hide h
  have HBY := hide hb
  have HPL := hide hl
  have HDD := hide hd
  clear h hb hl hd
  have HR := rv_zero
  have HG1 : Hid True := trivial
  go_enter Try.func4, Try.ntmps4
  go_wp2_with (first
    | (go_at_call 17; refine (rdecode_any _ (unhide HW) (unhide HBY) (by have := unhide HPL; omega)).mono ?_; rintro e w1 ⟨k1, hz⟩; rcases hz with ⟨p2, l2, hz, -, -⟩ | ⟨-, rfl⟩; (exact absurd hz (by rw [unhide HDD]; simp)); rw [HR]; have hk := (Kept.refl [] w1).alloc (.cells (rcc zeroP nilL) 26); have HS1 := hide (show DcS w ps (.slice a ps.length cap) zeroP nilL w1.heap.size (w1.alloc (.cells (rcc zeroP nilL) 26)) from ⟨Blk.new _ _ _, zeroW _, ((unhide HW).kept k1).kept hk, k1.step hk⟩); clear hk k1 HW; rw [show rcc zeroP nilL = #[.int .i64 0, .int .i64 0, .int .i64 0, .int .i64 0, .int .i64 0, .int .i64 0, .int .i64 0, .slice none 0 0, .slice none 0 0, .int .i64 0, .slice none 0 0] from rfl] at HS1)
    | (go_at_call 18; refine (lent_any (unhide HS1).inn (unhide HPL)).mono ?_; rintro e w2 ⟨g, gc, rfl, hgc, ho, k2⟩; have HS2 := hide ((unhide HS1).go k2); have HO := hide ho; have HGC := hide hgc; clear ho k2 hgc HS1)
    | (go_at_call 19; refine (decode_any _ _ ps (Or.inl (Sees.of_own (lent_parts rfl (unhide HO)).1)) (by have := unhide HPL; omega) (unhide HBY)).mono ?_; rintro e w3 ⟨k3, hz⟩; rcases hz with ⟨p2, l3, hz, -, -⟩ | ⟨-, rfl⟩; (exact absurd hz (by rw [unhide HDD]; simp)); rw [HR]; have hk := (Kept.refl [] w3).alloc (.cells (rcc zeroP nilL) 26); have HS3 := hide (((unhide HS2).go k3).go hk); have HB3 := hide (Blk.new w3 (rcc zeroP nilL) 26); have HR3 := hide (zeroW (w3.alloc (.cells (rcc zeroP nilL) 26))); have HO3 := hide (own_kept (own_kept (unhide HO) k3 (by simp)) hk (by simp)); clear hk k3 HS2 HO; rw [show rcc zeroP nilL = #[.int .i64 0, .int .i64 0, .int .i64 0, .int .i64 0, .int .i64 0, .int .i64 0, .int .i64 0, .slice none 0 0, .slice none 0 0, .int .i64 0, .slice none 0 0] from rfl] at HS3 HB3 HR3 HO3)
    | (go_at_call 20; refine (kept_own (unhide HGC) (unhide HO3) (unhide HPL) (unhide HS3).inn).mono ?_; rintro e w4 ⟨rfl, k4⟩; have HS4 := hide ((unhide HS3).go k4); have HB4 := hide ((unhide HB3).kept k4 (by simp)); have HR4 := hide ((unhide HR3).kept k4); clear k4 HS3 HB3 HR3 HO3; obtain ⟨d0, d1, d2, d3, d4, d5, d6, d7, d8, d9, d10⟩ := box11 (unhide HS4).box; obtain ⟨e0, e1, e2, e3, e4, e5, e6, e7, e8, e9, e10⟩ := box11 (unhide HB4))
    | (go_at_call 21; refine (sameRec_any (unhide HS4).rw (unhide HR4)).mono ?_; rintro e w5 ⟨rfl, k5⟩; rw [(eqR_iff _ _).2 rfl]; have HK5 := hide ((unhide HS4).kept.step k5); clear k5))
  all_goals
    go_ret
    exact ⟨rfl, unhide HK5⟩
theorem decodes_walk (w : World) (a : Option Addr) (cap : Nat) (ps : List Nat) (h : Wide w (.slice a ps.length cap) ps) (hb : ∀ x ∈ ps, x < 256) (hl : ps.length ≤ 140737488355326) : Calls Try.prog 4 #[.slice a ps.length cap] w fun e w' => e = .returned (.bool true) ∧ Kept [] w w' := by
  cases hd : dec ps with
  | some p => exact decodes_yes w h hb hl hd
  | none => exact decodes_no w h hb hl hd
end Go.Proofs.Ytocmgfmfalaebaa
