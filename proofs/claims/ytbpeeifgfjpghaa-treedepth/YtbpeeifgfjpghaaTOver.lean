/- A node over two trees. -/
import Derived.Test.YtbpeeifgfjpghaaTNode
import Derived.Deep.RegionHeld3
namespace Go.Proofs.Ytbpeeifgfjpghaa
open Go.RowKit

theorem Nd.heap {w w' : World} {t : TI} {p : Option Addr} (h : Nd w p t) (hk : w'.heap = w.heap) : Nd w' p t := by
  induction t generalizing p with
  | nil => exact h
  | node l k x r ihl ihr =>
    obtain ⟨b, pl, pr, h1, h2, h3, h4⟩ := h
    exact ⟨b, pl, pr, h1, by unfold Blk at h2 ⊢; rw [hk]; exact h2, ihl h3, ihr h4⟩

set_option maxRecDepth 100000 in
set_option maxHeartbeats 4000000 in
theorem over_any {w : World} {pl pm ph : Option Addr} {l h : TI} {k x : Int} (hl : Nd w pl l) (hm : Mid w pm k x) (hh : Nd w ph h) (hz : l.size + h.size < 4611686018427387904) :
    Calls Try.prog 120 #[.pointer pl, .pointer pm, .pointer ph] w fun e w' => ∃ p, e = .returned (.pointer p) ∧ Nd w' p (.node l k x h) ∧ Kept [] w w' := by
  obtain ⟨b, u1, u2, u3, u4, rfl, hb⟩ := hm
  have HL := hide (fun (W : World) (hq : W.heap = w.heap) => count_any (hl.heap hq))
  have HH := hide (fun (W : World) (hq : W.heap = w.heap) => count_any (hh.heap hq))
  have DL := hide (fun (W : World) (hq : W.heap = w.heap) => deep_any (hl.heap hq))
  have DH := hide (fun (W : World) (hq : W.heap = w.heap) => deep_any (hh.heap hq))
  have HNL := hide hl
  have HNH := hide hh
  obtain ⟨c0, c1, -, -, -, -⟩ := six hb
  have dl := l.depth_le_size
  have dh := h.depth_le_size
  have HG : Hid (∀ (W : World), Kept [] w W → Nd (W.alloc (.cells #[.int .i64 k, .int .i64 x, .pointer pl, .pointer ph, .int .i64 ((l.size + 1 + h.size : Nat) : Int), .int .i64 ((max l.depth h.depth + 1 : Nat) : Int)] 105)) (some ⟨W.heap.size, 0, none⟩) (.node l k x h) ∧ Kept [] w (W.alloc (.cells #[.int .i64 k, .int .i64 x, .pointer pl, .pointer ph, .int .i64 ((l.size + 1 + h.size : Nat) : Int), .int .i64 ((max l.depth h.depth + 1 : Nat) : Int)] 105))) := by
    intro W hW
    have hk := hW.alloc (.cells #[.int .i64 k, .int .i64 x, .pointer pl, .pointer ph, .int .i64 ((l.size + 1 + h.size : Nat) : Int), .int .i64 ((max l.depth h.depth + 1 : Nat) : Int)] 105)
    exact ⟨⟨W.heap.size, pl, ph, rfl, Blk.new _ _ _, hl.kept hk, hh.kept hk⟩, hk⟩
  clear hb hl hh
  generalize l.size = ls at *
  generalize h.size = hs at *
  generalize l.depth = ld at *
  generalize h.depth = hd at *
  have e1 : ((ls + 1 + hs : Nat) : Int) = (ls : Int) + 1 + (hs : Int) := by omega
  rw [e1] at HG
  go_enter Try.func120, Try.ntmps120
  go_wp2_with fail
  go_region_held3 (fun w' => w'.cell? ⟨b, 0, none⟩ = some (.int .i64 k) ∧ w'.cell? ⟨b, 1, none⟩ = some (.int .i64 x)) (go_keep) (first
    | (go_at_call 54; refine (unhide HL _ (by rfl)).mono ?_; rintro e w3 ⟨rfl, hq⟩; have hq' := hq.symm; subst hq'; clear HL)
    | (go_at_call 54; refine (unhide HH _ (by rfl)).mono ?_; rintro e w3 ⟨rfl, hq⟩; have hq' := hq.symm; subst hq'; clear HH)
    | (go_at_call 56; refine (unhide DL _ (by rfl)).mono ?_; rintro e w3 ⟨rfl, hq⟩; have hq' := hq.symm; subst hq'; clear DL)
    | (go_at_call 56; refine (unhide DH _ (by rfl)).mono ?_; rintro e w3 ⟨rfl, hq⟩; have hq' := hq.symm; subst hq'; clear DH))
  all_goals go_wp2
  all_goals
    go_ret
    have e2 : IntKind.i64.wrap (IntKind.i64.wrap ((ls : Int) + 1) + (hs : Int)) = (ls : Int) + 1 + (hs : Int) := by simp only [IntKind.wrap_i64]; omega
    first
      | (have e3 : IntKind.i64.wrap ((hd : Int) + 1) = ((max ld hd + 1 : Nat) : Int) := by (rw [IntKind.wrap_i64]; omega)
         rw [e2, e3]
         exact ⟨_, rfl, (unhide HG _ (Kept.refl _ _)).1.heap rfl, (unhide HG _ (Kept.refl _ _)).2.drew⟩)
      | (have e3 : IntKind.i64.wrap ((ld : Int) + 1) = ((max ld hd + 1 : Nat) : Int) := by (rw [IntKind.wrap_i64]; omega)
         rw [e2, e3]
         exact ⟨_, rfl, (unhide HG _ (Kept.refl _ _)).1.heap rfl, (unhide HG _ (Kept.refl _ _)).2.drew⟩)
end Go.Proofs.Ytbpeeifgfjpghaa
