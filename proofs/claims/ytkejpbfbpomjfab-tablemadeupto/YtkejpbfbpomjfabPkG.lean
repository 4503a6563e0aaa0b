/- Texts laid one behind the other: COver CAt. -/
import Derived.Test.YtkejpbfbpomjfabPkF
import Derived.Deep.RegionHeld3
/- A node over two trees. -/
namespace Go.Proofs.Ytkejpbfbpomjfab.tre
open Go.RowKit

theorem Nd.heap {w w' : World} {t : TI} {p : Option Addr} (h : Nd w p t) (hk : w'.heap = w.heap) : Nd w' p t := by
  induction t generalizing p with
  | nil => exact h
  | node l k x r ihl ihr =>
    obtain ⟨b, pl, pr, h1, h2, h3, h4⟩ := h
    exact ⟨b, pl, pr, h1, by unfold Blk at h2 ⊢; rw [hk]; exact h2, ihl h3, ihr h4⟩

set_option maxRecDepth 100000 in
set_option maxHeartbeats 4000000 in
theorem over_any {w : World} {pl pm ph : Option Addr} {l h : TI} {k : ByteArray} {x : VT} (hl : Nd w pl l) (hm : Mid w pm k x) (hh : Nd w ph h) (hz : l.size + h.size < 4611686018427387904) :
    Calls Try.prog 91 #[.pointer pl, .pointer pm, .pointer ph] w fun e w' => ∃ p, e = .returned (.pointer p) ∧ Nd w' p (.node l k x h) ∧ Kept [] w w' := by
  obtain ⟨b, u1, u2, u3, u4, rfl, hb⟩ := hm
  have HL := hide (fun (W : World) (hq : W.heap = w.heap) => count_any (hl.heap hq))
  have HH := hide (fun (W : World) (hq : W.heap = w.heap) => count_any (hh.heap hq))
  have DL := hide (fun (W : World) (hq : W.heap = w.heap) => deep_any (hl.heap hq))
  have DH := hide (fun (W : World) (hq : W.heap = w.heap) => deep_any (hh.heap hq))
  have HNL := hide hl
  have HNH := hide hh
  obtain ⟨c0, c1, c1s, -, -, -, -⟩ := seven hb
  have dl := l.depth_le_size
  have dh := h.depth_le_size
  have HG : Hid (∀ (W : World), Kept [] w W → Nd (W.alloc (.cells #[.string k, .string x.1, .int .i64 x.2, .pointer pl, .pointer ph, .int .i64 ((l.size + 1 + h.size : Nat) : Int), .int .i64 ((max l.depth h.depth + 1 : Nat) : Int)] 118)) (some ⟨W.heap.size, 0, none⟩) (.node l k x h) ∧ Kept [] w (W.alloc (.cells #[.string k, .string x.1, .int .i64 x.2, .pointer pl, .pointer ph, .int .i64 ((l.size + 1 + h.size : Nat) : Int), .int .i64 ((max l.depth h.depth + 1 : Nat) : Int)] 118))) := by
    intro W hW
    have hk := hW.alloc (.cells #[.string k, .string x.1, .int .i64 x.2, .pointer pl, .pointer ph, .int .i64 ((l.size + 1 + h.size : Nat) : Int), .int .i64 ((max l.depth h.depth + 1 : Nat) : Int)] 118)
    exact ⟨⟨W.heap.size, pl, ph, rfl, Blk.new _ _ _, hl.kept hk, hh.kept hk⟩, hk⟩
  clear hb hl hh
  generalize l.size = ls at *
  generalize h.size = hs at *
  generalize l.depth = ld at *
  generalize h.depth = hd at *
  have e1 : ((ls + 1 + hs : Nat) : Int) = (ls : Int) + 1 + (hs : Int) := by omega
  rw [e1] at HG
  go_enter Try.func91, Try.ntmps91
  go_wp2_with fail
  go_region_held3 (fun w' => w'.cell? ⟨b, 0, none⟩ = some (.string k) ∧ w'.cell? ⟨b, 1, none⟩ = some (.string x.1) ∧ w'.cell? ⟨b, 2, none⟩ = some (.int .i64 x.2)) (go_keep) (first
    | (go_at_call 64; refine (unhide HL _ (by rfl)).mono ?_; rintro e w3 ⟨rfl, hq⟩; have hq' := hq.symm; subst hq'; clear HL)
    | (go_at_call 64; refine (unhide HH _ (by rfl)).mono ?_; rintro e w3 ⟨rfl, hq⟩; have hq' := hq.symm; subst hq'; clear HH)
    | (go_at_call 97; refine (unhide DL _ (by rfl)).mono ?_; rintro e w3 ⟨rfl, hq⟩; have hq' := hq.symm; subst hq'; clear DL)
    | (go_at_call 97; refine (unhide DH _ (by rfl)).mono ?_; rintro e w3 ⟨rfl, hq⟩; have hq' := hq.symm; subst hq'; clear DH))
  all_goals go_wp2
  all_goals
    go_ret
    have e2 : IntKind.i64.wrap (IntKind.i64.wrap ((ls : Int) + 1) + (hs : Int)) = (ls : Int) + 1 + (hs : Int) := by simp only [IntKind.wrap_i64]; omega
    first
      | (have e3 : IntKind.i64.wrap ((hd : Int) + 1) = ((max ld hd + 1 : Nat) : Int) := by (rw [IntKind.wrap_i64]; omega)
         rw [e2, e3]
         exact ⟨_, rfl, (unhide HG _ (Kept.refl _ _)).1.heap rfl, (unhide HG _ (Kept.refl _ _)).2.drew⟩)
      | (have e3 : IntKind.i64.wrap ((ld : Int) + 1) = ((max ld hd + 1 : Nat) : Int) := by (rw [IntKind.wrap_i64]; omega)
         rw [e2, e3]
         exact ⟨_, rfl, (unhide HG _ (Kept.refl _ _)).1.heap rfl, (unhide HG _ (Kept.refl _ _)).2.drew⟩)
end Go.Proofs.Ytkejpbfbpomjfab.tre

/- The small calls, at any world behind. -/
namespace Go.Proofs.Ytkejpbfbpomjfab.tre
open Go.RowKit

theorem deep_at {w : World} {p : Option Addr} {t : TI} (h : Nd w p t) (W : World) (hk : Kept [] w W) : Calls Try.prog 97 #[.pointer p] W fun e w' => e = .returned (.int .i64 (t.depth : Nat)) ∧ w' = W := deep_any (h.kept hk)
theorem count_at {w : World} {p : Option Addr} {t : TI} (h : Nd w p t) (W : World) (hk : Kept [] w W) : Calls Try.prog 64 #[.pointer p] W fun e w' => e = .returned (.int .i64 (t.size : Nat)) ∧ w' = W := count_any (h.kept hk)
/-- a call that makes this tree, wherever -/
def Made (f : Nat) (args : Array Value) (w : World) (t : TI) : Prop := ∀ W, Kept [] w W → Calls Try.prog f args W fun e w' => ∃ p, e = .returned (.pointer p) ∧ Nd w' p t ∧ Kept [] w w'
theorem Made.of {f : Nat} {args : Array Value} {w : World} {t : TI} (h : ∀ W, Kept [] w W → Calls Try.prog f args W fun e w' => ∃ p, e = .returned (.pointer p) ∧ Nd w' p t ∧ Kept [] W w') : Made f args w t := fun W hk =>
  (h W hk).mono (by rintro e w' ⟨p, h1, h2, h3⟩; exact ⟨p, h1, h2, hk.trans h3 (by simp)⟩)
theorem Made.then {f : Nat} {args : Array Value} {w w0 : World} {t : TI} (h : Made f args w t) (hk : Kept [] w0 w) (W : World) (hW : Kept [] w W) : Calls Try.prog f args W fun e w' => ∃ p, e = .returned (.pointer p) ∧ Nd w' p t ∧ Kept [] w0 w' :=
  (h W hW).mono (by rintro e w' ⟨p, h1, h2, h3⟩; exact ⟨p, h1, h2, hk.trans h3 (by simp)⟩)
theorem over_at {w : World} {pl pm ph : Option Addr} {l h : TI} {k : ByteArray} {x : VT} (hl : Nd w pl l) (hm : Mid w pm k x) (hh : Nd w ph h) (hz : l.size + h.size < 4611686018427387904) :
    Made 91 #[.pointer pl, .pointer pm, .pointer ph] w (.node l k x h) := Made.of fun _ hk => over_any (hl.kept hk) (hm.kept hk) (hh.kept hk) hz
theorem _root_.Go.Proofs.Ytkejpbfbpomjfab.Kept.cell' {w w' : World} (h : Kept [] w w') {p : Addr} {v : Value} (hp : w.cell? p = some v) : w'.cell? p = some v := by
  rw [h.cell (World.block_lt_of_cell? w p hp) (by simp)]; exact hp
end Go.Proofs.Ytkejpbfbpomjfab.tre
