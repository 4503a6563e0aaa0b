/- The small calls, at any world behind. -/
import Derived.Test.YtbpeeifgfjpghaaTOver
namespace Go.Proofs.Ytbpeeifgfjpghaa
open Go.RowKit

theorem deep_at {w : World} {p : Option Addr} {t : TI} (h : Nd w p t) (W : World) (hk : Kept [] w W) : Calls Try.prog 56 #[.pointer p] W fun e w' => e = .returned (.int .i64 (t.depth : Nat)) ∧ w' = W := deep_any (h.kept hk)
theorem count_at {w : World} {p : Option Addr} {t : TI} (h : Nd w p t) (W : World) (hk : Kept [] w W) : Calls Try.prog 54 #[.pointer p] W fun e w' => e = .returned (.int .i64 (t.size : Nat)) ∧ w' = W := count_any (h.kept hk)
/-- a call that makes this tree, wherever -/
def Made (f : Nat) (args : Array Value) (w : World) (t : TI) : Prop := ∀ W, Kept [] w W → Calls Try.prog f args W fun e w' => ∃ p, e = .returned (.pointer p) ∧ Nd w' p t ∧ Kept [] w w'
theorem Made.of {f : Nat} {args : Array Value} {w : World} {t : TI} (h : ∀ W, Kept [] w W → Calls Try.prog f args W fun e w' => ∃ p, e = .returned (.pointer p) ∧ Nd w' p t ∧ Kept [] W w') : Made f args w t := fun W hk =>
  (h W hk).mono (by rintro e w' ⟨p, h1, h2, h3⟩; exact ⟨p, h1, h2, hk.trans h3 (by simp)⟩)
theorem Made.then {f : Nat} {args : Array Value} {w w0 : World} {t : TI} (h : Made f args w t) (hk : Kept [] w0 w) (W : World) (hW : Kept [] w W) : Calls Try.prog f args W fun e w' => ∃ p, e = .returned (.pointer p) ∧ Nd w' p t ∧ Kept [] w0 w' :=
  (h W hW).mono (by rintro e w' ⟨p, h1, h2, h3⟩; exact ⟨p, h1, h2, hk.trans h3 (by simp)⟩)
theorem over_at {w : World} {pl pm ph : Option Addr} {l h : TI} {k x : Int} (hl : Nd w pl l) (hm : Mid w pm k x) (hh : Nd w ph h) (hz : l.size + h.size < 4611686018427387904) :
    Made 120 #[.pointer pl, .pointer pm, .pointer ph] w (.node l k x h) := Made.of fun _ hk => over_any (hl.kept hk) (hm.kept hk) (hh.kept hk) hz
theorem Kept.cell' {w w' : World} (h : Kept [] w w') {p : Addr} {v : Value} (hp : w.cell? p = some v) : w'.cell? p = some v := by
  rw [h.cell (World.block_lt_of_cell? w p hp) (by simp)]; exact hp
end Go.Proofs.Ytbpeeifgfjpghaa
