/- The order of bools. -/
import Derived.Test.YtigmofbammofbabKCmpV
namespace Go.Proofs.Ytigmofbammofbab
open Go.RowKit

theorem world_at {R C : World → Prop} {x : World} (h : R x) (H : ∀ wr, R wr → C wr) : C x := H x h

set_option maxRecDepth 100000 in
set_option maxHeartbeats 1000000 in
theorem cmpV_2 {S : Nat → Prop} {w : World} {x y : Hd} {tx px ty py : Value} {p q : Row} (hx : x.ok) (hy : y.ok) (htx : SeesIn S w tx x.text) (hty : SeesIn S w ty y.text) (hpx : RowV S w px p) (hpy : RowV S w py q) (hC : CmpC p) (hk : x.kind = 2) (hk2 : y.kind = 2) :
    Calls Try.prog 38 #[aggV x tx px, aggV y ty py] w fun e w' => e = .returned (.int .i64 (cmpH x y (cmpR p q))) ∧ Kept [] w w' := by
  have hsf := fun (w : World) (a : Addr) (m : Nat) (md : Mode) => run_store Try.prog w a (.float .f64 m) md rfl
  have hsc := fun (w : World) (a : Addr) (m n : Nat) (md : Mode) => run_store Try.prog w a (.complex .f64 m n) md rfl
  have k0 : Kept [] w ((w.alloc (.cells #[.int .i64 x.kind, .bool x.b, .int .i64 x.n, .float .f64 x.re, .complex .f64 x.pr x.im, tx, px] 48)).alloc (.cells #[.int .i64 y.kind, .bool y.b, .int .i64 y.n, .float .f64 y.re, .complex .f64 y.pr y.im, ty, py] 48)) := ((Kept.refl [] w).alloc _).alloc _
  have HTX := hide (htx.1.kept k0 (Or.inr (by simp)))
  have HTY := hide (hty.1.kept k0 (Or.inr (by simp)))
  have HCC := hide (hC q S _ _ _ (hpx.kept k0 (by simp)) (hpy.kept k0 (by simp)))
  have HK0 := hide k0
  clear k0
  obtain ⟨⟨ta, tc, htv, -⟩, -⟩ := htx
  obtain ⟨pa, pc, hpv, -⟩ := hpx
  obtain ⟨⟨ta2, tc2, htv2, -⟩, -⟩ := hty
  obtain ⟨pa2, pc2, hpv2, -⟩ := hpy
  obtain ⟨kx, bx, nx, rx, prx, imx, textx⟩ := x
  obtain ⟨ky, b_y, ny, ry, pry, imy, texty⟩ := y
  obtain ⟨-, -, -, -, ox3, ox4, ox5, -⟩ := hx
  obtain ⟨-, -, -, -, oy3, oy4, oy5, -⟩ := hy
  subst htv hpv htv2 hpv2
  unfold aggV
  simp only at *
  generalize p.len = PL at *
  generalize q.len = QL at *
  generalize hTX : textx.length = TX at *
  generalize hTY : texty.length = TY at *
  subst hk hk2
  have HR : Hid (cmpH ⟨2, bx, nx, rx, prx, imx, textx⟩ ⟨2, b_y, ny, ry, pry, imy, texty⟩ (cmpR p q) = cmpI (bitOf bx) (bitOf b_y)) := by unfold Hid cmpH; simp
  rw [unhide HR]
  have HX := hide (fun b w => pbool_any b w)
  have HQ := hide (fun w => cmpB_any w (bitOf bx) (bitOf b_y))
  generalize cmpI (bitOf bx) (bitOf b_y) = z at *
  clear hTX hTY
  go_enter Try.func38, Try.ntmps38
  go_wp2_with fail
  refine world_at (R := fun W => Kept [] w W ∧ W.cell? ⟨w.heap.size, 1, none⟩ = some (.bool bx) ∧ W.cell? ⟨w.heap.size + 1, 1, none⟩ = some (.bool b_y)) ⟨unhide HK0, ?_, ?_⟩ ?_
  · exact ((Blk.new w #[.int .i64 2, .bool bx, .int .i64 nx, .float .f64 rx, .complex .f64 prx imx, .slice ta TX tc, .slice pa PL pc] 48).alloc _).cell 1
  · have h := (Blk.new (w.alloc (.cells #[.int .i64 2, .bool bx, .int .i64 nx, .float .f64 rx, .complex .f64 prx imx, .slice ta TX tc, .slice pa PL pc] 48)) #[.int .i64 2, .bool b_y, .int .i64 ny, .float .f64 ry, .complex .f64 pry imy, .slice ta2 TY tc2, .slice pa2 QL pc2] 48).cell 1
    rw [World.size_alloc] at h
    exact h
  rintro W ⟨hkW, c1, c2⟩
  have HKW := hide hkW
  clear hkW HK0
  go_region_held3 (fun w' => w'.cell? ⟨w.heap.size, 1, none⟩ = some (.bool bx) ∧ w'.cell? ⟨w.heap.size + 1, 1, none⟩ = some (.bool b_y)) (go_keep) (first
    | (go_at_call 39; refine (unhide HX _ _).mono ?_; rintro e w3 ⟨rfl, hq⟩; have hq' := hq.symm; subst hq')
    | (go_at_call 51; refine (unhide HQ _).mono ?_; rintro e w3 ⟨rfl, hq⟩; have hq' := hq.symm; subst hq'))
  all_goals
    go_wp2
    go_ret
    exact ⟨rfl, (unhide HKW).drew⟩
end Go.Proofs.Ytigmofbammofbab
