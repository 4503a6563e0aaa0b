/- The order of values and of rows. -/
import Derived.Test.YtigmofbammofbabKCmp
namespace Go.Proofs.Ytigmofbammofbab
open Go.RowKit

/-- the contract of compareRows -/
def CmpC (r : Row) : Prop := ∀ (s : Row) (S : Nat → Prop) (w : World) (va vb : Value), RowV S w va r → RowV S w vb s →
  Calls Try.prog 33 #[va, vb] w fun e w' => e = .returned (.int .i64 (cmpR r s)) ∧ Kept [] w w'

set_option maxRecDepth 100000 in
set_option maxHeartbeats 1000000 in
theorem cmpV_ne {S : Nat → Prop} {w : World} {x y : Hd} {tx px ty py : Value} {p q : Row} (hx : x.ok) (hy : y.ok) (htx : SeesIn S w tx x.text) (hty : SeesIn S w ty y.text) (hpx : RowV S w px p) (hpy : RowV S w py q) (hC : CmpC p) (hk : x.kind ≠ y.kind) :
    Calls Try.prog 38 #[aggV x tx px, aggV y ty py] w fun e w' => e = .returned (.int .i64 (cmpH x y (cmpR p q))) ∧ Kept [] w w' := by
  have hsf := fun (w : World) (a : Addr) (m : Nat) (md : Mode) => run_store Try.prog w a (.float .f64 m) md rfl
  have hsc := fun (w : World) (a : Addr) (m n : Nat) (md : Mode) => run_store Try.prog w a (.complex .f64 m n) md rfl
  have k0 : Kept [] w ((w.alloc (.cells #[.int .i64 x.kind, .bool x.b, .int .i64 x.n, .float .f64 x.re, .complex .f64 x.pr x.im, tx, px] 48)).alloc (.cells #[.int .i64 y.kind, .bool y.b, .int .i64 y.n, .float .f64 y.re, .complex .f64 y.pr y.im, ty, py] 48)) := ((Kept.refl [] w).alloc _).alloc _
  have HTX := hide (htx.1.kept k0 (Or.inr (by simp)))
  have HTY := hide (hty.1.kept k0 (Or.inr (by simp)))
  have HCC := hide (hC q S _ _ _ (hpx.kept k0 (by simp)) (hpy.kept k0 (by simp)))
  have HK0 := hide k0
  clear k0
  obtain ⟨⟨ta, tc, htv, -⟩, -⟩ := htx
  obtain ⟨pa, pc, hpv, -⟩ := hpx
  obtain ⟨⟨ta2, tc2, htv2, -⟩, -⟩ := hty
  obtain ⟨pa2, pc2, hpv2, -⟩ := hpy
  obtain ⟨kx, bx, nx, rx, prx, imx, textx⟩ := x
  obtain ⟨ky, b_y, ny, ry, pry, imy, texty⟩ := y
  obtain ⟨-, -, -, -, ox3, ox4, ox5, -⟩ := hx
  obtain ⟨-, -, -, -, oy3, oy4, oy5, -⟩ := hy
  subst htv hpv htv2 hpv2
  unfold aggV
  simp only at *
  generalize p.len = PL at *
  generalize q.len = QL at *
  generalize hTX : textx.length = TX at *
  generalize hTY : texty.length = TY at *
  have HR : Hid (cmpH ⟨kx, bx, nx, rx, prx, imx, textx⟩ ⟨ky, b_y, ny, ry, pry, imy, texty⟩ (cmpR p q) = cmpI kx ky) := by unfold Hid cmpH; rw [if_pos hk]
  rw [unhide HR]
  have HQ := hide (fun w => cmpS_any w kx ky)
  generalize cmpI kx ky = z at *
  have t1 : (kx != ky) = true := by simpa using hk
  clear hTX hTY
  go_enter Try.func38, Try.ntmps38
  go_wp2_with (first | (go_at_call 50; refine (unhide HQ _).mono ?_; rintro e w' ⟨rfl, hq⟩; have hq' := hq.symm; subst hq'))
  go_ret
  exact ⟨rfl, unhide HK0⟩

set_option maxRecDepth 100000 in
set_option maxHeartbeats 1000000 in
theorem cmpV_3 {S : Nat → Prop} {w : World} {x y : Hd} {tx px ty py : Value} {p q : Row} (hx : x.ok) (hy : y.ok) (htx : SeesIn S w tx x.text) (hty : SeesIn S w ty y.text) (hpx : RowV S w px p) (hpy : RowV S w py q) (hC : CmpC p) (hk : x.kind = 3) (hk2 : y.kind = 3) :
    Calls Try.prog 38 #[aggV x tx px, aggV y ty py] w fun e w' => e = .returned (.int .i64 (cmpH x y (cmpR p q))) ∧ Kept [] w w' := by
  have hsf := fun (w : World) (a : Addr) (m : Nat) (md : Mode) => run_store Try.prog w a (.float .f64 m) md rfl
  have hsc := fun (w : World) (a : Addr) (m n : Nat) (md : Mode) => run_store Try.prog w a (.complex .f64 m n) md rfl
  have k0 : Kept [] w ((w.alloc (.cells #[.int .i64 x.kind, .bool x.b, .int .i64 x.n, .float .f64 x.re, .complex .f64 x.pr x.im, tx, px] 48)).alloc (.cells #[.int .i64 y.kind, .bool y.b, .int .i64 y.n, .float .f64 y.re, .complex .f64 y.pr y.im, ty, py] 48)) := ((Kept.refl [] w).alloc _).alloc _
  have HTX := hide (htx.1.kept k0 (Or.inr (by simp)))
  have HTY := hide (hty.1.kept k0 (Or.inr (by simp)))
  have HCC := hide (hC q S _ _ _ (hpx.kept k0 (by simp)) (hpy.kept k0 (by simp)))
  have HK0 := hide k0
  clear k0
  obtain ⟨⟨ta, tc, htv, -⟩, -⟩ := htx
  obtain ⟨pa, pc, hpv, -⟩ := hpx
  obtain ⟨⟨ta2, tc2, htv2, -⟩, -⟩ := hty
  obtain ⟨pa2, pc2, hpv2, -⟩ := hpy
  obtain ⟨kx, bx, nx, rx, prx, imx, textx⟩ := x
  obtain ⟨ky, b_y, ny, ry, pry, imy, texty⟩ := y
  obtain ⟨-, -, -, -, ox3, ox4, ox5, -⟩ := hx
  obtain ⟨-, -, -, -, oy3, oy4, oy5, -⟩ := hy
  subst htv hpv htv2 hpv2
  unfold aggV
  simp only at *
  generalize p.len = PL at *
  generalize q.len = QL at *
  generalize hTX : textx.length = TX at *
  generalize hTY : texty.length = TY at *
  subst hk hk2
  have HR : Hid (cmpH ⟨3, bx, nx, rx, prx, imx, textx⟩ ⟨3, b_y, ny, ry, pry, imy, texty⟩ (cmpR p q) = cmpI nx ny) := by unfold Hid cmpH; simp
  rw [unhide HR]
  have HQ := hide (fun w => cmpN_any w nx ny)
  generalize cmpI nx ny = z at *
  clear hTX hTY
  go_enter Try.func38, Try.ntmps38
  go_wp2_with (first | (go_at_call 52; refine (unhide HQ _).mono ?_; rintro e w' ⟨rfl, hq⟩; have hq' := hq.symm; subst hq'))
  go_ret
  exact ⟨rfl, unhide HK0⟩

set_option maxRecDepth 100000 in
set_option maxHeartbeats 1000000 in
theorem cmpV_4 {S : Nat → Prop} {w : World} {x y : Hd} {tx px ty py : Value} {p q : Row} (hx : x.ok) (hy : y.ok) (htx : SeesIn S w tx x.text) (hty : SeesIn S w ty y.text) (hpx : RowV S w px p) (hpy : RowV S w py q) (hC : CmpC p) (hk : x.kind = 4) (hk2 : y.kind = 4) :
    Calls Try.prog 38 #[aggV x tx px, aggV y ty py] w fun e w' => e = .returned (.int .i64 (cmpH x y (cmpR p q))) ∧ Kept [] w w' := by
  have hsf := fun (w : World) (a : Addr) (m : Nat) (md : Mode) => run_store Try.prog w a (.float .f64 m) md rfl
  have hsc := fun (w : World) (a : Addr) (m n : Nat) (md : Mode) => run_store Try.prog w a (.complex .f64 m n) md rfl
  have k0 : Kept [] w ((w.alloc (.cells #[.int .i64 x.kind, .bool x.b, .int .i64 x.n, .float .f64 x.re, .complex .f64 x.pr x.im, tx, px] 48)).alloc (.cells #[.int .i64 y.kind, .bool y.b, .int .i64 y.n, .float .f64 y.re, .complex .f64 y.pr y.im, ty, py] 48)) := ((Kept.refl [] w).alloc _).alloc _
  have HTX := hide (htx.1.kept k0 (Or.inr (by simp)))
  have HTY := hide (hty.1.kept k0 (Or.inr (by simp)))
  have HCC := hide (hC q S _ _ _ (hpx.kept k0 (by simp)) (hpy.kept k0 (by simp)))
  have HK0 := hide k0
  clear k0
  obtain ⟨⟨ta, tc, htv, -⟩, -⟩ := htx
  obtain ⟨pa, pc, hpv, -⟩ := hpx
  obtain ⟨⟨ta2, tc2, htv2, -⟩, -⟩ := hty
  obtain ⟨pa2, pc2, hpv2, -⟩ := hpy
  obtain ⟨kx, bx, nx, rx, prx, imx, textx⟩ := x
  obtain ⟨ky, b_y, ny, ry, pry, imy, texty⟩ := y
  obtain ⟨-, -, -, -, ox3, ox4, ox5, -⟩ := hx
  obtain ⟨-, -, -, -, oy3, oy4, oy5, -⟩ := hy
  subst htv hpv htv2 hpv2
  unfold aggV
  simp only at *
  generalize p.len = PL at *
  generalize q.len = QL at *
  generalize hTX : textx.length = TX at *
  generalize hTY : texty.length = TY at *
  subst hk hk2
  have HR : Hid (cmpH ⟨4, bx, nx, rx, prx, imx, textx⟩ ⟨4, b_y, ny, ry, pry, imy, texty⟩ (cmpR p q) = cmpI (placeR rx) (placeR ry)) := by unfold Hid cmpH; simp
  rw [unhide HR]
  have HQ := hide (creal_any rx ry ox3 oy3)
  generalize cmpI (placeR rx) (placeR ry) = z at *
  clear hTX hTY
  go_enter Try.func38, Try.ntmps38
  go_wp2_with (first | (go_at_call 53; refine (unhide HQ _).mono ?_; rintro e w' ⟨rfl, hq⟩; have hq' := hq.symm; subst hq'))
  go_ret
  exact ⟨rfl, unhide HK0⟩

set_option maxRecDepth 100000 in
set_option maxHeartbeats 1000000 in
theorem cmpV_5 {S : Nat → Prop} {w : World} {x y : Hd} {tx px ty py : Value} {p q : Row} (hx : x.ok) (hy : y.ok) (htx : SeesIn S w tx x.text) (hty : SeesIn S w ty y.text) (hpx : RowV S w px p) (hpy : RowV S w py q) (hC : CmpC p) (hk : x.kind = 5) (hk2 : y.kind = 5) :
    Calls Try.prog 38 #[aggV x tx px, aggV y ty py] w fun e w' => e = .returned (.int .i64 (cmpH x y (cmpR p q))) ∧ Kept [] w w' := by
  have hsf := fun (w : World) (a : Addr) (m : Nat) (md : Mode) => run_store Try.prog w a (.float .f64 m) md rfl
  have hsc := fun (w : World) (a : Addr) (m n : Nat) (md : Mode) => run_store Try.prog w a (.complex .f64 m n) md rfl
  have k0 : Kept [] w ((w.alloc (.cells #[.int .i64 x.kind, .bool x.b, .int .i64 x.n, .float .f64 x.re, .complex .f64 x.pr x.im, tx, px] 48)).alloc (.cells #[.int .i64 y.kind, .bool y.b, .int .i64 y.n, .float .f64 y.re, .complex .f64 y.pr y.im, ty, py] 48)) := ((Kept.refl [] w).alloc _).alloc _
  have HTX := hide (htx.1.kept k0 (Or.inr (by simp)))
  have HTY := hide (hty.1.kept k0 (Or.inr (by simp)))
  have HCC := hide (hC q S _ _ _ (hpx.kept k0 (by simp)) (hpy.kept k0 (by simp)))
  have HK0 := hide k0
  clear k0
  obtain ⟨⟨ta, tc, htv, -⟩, -⟩ := htx
  obtain ⟨pa, pc, hpv, -⟩ := hpx
  obtain ⟨⟨ta2, tc2, htv2, -⟩, -⟩ := hty
  obtain ⟨pa2, pc2, hpv2, -⟩ := hpy
  obtain ⟨kx, bx, nx, rx, prx, imx, textx⟩ := x
  obtain ⟨ky, b_y, ny, ry, pry, imy, texty⟩ := y
  obtain ⟨-, -, -, -, ox3, ox4, ox5, -⟩ := hx
  obtain ⟨-, -, -, -, oy3, oy4, oy5, -⟩ := hy
  subst htv hpv htv2 hpv2
  unfold aggV
  simp only at *
  generalize p.len = PL at *
  generalize q.len = QL at *
  generalize hTX : textx.length = TX at *
  generalize hTY : texty.length = TY at *
  subst hk hk2
  have HR : Hid (cmpH ⟨5, bx, nx, rx, prx, imx, textx⟩ ⟨5, b_y, ny, ry, pry, imy, texty⟩ (cmpR p q) = orI (cmpI (placeR prx) (placeR pry)) (cmpI (placeR imx) (placeR imy))) := by unfold Hid cmpH; simp
  rw [unhide HR]
  have HQ := hide (cpoint_any prx pry imx imy ox4 oy4 ox5 oy5)
  generalize orI (cmpI (placeR prx) (placeR pry)) (cmpI (placeR imx) (placeR imy)) = z at *
  clear hTX hTY
  go_enter Try.func38, Try.ntmps38
  go_wp2_with (first | (go_at_call 54; refine (unhide HQ _).mono ?_; rintro e w' ⟨rfl, hq⟩; have HK1 := hide ((unhide HK0).trans hq (by simp)); clear hq))
  go_ret
  exact ⟨rfl, unhide HK1⟩

set_option maxRecDepth 100000 in
set_option maxHeartbeats 1000000 in
theorem cmpV_6 {S : Nat → Prop} {w : World} {x y : Hd} {tx px ty py : Value} {p q : Row} (hx : x.ok) (hy : y.ok) (htx : SeesIn S w tx x.text) (hty : SeesIn S w ty y.text) (hpx : RowV S w px p) (hpy : RowV S w py q) (hC : CmpC p) (hk : x.kind = 6) (hk2 : y.kind = 6) :
    Calls Try.prog 38 #[aggV x tx px, aggV y ty py] w fun e w' => e = .returned (.int .i64 (cmpH x y (cmpR p q))) ∧ Kept [] w w' := by
  have hsf := fun (w : World) (a : Addr) (m : Nat) (md : Mode) => run_store Try.prog w a (.float .f64 m) md rfl
  have hsc := fun (w : World) (a : Addr) (m n : Nat) (md : Mode) => run_store Try.prog w a (.complex .f64 m n) md rfl
  have k0 : Kept [] w ((w.alloc (.cells #[.int .i64 x.kind, .bool x.b, .int .i64 x.n, .float .f64 x.re, .complex .f64 x.pr x.im, tx, px] 48)).alloc (.cells #[.int .i64 y.kind, .bool y.b, .int .i64 y.n, .float .f64 y.re, .complex .f64 y.pr y.im, ty, py] 48)) := ((Kept.refl [] w).alloc _).alloc _
  have HTX := hide (htx.1.kept k0 (Or.inr (by simp)))
  have HTY := hide (hty.1.kept k0 (Or.inr (by simp)))
  have HCC := hide (hC q S _ _ _ (hpx.kept k0 (by simp)) (hpy.kept k0 (by simp)))
  have HK0 := hide k0
  clear k0
  obtain ⟨⟨ta, tc, htv, -⟩, -⟩ := htx
  obtain ⟨pa, pc, hpv, -⟩ := hpx
  obtain ⟨⟨ta2, tc2, htv2, -⟩, -⟩ := hty
  obtain ⟨pa2, pc2, hpv2, -⟩ := hpy
  obtain ⟨kx, bx, nx, rx, prx, imx, textx⟩ := x
  obtain ⟨ky, b_y, ny, ry, pry, imy, texty⟩ := y
  obtain ⟨-, -, -, -, ox3, ox4, ox5, -⟩ := hx
  obtain ⟨-, -, -, -, oy3, oy4, oy5, -⟩ := hy
  subst htv hpv htv2 hpv2
  unfold aggV
  simp only at *
  generalize p.len = PL at *
  generalize q.len = QL at *
  generalize hTX : textx.length = TX at *
  generalize hTY : texty.length = TY at *
  subst hk hk2
  have HR : Hid (cmpH ⟨6, bx, nx, rx, prx, imx, textx⟩ ⟨6, b_y, ny, ry, pry, imy, texty⟩ (cmpR p q) = cmpL textx texty) := by unfold Hid cmpH; simp
  rw [unhide HR]
  have HQ := hide (bcmp_any (unhide HTX) (unhide HTY))
  generalize cmpL textx texty = z at *
  clear hTX hTY
  go_enter Try.func38, Try.ntmps38
  go_wp2_with (first | (go_at_call 55; refine (unhide HQ).mono ?_; rintro e w' ⟨rfl, hq⟩; have hq' := hq.symm; subst hq'))
  go_ret
  exact ⟨rfl, unhide HK0⟩

set_option maxRecDepth 100000 in
set_option maxHeartbeats 1000000 in
theorem cmpV_7 {S : Nat → Prop} {w : World} {x y : Hd} {tx px ty py : Value} {p q : Row} (hx : x.ok) (hy : y.ok) (htx : SeesIn S w tx x.text) (hty : SeesIn S w ty y.text) (hpx : RowV S w px p) (hpy : RowV S w py q) (hC : CmpC p) (hk : x.kind = 7) (hk2 : y.kind = 7) :
    Calls Try.prog 38 #[aggV x tx px, aggV y ty py] w fun e w' => e = .returned (.int .i64 (cmpH x y (cmpR p q))) ∧ Kept [] w w' := by
  have hsf := fun (w : World) (a : Addr) (m : Nat) (md : Mode) => run_store Try.prog w a (.float .f64 m) md rfl
  have hsc := fun (w : World) (a : Addr) (m n : Nat) (md : Mode) => run_store Try.prog w a (.complex .f64 m n) md rfl
  have k0 : Kept [] w ((w.alloc (.cells #[.int .i64 x.kind, .bool x.b, .int .i64 x.n, .float .f64 x.re, .complex .f64 x.pr x.im, tx, px] 48)).alloc (.cells #[.int .i64 y.kind, .bool y.b, .int .i64 y.n, .float .f64 y.re, .complex .f64 y.pr y.im, ty, py] 48)) := ((Kept.refl [] w).alloc _).alloc _
  have HTX := hide (htx.1.kept k0 (Or.inr (by simp)))
  have HTY := hide (hty.1.kept k0 (Or.inr (by simp)))
  have HCC := hide (hC q S _ _ _ (hpx.kept k0 (by simp)) (hpy.kept k0 (by simp)))
  have HK0 := hide k0
  clear k0
  obtain ⟨⟨ta, tc, htv, -⟩, -⟩ := htx
  obtain ⟨pa, pc, hpv, -⟩ := hpx
  obtain ⟨⟨ta2, tc2, htv2, -⟩, -⟩ := hty
  obtain ⟨pa2, pc2, hpv2, -⟩ := hpy
  obtain ⟨kx, bx, nx, rx, prx, imx, textx⟩ := x
  obtain ⟨ky, b_y, ny, ry, pry, imy, texty⟩ := y
  obtain ⟨-, -, -, -, ox3, ox4, ox5, -⟩ := hx
  obtain ⟨-, -, -, -, oy3, oy4, oy5, -⟩ := hy
  subst htv hpv htv2 hpv2
  unfold aggV
  simp only at *
  generalize p.len = PL at *
  generalize q.len = QL at *
  generalize hTX : textx.length = TX at *
  generalize hTY : texty.length = TY at *
  subst hk hk2
  have HR : Hid (cmpH ⟨7, bx, nx, rx, prx, imx, textx⟩ ⟨7, b_y, ny, ry, pry, imy, texty⟩ (cmpR p q) = cmpR p q) := by unfold Hid cmpH; simp
  rw [unhide HR]
  generalize cmpR p q = z at *
  clear hTX hTY
  go_enter Try.func38, Try.ntmps38
  go_wp2_with (first | (go_at_call 33; refine (unhide HCC).mono ?_; rintro e w' ⟨rfl, hq⟩; have HK1 := hide ((unhide HK0).trans hq (by simp)); clear hq))
  go_ret
  exact ⟨rfl, unhide HK1⟩

set_option maxRecDepth 100000 in
set_option maxHeartbeats 1000000 in
theorem cmpV_no {S : Nat → Prop} {w : World} {x y : Hd} {tx px ty py : Value} {p q : Row} (hx : x.ok) (hy : y.ok) (htx : SeesIn S w tx x.text) (hty : SeesIn S w ty y.text) (hpx : RowV S w px p) (hpy : RowV S w py q) (hC : CmpC p) (hk : x.kind = y.kind) (hk2 : x.kind < 2 ∨ 7 < x.kind) :
    Calls Try.prog 38 #[aggV x tx px, aggV y ty py] w fun e w' => e = .returned (.int .i64 (cmpH x y (cmpR p q))) ∧ Kept [] w w' := by
  have hsf := fun (w : World) (a : Addr) (m : Nat) (md : Mode) => run_store Try.prog w a (.float .f64 m) md rfl
  have hsc := fun (w : World) (a : Addr) (m n : Nat) (md : Mode) => run_store Try.prog w a (.complex .f64 m n) md rfl
  have k0 : Kept [] w ((w.alloc (.cells #[.int .i64 x.kind, .bool x.b, .int .i64 x.n, .float .f64 x.re, .complex .f64 x.pr x.im, tx, px] 48)).alloc (.cells #[.int .i64 y.kind, .bool y.b, .int .i64 y.n, .float .f64 y.re, .complex .f64 y.pr y.im, ty, py] 48)) := ((Kept.refl [] w).alloc _).alloc _
  have HTX := hide (htx.1.kept k0 (Or.inr (by simp)))
  have HTY := hide (hty.1.kept k0 (Or.inr (by simp)))
  have HCC := hide (hC q S _ _ _ (hpx.kept k0 (by simp)) (hpy.kept k0 (by simp)))
  have HK0 := hide k0
  clear k0
  obtain ⟨⟨ta, tc, htv, -⟩, -⟩ := htx
  obtain ⟨pa, pc, hpv, -⟩ := hpx
  obtain ⟨⟨ta2, tc2, htv2, -⟩, -⟩ := hty
  obtain ⟨pa2, pc2, hpv2, -⟩ := hpy
  obtain ⟨kx, bx, nx, rx, prx, imx, textx⟩ := x
  obtain ⟨ky, b_y, ny, ry, pry, imy, texty⟩ := y
  obtain ⟨-, -, -, -, ox3, ox4, ox5, -⟩ := hx
  obtain ⟨-, -, -, -, oy3, oy4, oy5, -⟩ := hy
  subst htv hpv htv2 hpv2
  unfold aggV
  simp only at *
  generalize p.len = PL at *
  generalize q.len = QL at *
  generalize hTX : textx.length = TX at *
  generalize hTY : texty.length = TY at *
  subst hk
  have HR : Hid (cmpH ⟨kx, bx, nx, rx, prx, imx, textx⟩ ⟨kx, b_y, ny, ry, pry, imy, texty⟩ (cmpR p q) = 0) := by
    unfold Hid cmpH
    rw [if_neg (by simp), if_neg (by simp only; omega), if_neg (by simp only; omega), if_neg (by simp only; omega), if_neg (by simp only; omega), if_neg (by simp only; omega), if_neg (by simp only; omega)]
  rw [unhide HR]
  have t2 : (kx == 2) = false := by simp; omega
  have t3 : (kx == 3) = false := by simp; omega
  have t4 : (kx == 4) = false := by simp; omega
  have t5 : (kx == 5) = false := by simp; omega
  have t6 : (kx == 6) = false := by simp; omega
  have t7 : (kx == 7) = false := by simp; omega
  clear hk2 hTX hTY
  go_enter Try.func38, Try.ntmps38
  go_wp2
  go_ret
  exact ⟨rfl, unhide HK0⟩
end Go.Proofs.Ytigmofbammofbab
