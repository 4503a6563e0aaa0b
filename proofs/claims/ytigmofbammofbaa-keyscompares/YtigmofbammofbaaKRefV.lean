/- The document's order of values and of rows; its Compare. -/
import Derived.Test.YtigmofbammofbaaKRefO
import Derived.Test.YtigmofbammofbaaKCmpR
import Derived.Deep.RegionHeld3
namespace Go.Proofs.Ytigmofbammofbaa
open Go.RowKit

def RRowsC (r : Row) : Prop := ∀ (s : Row) (w : World) (va vb : Value), RowP w va r → RowP w vb s →
  Calls Try.prog 35 #[va, vb] w fun e w' => e = .returned (.int .i64 (cmpR r s)) ∧ Kept [] w w'
def aggP (h : Hd) (tv pv : Value) : Value := .agg #[.int .i64 h.kind, .bool h.b, .int .i64 h.n, .int .u64 (h.re : Int), .int .u64 (h.im : Int), tv, pv]

set_option maxRecDepth 100000 in
set_option maxHeartbeats 1000000 in
theorem rvals_ne {w : World} {x y : Hd} {tx px ty py : Value} {p q : Row} (hx : x.ok ∧ x.pr = x.re) (hy : y.ok ∧ y.pr = y.re) (htx : Sees w tx x.text) (hty : Sees w ty y.text) (hpx : RowP w px p) (hpy : RowP w py q) (hC : RRowsC p) (hk : x.kind ≠ y.kind) :
    Calls Try.prog 46 #[aggP x tx px, aggP y ty py] w fun e w' => e = .returned (.int .i64 (cmpH x y (cmpR p q))) ∧ Kept [] w w' := by
  have k0 : Kept [] w ((w.alloc (.cells #[.int .i64 x.kind, .bool x.b, .int .i64 x.n, .int .u64 (x.re : Int), .int .u64 (x.im : Int), tx, px] 62)).alloc (.cells #[.int .i64 y.kind, .bool y.b, .int .i64 y.n, .int .u64 (y.re : Int), .int .u64 (y.im : Int), ty, py] 62)) := ((Kept.refl [] w).alloc _).alloc _
  have HTXY := hide (texts_any (htx.kept k0 (Or.inr (by simp))) (hty.kept k0 (Or.inr (by simp))))
  have HCC := hide (hC q _ _ _ (hpx.kept k0) (hpy.kept k0))
  have HK0 := hide k0
  clear k0
  obtain ⟨ta, tc, htv, -⟩ := htx
  obtain ⟨pa, pc, hpv, -⟩ := hpx
  obtain ⟨ta2, tc2, htv2, -⟩ := hty
  obtain ⟨pa2, pc2, hpv2, -⟩ := hpy
  obtain ⟨kx, bx, nx, rx, prx, imx, textx⟩ := x
  obtain ⟨ky, b_y, ny, ry, pry, imy, texty⟩ := y
  obtain ⟨⟨-, -, -, -, ox3, ox4, ox5, -⟩, hpx⟩ := hx
  obtain ⟨⟨-, -, -, -, oy3, oy4, oy5, -⟩, hpy⟩ := hy
  subst htv hpv htv2 hpv2
  unfold aggP
  simp only at *
  subst hpx hpy
  generalize p.len = PL at *
  generalize q.len = QL at *
  generalize hTX : textx.length = TX at *
  generalize hTY : texty.length = TY at *
  clear hTX hTY
  have HR : Hid (cmpH ⟨kx, bx, nx, prx, prx, imx, textx⟩ ⟨ky, b_y, ny, pry, pry, imy, texty⟩ (cmpR p q) = cmpI kx ky) := by unfold Hid cmpH; rw [if_pos hk]
  rw [unhide HR]
  have HQ := hide (fun w => sign_any (decide (kx < ky)) true w)
  rw [sgn_ne kx ky hk] at HQ
  generalize cmpI kx ky = z at *
  have t1 : (kx != ky) = true := by simpa using hk
  go_enter Try.func46, Try.ntmps46
  go_wp2_with (first | (go_at_call 47; refine (unhide HQ _).mono ?_; rintro e w1 ⟨rfl, hq⟩; have hq' := hq.symm; subst hq'; clear hq))
  go_ret
  exact ⟨rfl, unhide HK0⟩

set_option maxRecDepth 100000 in
set_option maxHeartbeats 1000000 in
theorem rvals_2 {w : World} {x y : Hd} {tx px ty py : Value} {p q : Row} (hx : x.ok ∧ x.pr = x.re) (hy : y.ok ∧ y.pr = y.re) (htx : Sees w tx x.text) (hty : Sees w ty y.text) (hpx : RowP w px p) (hpy : RowP w py q) (hC : RRowsC p) (hk : x.kind = 2) (hk2 : y.kind = 2) :
    Calls Try.prog 46 #[aggP x tx px, aggP y ty py] w fun e w' => e = .returned (.int .i64 (cmpH x y (cmpR p q))) ∧ Kept [] w w' := by
  have k0 : Kept [] w ((w.alloc (.cells #[.int .i64 x.kind, .bool x.b, .int .i64 x.n, .int .u64 (x.re : Int), .int .u64 (x.im : Int), tx, px] 62)).alloc (.cells #[.int .i64 y.kind, .bool y.b, .int .i64 y.n, .int .u64 (y.re : Int), .int .u64 (y.im : Int), ty, py] 62)) := ((Kept.refl [] w).alloc _).alloc _
  have HTXY := hide (texts_any (htx.kept k0 (Or.inr (by simp))) (hty.kept k0 (Or.inr (by simp))))
  have HCC := hide (hC q _ _ _ (hpx.kept k0) (hpy.kept k0))
  have HK0 := hide k0
  clear k0
  obtain ⟨ta, tc, htv, -⟩ := htx
  obtain ⟨pa, pc, hpv, -⟩ := hpx
  obtain ⟨ta2, tc2, htv2, -⟩ := hty
  obtain ⟨pa2, pc2, hpv2, -⟩ := hpy
  obtain ⟨kx, bx, nx, rx, prx, imx, textx⟩ := x
  obtain ⟨ky, b_y, ny, ry, pry, imy, texty⟩ := y
  obtain ⟨⟨-, -, -, -, ox3, ox4, ox5, -⟩, hpx⟩ := hx
  obtain ⟨⟨-, -, -, -, oy3, oy4, oy5, -⟩, hpy⟩ := hy
  subst htv hpv htv2 hpv2
  unfold aggP
  simp only at *
  subst hpx hpy
  generalize p.len = PL at *
  generalize q.len = QL at *
  generalize hTX : textx.length = TX at *
  generalize hTY : texty.length = TY at *
  clear hTX hTY
  subst hk hk2
  have HR : Hid (cmpH ⟨2, bx, nx, prx, prx, imx, textx⟩ ⟨2, b_y, ny, pry, pry, imy, texty⟩ (cmpR p q) = cmpI (bitOf bx) (bitOf b_y)) := rfl
  rw [unhide HR]
  have HQ := hide (fun w => sign_any (!bx && b_y) (bx && !b_y) w)
  have HZ : Hid (sgn (!bx && b_y) (bx && !b_y) = cmpI (bitOf bx) (bitOf b_y)) := by cases bx <;> cases b_y <;> rfl
  rw [unhide HZ] at HQ
  generalize cmpI (bitOf bx) (bitOf b_y) = z at *
  clear HZ
  go_enter Try.func46, Try.ntmps46
  cases bx with
  | true =>
    cases b_y with
    | true =>
      go_wp2_with (first | (go_at_call 47; refine (unhide HQ _).mono ?_; rintro e w1 ⟨rfl, hq⟩; have hq' := hq.symm; subst hq'; clear hq))
      go_ret
      exact ⟨rfl, unhide HK0⟩
    | false =>
      go_wp2_with (first | (go_at_call 47; refine (unhide HQ _).mono ?_; rintro e w1 ⟨rfl, hq⟩; have hq' := hq.symm; subst hq'; clear hq))
      go_ret
      exact ⟨rfl, unhide HK0⟩
  | false =>
    cases b_y with
    | true =>
      go_wp2_with (first | (go_at_call 47; refine (unhide HQ _).mono ?_; rintro e w1 ⟨rfl, hq⟩; have hq' := hq.symm; subst hq'; clear hq))
      go_ret
      exact ⟨rfl, unhide HK0⟩
    | false =>
      go_wp2_with (first | (go_at_call 47; refine (unhide HQ _).mono ?_; rintro e w1 ⟨rfl, hq⟩; have hq' := hq.symm; subst hq'; clear hq))
      go_ret
      exact ⟨rfl, unhide HK0⟩

set_option maxRecDepth 100000 in
set_option maxHeartbeats 1000000 in
theorem rvals_3 {w : World} {x y : Hd} {tx px ty py : Value} {p q : Row} (hx : x.ok ∧ x.pr = x.re) (hy : y.ok ∧ y.pr = y.re) (htx : Sees w tx x.text) (hty : Sees w ty y.text) (hpx : RowP w px p) (hpy : RowP w py q) (hC : RRowsC p) (hk : x.kind = 3) (hk2 : y.kind = 3) :
    Calls Try.prog 46 #[aggP x tx px, aggP y ty py] w fun e w' => e = .returned (.int .i64 (cmpH x y (cmpR p q))) ∧ Kept [] w w' := by
  have k0 : Kept [] w ((w.alloc (.cells #[.int .i64 x.kind, .bool x.b, .int .i64 x.n, .int .u64 (x.re : Int), .int .u64 (x.im : Int), tx, px] 62)).alloc (.cells #[.int .i64 y.kind, .bool y.b, .int .i64 y.n, .int .u64 (y.re : Int), .int .u64 (y.im : Int), ty, py] 62)) := ((Kept.refl [] w).alloc _).alloc _
  have HTXY := hide (texts_any (htx.kept k0 (Or.inr (by simp))) (hty.kept k0 (Or.inr (by simp))))
  have HCC := hide (hC q _ _ _ (hpx.kept k0) (hpy.kept k0))
  have HK0 := hide k0
  clear k0
  obtain ⟨ta, tc, htv, -⟩ := htx
  obtain ⟨pa, pc, hpv, -⟩ := hpx
  obtain ⟨ta2, tc2, htv2, -⟩ := hty
  obtain ⟨pa2, pc2, hpv2, -⟩ := hpy
  obtain ⟨kx, bx, nx, rx, prx, imx, textx⟩ := x
  obtain ⟨ky, b_y, ny, ry, pry, imy, texty⟩ := y
  obtain ⟨⟨-, -, -, -, ox3, ox4, ox5, -⟩, hpx⟩ := hx
  obtain ⟨⟨-, -, -, -, oy3, oy4, oy5, -⟩, hpy⟩ := hy
  subst htv hpv htv2 hpv2
  unfold aggP
  simp only at *
  subst hpx hpy
  generalize p.len = PL at *
  generalize q.len = QL at *
  generalize hTX : textx.length = TX at *
  generalize hTY : texty.length = TY at *
  clear hTX hTY
  subst hk hk2
  have HR : Hid (cmpH ⟨3, bx, nx, prx, prx, imx, textx⟩ ⟨3, b_y, ny, pry, pry, imy, texty⟩ (cmpR p q) = cmpI nx ny) := rfl
  rw [unhide HR]
  have HQ := hide (fun w => sign_any (decide (nx < ny)) (decide (ny < nx)) w)
  rw [sgn_cmp] at HQ
  generalize cmpI nx ny = z at *
  go_enter Try.func46, Try.ntmps46
  go_wp2_with (first | (go_at_call 47; refine (unhide HQ _).mono ?_; rintro e w1 ⟨rfl, hq⟩; have hq' := hq.symm; subst hq'; clear hq))
  go_ret
  exact ⟨rfl, unhide HK0⟩

set_option maxRecDepth 100000 in
set_option maxHeartbeats 1000000 in
theorem rvals_4 {w : World} {x y : Hd} {tx px ty py : Value} {p q : Row} (hx : x.ok ∧ x.pr = x.re) (hy : y.ok ∧ y.pr = y.re) (htx : Sees w tx x.text) (hty : Sees w ty y.text) (hpx : RowP w px p) (hpy : RowP w py q) (hC : RRowsC p) (hk : x.kind = 4) (hk2 : y.kind = 4) :
    Calls Try.prog 46 #[aggP x tx px, aggP y ty py] w fun e w' => e = .returned (.int .i64 (cmpH x y (cmpR p q))) ∧ Kept [] w w' := by
  have k0 : Kept [] w ((w.alloc (.cells #[.int .i64 x.kind, .bool x.b, .int .i64 x.n, .int .u64 (x.re : Int), .int .u64 (x.im : Int), tx, px] 62)).alloc (.cells #[.int .i64 y.kind, .bool y.b, .int .i64 y.n, .int .u64 (y.re : Int), .int .u64 (y.im : Int), ty, py] 62)) := ((Kept.refl [] w).alloc _).alloc _
  have HTXY := hide (texts_any (htx.kept k0 (Or.inr (by simp))) (hty.kept k0 (Or.inr (by simp))))
  have HCC := hide (hC q _ _ _ (hpx.kept k0) (hpy.kept k0))
  have HK0 := hide k0
  clear k0
  obtain ⟨ta, tc, htv, -⟩ := htx
  obtain ⟨pa, pc, hpv, -⟩ := hpx
  obtain ⟨ta2, tc2, htv2, -⟩ := hty
  obtain ⟨pa2, pc2, hpv2, -⟩ := hpy
  obtain ⟨kx, bx, nx, rx, prx, imx, textx⟩ := x
  obtain ⟨ky, b_y, ny, ry, pry, imy, texty⟩ := y
  obtain ⟨⟨-, -, -, -, ox3, ox4, ox5, -⟩, hpx⟩ := hx
  obtain ⟨⟨-, -, -, -, oy3, oy4, oy5, -⟩, hpy⟩ := hy
  subst htv hpv htv2 hpv2
  unfold aggP
  simp only at *
  subst hpx hpy
  generalize p.len = PL at *
  generalize q.len = QL at *
  generalize hTX : textx.length = TX at *
  generalize hTY : texty.length = TY at *
  clear hTX hTY
  subst hk hk2
  have HR : Hid (cmpH ⟨4, bx, nx, prx, prx, imx, textx⟩ ⟨4, b_y, ny, pry, pry, imy, texty⟩ (cmpR p q) = cmpI (placeR prx) (placeR pry)) := rfl
  rw [unhide HR]
  have HQ := hide (fun w => reals_any prx pry ox3 oy3 w)
  generalize cmpI (placeR prx) (placeR pry) = z at *
  go_enter Try.func46, Try.ntmps46
  go_wp2_with (first | (go_at_call 62; refine (unhide HQ _).mono ?_; rintro e w1 ⟨rfl, hq⟩; have hq' := hq.symm; subst hq'; clear hq))
  go_ret
  exact ⟨rfl, unhide HK0⟩

set_option maxRecDepth 100000 in
set_option maxHeartbeats 1000000 in
theorem rvals_5 {w : World} {x y : Hd} {tx px ty py : Value} {p q : Row} (hx : x.ok ∧ x.pr = x.re) (hy : y.ok ∧ y.pr = y.re) (htx : Sees w tx x.text) (hty : Sees w ty y.text) (hpx : RowP w px p) (hpy : RowP w py q) (hC : RRowsC p) (hk : x.kind = 5) (hk2 : y.kind = 5) :
    Calls Try.prog 46 #[aggP x tx px, aggP y ty py] w fun e w' => e = .returned (.int .i64 (cmpH x y (cmpR p q))) ∧ Kept [] w w' := by
  have k0 : Kept [] w ((w.alloc (.cells #[.int .i64 x.kind, .bool x.b, .int .i64 x.n, .int .u64 (x.re : Int), .int .u64 (x.im : Int), tx, px] 62)).alloc (.cells #[.int .i64 y.kind, .bool y.b, .int .i64 y.n, .int .u64 (y.re : Int), .int .u64 (y.im : Int), ty, py] 62)) := ((Kept.refl [] w).alloc _).alloc _
  have HTXY := hide (texts_any (htx.kept k0 (Or.inr (by simp))) (hty.kept k0 (Or.inr (by simp))))
  have HCC := hide (hC q _ _ _ (hpx.kept k0) (hpy.kept k0))
  have HK0 := hide k0
  clear k0
  obtain ⟨ta, tc, htv, -⟩ := htx
  obtain ⟨pa, pc, hpv, -⟩ := hpx
  obtain ⟨ta2, tc2, htv2, -⟩ := hty
  obtain ⟨pa2, pc2, hpv2, -⟩ := hpy
  obtain ⟨kx, bx, nx, rx, prx, imx, textx⟩ := x
  obtain ⟨ky, b_y, ny, ry, pry, imy, texty⟩ := y
  obtain ⟨⟨-, -, -, -, ox3, ox4, ox5, -⟩, hpx⟩ := hx
  obtain ⟨⟨-, -, -, -, oy3, oy4, oy5, -⟩, hpy⟩ := hy
  subst htv hpv htv2 hpv2
  unfold aggP
  simp only at *
  subst hpx hpy
  generalize p.len = PL at *
  generalize q.len = QL at *
  generalize hTX : textx.length = TX at *
  generalize hTY : texty.length = TY at *
  clear hTX hTY
  subst hk hk2
  have HR : Hid (cmpH ⟨5, bx, nx, prx, prx, imx, textx⟩ ⟨5, b_y, ny, pry, pry, imy, texty⟩ (cmpR p q) = orI (cmpI (placeR prx) (placeR pry)) (cmpI (placeR imx) (placeR imy))) := rfl
  rw [unhide HR]
  have HQ := hide (fun w => reals_any prx pry ox3 oy3 w)
  have HQ2 := hide (fun w => reals_any imx imy ox5 oy5 w)
  have hzr := cmpI_range (placeR prx) (placeR pry)
  generalize cmpI (placeR prx) (placeR pry) = z at *
  generalize cmpI (placeR imx) (placeR imy) = z2 at *
  by_cases hz : z = 0
  · subst hz
    have HO : Hid (orI 0 z2 = z2) := rfl
    rw [unhide HO]
    go_enter Try.func46, Try.ntmps46
    go_wp2_with (first | (go_at_call 62; refine (unhide HQ _).mono ?_; rintro e w1 ⟨rfl, hq⟩; have hq' := hq.symm; subst hq'; clear hq; clear HQ) | (go_at_call 62; refine (unhide HQ2 _).mono ?_; rintro e w1 ⟨rfl, hq⟩; have hq' := hq.symm; subst hq'; clear hq; clear HQ2))
    go_ret
    exact ⟨rfl, unhide HK0⟩
  have HO : Hid (orI z z2 = z) := by unfold Hid orI; rw [if_pos hz]
  rw [unhide HO]
  have t1 : (z != 0) = true := by simpa using hz
  have t2 : (z = 0) = False := by simpa using hz
  go_enter Try.func46, Try.ntmps46
  go_wp2_with (first | (go_at_call 62; refine (unhide HQ _).mono ?_; rintro e w1 ⟨rfl, hq⟩; have hq' := hq.symm; subst hq'; clear hq; clear HQ))
  go_ret
  exact ⟨rfl, unhide HK0⟩

set_option maxRecDepth 100000 in
set_option maxHeartbeats 1000000 in
theorem rvals_6 {w : World} {x y : Hd} {tx px ty py : Value} {p q : Row} (hx : x.ok ∧ x.pr = x.re) (hy : y.ok ∧ y.pr = y.re) (htx : Sees w tx x.text) (hty : Sees w ty y.text) (hpx : RowP w px p) (hpy : RowP w py q) (hC : RRowsC p) (hk : x.kind = 6) (hk2 : y.kind = 6) :
    Calls Try.prog 46 #[aggP x tx px, aggP y ty py] w fun e w' => e = .returned (.int .i64 (cmpH x y (cmpR p q))) ∧ Kept [] w w' := by
  have k0 : Kept [] w ((w.alloc (.cells #[.int .i64 x.kind, .bool x.b, .int .i64 x.n, .int .u64 (x.re : Int), .int .u64 (x.im : Int), tx, px] 62)).alloc (.cells #[.int .i64 y.kind, .bool y.b, .int .i64 y.n, .int .u64 (y.re : Int), .int .u64 (y.im : Int), ty, py] 62)) := ((Kept.refl [] w).alloc _).alloc _
  have HTXY := hide (texts_any (htx.kept k0 (Or.inr (by simp))) (hty.kept k0 (Or.inr (by simp))))
  have HCC := hide (hC q _ _ _ (hpx.kept k0) (hpy.kept k0))
  have HK0 := hide k0
  clear k0
  obtain ⟨ta, tc, htv, -⟩ := htx
  obtain ⟨pa, pc, hpv, -⟩ := hpx
  obtain ⟨ta2, tc2, htv2, -⟩ := hty
  obtain ⟨pa2, pc2, hpv2, -⟩ := hpy
  obtain ⟨kx, bx, nx, rx, prx, imx, textx⟩ := x
  obtain ⟨ky, b_y, ny, ry, pry, imy, texty⟩ := y
  obtain ⟨⟨-, -, -, -, ox3, ox4, ox5, -⟩, hpx⟩ := hx
  obtain ⟨⟨-, -, -, -, oy3, oy4, oy5, -⟩, hpy⟩ := hy
  subst htv hpv htv2 hpv2
  unfold aggP
  simp only at *
  subst hpx hpy
  generalize p.len = PL at *
  generalize q.len = QL at *
  generalize hTX : textx.length = TX at *
  generalize hTY : texty.length = TY at *
  clear hTX hTY
  subst hk hk2
  have HR : Hid (cmpH ⟨6, bx, nx, prx, prx, imx, textx⟩ ⟨6, b_y, ny, pry, pry, imy, texty⟩ (cmpR p q) = cmpL textx texty) := rfl
  rw [unhide HR]
  generalize cmpL textx texty = z at *
  go_enter Try.func46, Try.ntmps46
  go_wp2_with (first | (go_at_call 63; refine (unhide HTXY).mono ?_; rintro e w1 ⟨rfl, hq⟩; have HK1 := hide ((unhide HK0).trans hq (by simp)); clear hq))
  go_ret
  exact ⟨rfl, unhide HK1⟩

set_option maxRecDepth 100000 in
set_option maxHeartbeats 1000000 in
theorem rvals_7 {w : World} {x y : Hd} {tx px ty py : Value} {p q : Row} (hx : x.ok ∧ x.pr = x.re) (hy : y.ok ∧ y.pr = y.re) (htx : Sees w tx x.text) (hty : Sees w ty y.text) (hpx : RowP w px p) (hpy : RowP w py q) (hC : RRowsC p) (hk : x.kind = 7) (hk2 : y.kind = 7) :
    Calls Try.prog 46 #[aggP x tx px, aggP y ty py] w fun e w' => e = .returned (.int .i64 (cmpH x y (cmpR p q))) ∧ Kept [] w w' := by
  have k0 : Kept [] w ((w.alloc (.cells #[.int .i64 x.kind, .bool x.b, .int .i64 x.n, .int .u64 (x.re : Int), .int .u64 (x.im : Int), tx, px] 62)).alloc (.cells #[.int .i64 y.kind, .bool y.b, .int .i64 y.n, .int .u64 (y.re : Int), .int .u64 (y.im : Int), ty, py] 62)) := ((Kept.refl [] w).alloc _).alloc _
  have HTXY := hide (texts_any (htx.kept k0 (Or.inr (by simp))) (hty.kept k0 (Or.inr (by simp))))
  have HCC := hide (hC q _ _ _ (hpx.kept k0) (hpy.kept k0))
  have HK0 := hide k0
  clear k0
  obtain ⟨ta, tc, htv, -⟩ := htx
  obtain ⟨pa, pc, hpv, -⟩ := hpx
  obtain ⟨ta2, tc2, htv2, -⟩ := hty
  obtain ⟨pa2, pc2, hpv2, -⟩ := hpy
  obtain ⟨kx, bx, nx, rx, prx, imx, textx⟩ := x
  obtain ⟨ky, b_y, ny, ry, pry, imy, texty⟩ := y
  obtain ⟨⟨-, -, -, -, ox3, ox4, ox5, -⟩, hpx⟩ := hx
  obtain ⟨⟨-, -, -, -, oy3, oy4, oy5, -⟩, hpy⟩ := hy
  subst htv hpv htv2 hpv2
  unfold aggP
  simp only at *
  subst hpx hpy
  generalize p.len = PL at *
  generalize q.len = QL at *
  generalize hTX : textx.length = TX at *
  generalize hTY : texty.length = TY at *
  clear hTX hTY
  subst hk hk2
  have HR : Hid (cmpH ⟨7, bx, nx, prx, prx, imx, textx⟩ ⟨7, b_y, ny, pry, pry, imy, texty⟩ (cmpR p q) = cmpR p q) := rfl
  rw [unhide HR]
  generalize cmpR p q = z at *
  go_enter Try.func46, Try.ntmps46
  go_wp2_with (first | (go_at_call 35; refine (unhide HCC).mono ?_; rintro e w1 ⟨rfl, hq⟩; have HK1 := hide ((unhide HK0).trans hq (by simp)); clear hq))
  go_ret
  exact ⟨rfl, unhide HK1⟩

set_option maxRecDepth 100000 in
set_option maxHeartbeats 1000000 in
theorem rvals_no {w : World} {x y : Hd} {tx px ty py : Value} {p q : Row} (hx : x.ok ∧ x.pr = x.re) (hy : y.ok ∧ y.pr = y.re) (htx : Sees w tx x.text) (hty : Sees w ty y.text) (hpx : RowP w px p) (hpy : RowP w py q) (hC : RRowsC p) (hk : x.kind = y.kind) (hk2 : x.kind < 2 ∨ 7 < x.kind) :
    Calls Try.prog 46 #[aggP x tx px, aggP y ty py] w fun e w' => e = .returned (.int .i64 (cmpH x y (cmpR p q))) ∧ Kept [] w w' := by
  have k0 : Kept [] w ((w.alloc (.cells #[.int .i64 x.kind, .bool x.b, .int .i64 x.n, .int .u64 (x.re : Int), .int .u64 (x.im : Int), tx, px] 62)).alloc (.cells #[.int .i64 y.kind, .bool y.b, .int .i64 y.n, .int .u64 (y.re : Int), .int .u64 (y.im : Int), ty, py] 62)) := ((Kept.refl [] w).alloc _).alloc _
  have HTXY := hide (texts_any (htx.kept k0 (Or.inr (by simp))) (hty.kept k0 (Or.inr (by simp))))
  have HCC := hide (hC q _ _ _ (hpx.kept k0) (hpy.kept k0))
  have HK0 := hide k0
  clear k0
  obtain ⟨ta, tc, htv, -⟩ := htx
  obtain ⟨pa, pc, hpv, -⟩ := hpx
  obtain ⟨ta2, tc2, htv2, -⟩ := hty
  obtain ⟨pa2, pc2, hpv2, -⟩ := hpy
  obtain ⟨kx, bx, nx, rx, prx, imx, textx⟩ := x
  obtain ⟨ky, b_y, ny, ry, pry, imy, texty⟩ := y
  obtain ⟨⟨-, -, -, -, ox3, ox4, ox5, -⟩, hpx⟩ := hx
  obtain ⟨⟨-, -, -, -, oy3, oy4, oy5, -⟩, hpy⟩ := hy
  subst htv hpv htv2 hpv2
  unfold aggP
  simp only at *
  subst hpx hpy
  generalize p.len = PL at *
  generalize q.len = QL at *
  generalize hTX : textx.length = TX at *
  generalize hTY : texty.length = TY at *
  clear hTX hTY
  subst hk
  have HR : Hid (cmpH ⟨kx, bx, nx, prx, prx, imx, textx⟩ ⟨kx, b_y, ny, pry, pry, imy, texty⟩ (cmpR p q) = 0) := by
    unfold Hid cmpH
    simp only
    rw [if_neg (by simp), if_neg (by omega), if_neg (by omega), if_neg (by omega), if_neg (by omega), if_neg (by omega), if_neg (by omega)]
  rw [unhide HR]
  have t2 : (kx == 2) = false := by simp; omega
  have t3 : (kx == 3) = false := by simp; omega
  have t4 : (kx == 4) = false := by simp; omega
  have t5 : (kx == 5) = false := by simp; omega
  have t6 : (kx == 6) = false := by simp; omega
  have t7 : (kx == 7) = false := by simp; omega
  go_enter Try.func46, Try.ntmps46
  go_wp2
  go_ret
  exact ⟨rfl, unhide HK0⟩

theorem rvals_any {w : World} {x y : Hd} {tx px ty py : Value} {p q : Row} (hx : x.ok ∧ x.pr = x.re) (hy : y.ok ∧ y.pr = y.re) (htx : Sees w tx x.text) (hty : Sees w ty y.text) (hpx : RowP w px p) (hpy : RowP w py q) (hC : RRowsC p) :
    Calls Try.prog 46 #[aggP x tx px, aggP y ty py] w fun e w' => e = .returned (.int .i64 (cmpH x y (cmpR p q))) ∧ Kept [] w w' := by
  by_cases hk : x.kind = y.kind
  · by_cases h2 : x.kind < 2 ∨ 7 < x.kind
    · exact rvals_no hx hy htx hty hpx hpy hC hk h2
    · obtain e | e | e | e | e | e : x.kind = 2 ∨ x.kind = 3 ∨ x.kind = 4 ∨ x.kind = 5 ∨ x.kind = 6 ∨ x.kind = 7 := by omega
      · exact rvals_2 hx hy htx hty hpx hpy hC e (hk.symm.trans e)
      · exact rvals_3 hx hy htx hty hpx hpy hC e (hk.symm.trans e)
      · exact rvals_4 hx hy htx hty hpx hpy hC e (hk.symm.trans e)
      · exact rvals_5 hx hy htx hty hpx hpy hC e (hk.symm.trans e)
      · exact rvals_6 hx hy htx hty hpx hpy hC e (hk.symm.trans e)
      · exact rvals_7 hx hy htx hty hpx hpy hC e (hk.symm.trans e)
  · exact rvals_ne hx hy htx hty hpx hpy hC hk
end Go.Proofs.Ytigmofbammofbaa
