/- KeysNumbers: ints and real numbers as the language orders them. -/
import Derived.Test.YtigmofbammofbaaKAwake
import Derived.Test.YtigmofbammofbaaKFlt
namespace Go.Proofs.Ytigmofbammofbaa
open Go.RowKit

theorem row1_mem {w : World} {b : Nat} {h : Hd} (hok : h.ok) (ht : h.text = []) (hb : Blk w b #[.int .i64 h.kind, .bool h.b, .int .i64 h.n, .float .f64 h.re, .complex .f64 h.pr h.im, .slice none 0 0, .slice none 0 0] 54) : RowV Any w (.slice (some ⟨b, 0, none⟩) 1 1) (.cons h .nil .nil) := by
  refine ⟨some ⟨b, 0, none⟩, 1, rfl, by simp [Row.len], by simp [maxLen], Or.inr ⟨b, 0, rfl, hb.lt, trivial, ?_⟩⟩
  refine ⟨⟨hok, _, _, ⟨hb.cell 0, hb.cell 1, hb.cell 2, hb.cell 3, hb.cell 4, hb.cell 5, hb.cell 6⟩, ?_, RowV.nil _ _⟩, trivial⟩
  rw [ht]
  exact SeesIn.none _ _
theorem cmp1 {w : World} {bx b_y : Nat} {x y : Hd} (ox : x.ok) (oy : y.ok) (tx : x.text = []) (ty : y.text = []) (k1 : 1 ≤ x.kind) (k2 : x.kind ≤ 6) (ke : y.kind = x.kind)
    (hx : Blk w bx #[.int .i64 x.kind, .bool x.b, .int .i64 x.n, .float .f64 x.re, .complex .f64 x.pr x.im, .slice none 0 0, .slice none 0 0] 54) (hy : Blk w b_y #[.int .i64 y.kind, .bool y.b, .int .i64 y.n, .float .f64 y.re, .complex .f64 y.pr y.im, .slice none 0 0, .slice none 0 0] 54) :
    Calls Try.prog 21 #[.slice (some ⟨bx, 0, none⟩) 1 1, .slice (some ⟨b_y, 0, none⟩) 1 1] w fun e w' => e = .returned (.tuple #[.int .i64 (cmpH x y 0), .int .i64 0]) ∧ Kept [] w w' := by
  refine (compare_any (row1_mem ox tx hx) (row1_mem oy ty hy)).mono ?_
  rintro e w' ⟨hk, rfl⟩
  have f1 : faultR (.cons x .nil .nil) 0 = 0 := by rw [faultR_cons, if_neg (by omega), if_neg (by omega)]; rfl
  have f2 : faultR (.cons y .nil .nil) 0 = 0 := by rw [faultR_cons, if_neg (by omega), if_neg (by omega)]; rfl
  rw [f1, f2]
  have h : cmpR (.cons x .nil .nil) (.cons y .nil .nil) = cmpH x y 0 := by
    rw [cmpR_cons]
    show (if cmpH x y 0 ≠ 0 then cmpH x y 0 else 0) = cmpH x y 0
    split
    · rfl
    · rename_i h; exact (Decidable.of_not_not h).symm
  rw [h]
  exact ⟨by simp, hk⟩
theorem okI {n : Int} (h1 : -9223372036854775808 ≤ n) (h2 : n ≤ 9223372036854775807) : Hd.ok { hd0 3 with n := n } := ⟨by simp [hd0], by simp [hd0], h1, h2, by simp [hd0], by simp [hd0], by simp [hd0], by simp [hd0]⟩
theorem cmpI_lt (a b : Int) : (cmpI a b == -1) = decide (a < b) := by
  unfold cmpI
  by_cases h : a < b
  · simp [h]
  · by_cases h2 : b < a
    · simp [h, h2]
    · simp [h, h2]
theorem cmpI_gt (a b : Int) : (cmpI a b == 1) = decide (b < a) := by
  unfold cmpI
  by_cases h : a < b
  · simp [h]; omega
  · by_cases h2 : b < a
    · simp [h, h2]
    · simp [h, h2]

set_option maxRecDepth 100000 in
set_option maxHeartbeats 4000000 in
theorem numbers_nn (w : World) (a b : Int) (x y : Nat) (a1 : -9223372036854775808 ≤ a) (a2 : a ≤ 9223372036854775807) (b1 : -9223372036854775808 ≤ b) (b2 : b ≤ 9223372036854775807) (hx : x < 18446744073709551616) (hy : y < 18446744073709551616)
    (hd : cmpI (placeR x) (placeR y) = 0) (n1 : (FloatKind.f64.format.order x x != some .eq) = true) (n2 : (FloatKind.f64.format.order y y != some .eq) = true) :
    Calls Try.prog 8 #[.int .i64 a, .int .i64 b, .int .u64 (x : Int), .int .u64 (y : Int)] w fun e w' => e = .returned (.bool true) ∧ Kept [] w w' := by
  have HA := hide (awake_any w)
  have hkf := kf
  have hc1 := cmpI_lt a b
  have hc2 := cmpI_gt a b
  have HI := hide (fun (w : World) (bx b_y : Nat) hb1 hb2 => cmp1 (w := w) (bx := bx) (b_y := b_y) (okI a1 a2) (okI b1 b2) rfl rfl (by simp [hd0]) (by simp [hd0]) rfl hb1 hb2)
  have HR := hide (fun (w : World) (bx b_y : Nat) hb1 hb2 => cmp1 (w := w) (bx := bx) (b_y := b_y) (ok4 hx) (ok4 hy) rfl rfl (by simp [hd0]) (by simp [hd0]) rfl hb1 hb2)
  have HP := hide (fun (w : World) (bx b_y : Nat) hb1 hb2 => cmp1 (w := w) (bx := bx) (b_y := b_y) (ok5 (m := 4607182418800017408) (by omega) hx) (ok5 (m := 4607182418800017408) (by omega) hy) rfl rfl (by simp [hd0]) (by simp [hd0]) rfl hb1 hb2)
  have e1 : cmpH { hd0 3 with n := a } { hd0 3 with n := b } 0 = cmpI a b := by simp [cmpH, hd0]
  have e2 : cmpH { hd0 4 with re := x } { hd0 4 with re := y } 0 = cmpI (placeR x) (placeR y) := by simp [cmpH, hd0]
  have e3 : cmpH { hd0 5 with pr := 4607182418800017408, im := x } { hd0 5 with pr := 4607182418800017408, im := y } 0 = cmpI (placeR x) (placeR y) := by simp [cmpH, hd0, cmpI, orI]
  rw [e1] at HI
  rw [e2, hd] at HR
  rw [e3, hd] at HP
  simp only [hd0] at HI HR HP
  clear e1 e2 e3 hd
  generalize cmpI a b = c at *
  go_enter Try.func8, Try.ntmps8
  go_wp2_with (first
    | (go_at_call 24; refine (unhide HA).mono ?_; rintro e w1 ⟨rfl, hk1⟩; have HK1 := hide hk1; clear hk1; have h1 := Blk.new (w1.alloc (.cells #[.int .i64 3, .bool false, .int .i64 a, .float .f64 0, .complex .f64 0 0, .slice none 0 0, .slice none 0 0] 54)) #[.int .i64 3, .bool false, .int .i64 b, .float .f64 0, .complex .f64 0 0, .slice none 0 0, .slice none 0 0] 54; rw [World.size_alloc] at h1; have HI2 := hide (unhide HI _ _ _ ((Blk.new w1 #[.int .i64 3, .bool false, .int .i64 a, .float .f64 0, .complex .f64 0 0, .slice none 0 0, .slice none 0 0] 54).alloc _) h1); clear h1)
    | (go_at_call 21; refine (unhide HI2).mono ?_; rintro e w2 ⟨rfl, hk2⟩; have HK2 := hide ((((unhide HK1).alloc _).alloc _).trans hk2 (by simp)); clear hk2 HI2; have h1 := Blk.new (w2.alloc (.cells #[.int .i64 4, .bool false, .int .i64 0, .float .f64 x, .complex .f64 0 0, .slice none 0 0, .slice none 0 0] 54)) #[.int .i64 4, .bool false, .int .i64 0, .float .f64 y, .complex .f64 0 0, .slice none 0 0, .slice none 0 0] 54; rw [World.size_alloc] at h1; have HR2 := hide (unhide HR _ _ _ ((Blk.new w2 #[.int .i64 4, .bool false, .int .i64 0, .float .f64 x, .complex .f64 0 0, .slice none 0 0, .slice none 0 0] 54).alloc _) h1); clear h1)
    | (go_at_call 21; refine (unhide HR2).mono ?_; rintro e w3 ⟨rfl, hk3⟩; have HK3 := hide ((((unhide HK2).alloc _).alloc _).trans hk3 (by simp)); clear hk3 HR2; have h1 := Blk.new (w3.alloc (.cells #[.int .i64 5, .bool false, .int .i64 0, .float .f64 0, .complex .f64 4607182418800017408 x, .slice none 0 0, .slice none 0 0] 54)) #[.int .i64 5, .bool false, .int .i64 0, .float .f64 0, .complex .f64 4607182418800017408 y, .slice none 0 0, .slice none 0 0] 54; rw [World.size_alloc] at h1; have HP2 := hide (unhide HP _ _ _ ((Blk.new w3 #[.int .i64 5, .bool false, .int .i64 0, .float .f64 0, .complex .f64 4607182418800017408 x, .slice none 0 0, .slice none 0 0] 54).alloc _) h1); clear h1)
    | (go_at_call 21; refine (unhide HP2).mono ?_; rintro e w4 ⟨rfl, hk4⟩; have HK4 := hide ((((unhide HK3).alloc _).alloc _).trans hk4 (by simp)); clear hk4))
  all_goals go_ret
  all_goals exact ⟨rfl, unhide HK4⟩

set_option maxRecDepth 100000 in
set_option maxHeartbeats 4000000 in
theorem numbers_nx (w : World) (a b : Int) (x y : Nat) (a1 : -9223372036854775808 ≤ a) (a2 : a ≤ 9223372036854775807) (b1 : -9223372036854775808 ≤ b) (b2 : b ≤ 9223372036854775807) (hx : x < 18446744073709551616) (hy : y < 18446744073709551616)
    (hd : cmpI (placeR x) (placeR y) = 1) (n1 : (FloatKind.f64.format.order x x != some .eq) = true) (n2 : (FloatKind.f64.format.order y y != some .eq) = false) :
    Calls Try.prog 8 #[.int .i64 a, .int .i64 b, .int .u64 (x : Int), .int .u64 (y : Int)] w fun e w' => e = .returned (.bool true) ∧ Kept [] w w' := by
  have HA := hide (awake_any w)
  have hkf := kf
  have hc1 := cmpI_lt a b
  have hc2 := cmpI_gt a b
  have HI := hide (fun (w : World) (bx b_y : Nat) hb1 hb2 => cmp1 (w := w) (bx := bx) (b_y := b_y) (okI a1 a2) (okI b1 b2) rfl rfl (by simp [hd0]) (by simp [hd0]) rfl hb1 hb2)
  have HR := hide (fun (w : World) (bx b_y : Nat) hb1 hb2 => cmp1 (w := w) (bx := bx) (b_y := b_y) (ok4 hx) (ok4 hy) rfl rfl (by simp [hd0]) (by simp [hd0]) rfl hb1 hb2)
  have HP := hide (fun (w : World) (bx b_y : Nat) hb1 hb2 => cmp1 (w := w) (bx := bx) (b_y := b_y) (ok5 (m := 4607182418800017408) (by omega) hx) (ok5 (m := 4607182418800017408) (by omega) hy) rfl rfl (by simp [hd0]) (by simp [hd0]) rfl hb1 hb2)
  have e1 : cmpH { hd0 3 with n := a } { hd0 3 with n := b } 0 = cmpI a b := by simp [cmpH, hd0]
  have e2 : cmpH { hd0 4 with re := x } { hd0 4 with re := y } 0 = cmpI (placeR x) (placeR y) := by simp [cmpH, hd0]
  have e3 : cmpH { hd0 5 with pr := 4607182418800017408, im := x } { hd0 5 with pr := 4607182418800017408, im := y } 0 = cmpI (placeR x) (placeR y) := by simp [cmpH, hd0, cmpI, orI]
  rw [e1] at HI
  rw [e2, hd] at HR
  rw [e3, hd] at HP
  simp only [hd0] at HI HR HP
  clear e1 e2 e3 hd
  generalize cmpI a b = c at *
  go_enter Try.func8, Try.ntmps8
  go_wp2_with (first
    | (go_at_call 24; refine (unhide HA).mono ?_; rintro e w1 ⟨rfl, hk1⟩; have HK1 := hide hk1; clear hk1; have h1 := Blk.new (w1.alloc (.cells #[.int .i64 3, .bool false, .int .i64 a, .float .f64 0, .complex .f64 0 0, .slice none 0 0, .slice none 0 0] 54)) #[.int .i64 3, .bool false, .int .i64 b, .float .f64 0, .complex .f64 0 0, .slice none 0 0, .slice none 0 0] 54; rw [World.size_alloc] at h1; have HI2 := hide (unhide HI _ _ _ ((Blk.new w1 #[.int .i64 3, .bool false, .int .i64 a, .float .f64 0, .complex .f64 0 0, .slice none 0 0, .slice none 0 0] 54).alloc _) h1); clear h1)
    | (go_at_call 21; refine (unhide HI2).mono ?_; rintro e w2 ⟨rfl, hk2⟩; have HK2 := hide ((((unhide HK1).alloc _).alloc _).trans hk2 (by simp)); clear hk2 HI2; have h1 := Blk.new (w2.alloc (.cells #[.int .i64 4, .bool false, .int .i64 0, .float .f64 x, .complex .f64 0 0, .slice none 0 0, .slice none 0 0] 54)) #[.int .i64 4, .bool false, .int .i64 0, .float .f64 y, .complex .f64 0 0, .slice none 0 0, .slice none 0 0] 54; rw [World.size_alloc] at h1; have HR2 := hide (unhide HR _ _ _ ((Blk.new w2 #[.int .i64 4, .bool false, .int .i64 0, .float .f64 x, .complex .f64 0 0, .slice none 0 0, .slice none 0 0] 54).alloc _) h1); clear h1)
    | (go_at_call 21; refine (unhide HR2).mono ?_; rintro e w3 ⟨rfl, hk3⟩; have HK3 := hide ((((unhide HK2).alloc _).alloc _).trans hk3 (by simp)); clear hk3 HR2; have h1 := Blk.new (w3.alloc (.cells #[.int .i64 5, .bool false, .int .i64 0, .float .f64 0, .complex .f64 4607182418800017408 x, .slice none 0 0, .slice none 0 0] 54)) #[.int .i64 5, .bool false, .int .i64 0, .float .f64 0, .complex .f64 4607182418800017408 y, .slice none 0 0, .slice none 0 0] 54; rw [World.size_alloc] at h1; have HP2 := hide (unhide HP _ _ _ ((Blk.new w3 #[.int .i64 5, .bool false, .int .i64 0, .float .f64 0, .complex .f64 4607182418800017408 x, .slice none 0 0, .slice none 0 0] 54).alloc _) h1); clear h1)
    | (go_at_call 21; refine (unhide HP2).mono ?_; rintro e w4 ⟨rfl, hk4⟩; have HK4 := hide ((((unhide HK3).alloc _).alloc _).trans hk4 (by simp)); clear hk4))
  all_goals go_ret
  all_goals exact ⟨rfl, unhide HK4⟩

set_option maxRecDepth 100000 in
set_option maxHeartbeats 4000000 in
theorem numbers_xn (w : World) (a b : Int) (x y : Nat) (a1 : -9223372036854775808 ≤ a) (a2 : a ≤ 9223372036854775807) (b1 : -9223372036854775808 ≤ b) (b2 : b ≤ 9223372036854775807) (hx : x < 18446744073709551616) (hy : y < 18446744073709551616)
    (hd : cmpI (placeR x) (placeR y) = -1) (n1 : (FloatKind.f64.format.order x x != some .eq) = false) (n2 : (FloatKind.f64.format.order y y != some .eq) = true) :
    Calls Try.prog 8 #[.int .i64 a, .int .i64 b, .int .u64 (x : Int), .int .u64 (y : Int)] w fun e w' => e = .returned (.bool true) ∧ Kept [] w w' := by
  have HA := hide (awake_any w)
  have hkf := kf
  have hc1 := cmpI_lt a b
  have hc2 := cmpI_gt a b
  have HI := hide (fun (w : World) (bx b_y : Nat) hb1 hb2 => cmp1 (w := w) (bx := bx) (b_y := b_y) (okI a1 a2) (okI b1 b2) rfl rfl (by simp [hd0]) (by simp [hd0]) rfl hb1 hb2)
  have HR := hide (fun (w : World) (bx b_y : Nat) hb1 hb2 => cmp1 (w := w) (bx := bx) (b_y := b_y) (ok4 hx) (ok4 hy) rfl rfl (by simp [hd0]) (by simp [hd0]) rfl hb1 hb2)
  have HP := hide (fun (w : World) (bx b_y : Nat) hb1 hb2 => cmp1 (w := w) (bx := bx) (b_y := b_y) (ok5 (m := 4607182418800017408) (by omega) hx) (ok5 (m := 4607182418800017408) (by omega) hy) rfl rfl (by simp [hd0]) (by simp [hd0]) rfl hb1 hb2)
  have e1 : cmpH { hd0 3 with n := a } { hd0 3 with n := b } 0 = cmpI a b := by simp [cmpH, hd0]
  have e2 : cmpH { hd0 4 with re := x } { hd0 4 with re := y } 0 = cmpI (placeR x) (placeR y) := by simp [cmpH, hd0]
  have e3 : cmpH { hd0 5 with pr := 4607182418800017408, im := x } { hd0 5 with pr := 4607182418800017408, im := y } 0 = cmpI (placeR x) (placeR y) := by simp [cmpH, hd0, cmpI, orI]
  rw [e1] at HI
  rw [e2, hd] at HR
  rw [e3, hd] at HP
  simp only [hd0] at HI HR HP
  clear e1 e2 e3 hd
  generalize cmpI a b = c at *
  go_enter Try.func8, Try.ntmps8
  go_wp2_with (first
    | (go_at_call 24; refine (unhide HA).mono ?_; rintro e w1 ⟨rfl, hk1⟩; have HK1 := hide hk1; clear hk1; have h1 := Blk.new (w1.alloc (.cells #[.int .i64 3, .bool false, .int .i64 a, .float .f64 0, .complex .f64 0 0, .slice none 0 0, .slice none 0 0] 54)) #[.int .i64 3, .bool false, .int .i64 b, .float .f64 0, .complex .f64 0 0, .slice none 0 0, .slice none 0 0] 54; rw [World.size_alloc] at h1; have HI2 := hide (unhide HI _ _ _ ((Blk.new w1 #[.int .i64 3, .bool false, .int .i64 a, .float .f64 0, .complex .f64 0 0, .slice none 0 0, .slice none 0 0] 54).alloc _) h1); clear h1)
    | (go_at_call 21; refine (unhide HI2).mono ?_; rintro e w2 ⟨rfl, hk2⟩; have HK2 := hide ((((unhide HK1).alloc _).alloc _).trans hk2 (by simp)); clear hk2 HI2; have h1 := Blk.new (w2.alloc (.cells #[.int .i64 4, .bool false, .int .i64 0, .float .f64 x, .complex .f64 0 0, .slice none 0 0, .slice none 0 0] 54)) #[.int .i64 4, .bool false, .int .i64 0, .float .f64 y, .complex .f64 0 0, .slice none 0 0, .slice none 0 0] 54; rw [World.size_alloc] at h1; have HR2 := hide (unhide HR _ _ _ ((Blk.new w2 #[.int .i64 4, .bool false, .int .i64 0, .float .f64 x, .complex .f64 0 0, .slice none 0 0, .slice none 0 0] 54).alloc _) h1); clear h1)
    | (go_at_call 21; refine (unhide HR2).mono ?_; rintro e w3 ⟨rfl, hk3⟩; have HK3 := hide ((((unhide HK2).alloc _).alloc _).trans hk3 (by simp)); clear hk3 HR2; have h1 := Blk.new (w3.alloc (.cells #[.int .i64 5, .bool false, .int .i64 0, .float .f64 0, .complex .f64 4607182418800017408 x, .slice none 0 0, .slice none 0 0] 54)) #[.int .i64 5, .bool false, .int .i64 0, .float .f64 0, .complex .f64 4607182418800017408 y, .slice none 0 0, .slice none 0 0] 54; rw [World.size_alloc] at h1; have HP2 := hide (unhide HP _ _ _ ((Blk.new w3 #[.int .i64 5, .bool false, .int .i64 0, .float .f64 0, .complex .f64 4607182418800017408 x, .slice none 0 0, .slice none 0 0] 54).alloc _) h1); clear h1)
    | (go_at_call 21; refine (unhide HP2).mono ?_; rintro e w4 ⟨rfl, hk4⟩; have HK4 := hide ((((unhide HK3).alloc _).alloc _).trans hk4 (by simp)); clear hk4))
  all_goals go_ret
  all_goals exact ⟨rfl, unhide HK4⟩

set_option maxRecDepth 100000 in
set_option maxHeartbeats 4000000 in
theorem numbers_lt (w : World) (a b : Int) (x y : Nat) (a1 : -9223372036854775808 ≤ a) (a2 : a ≤ 9223372036854775807) (b1 : -9223372036854775808 ≤ b) (b2 : b ≤ 9223372036854775807) (hx : x < 18446744073709551616) (hy : y < 18446744073709551616)
    (hd : cmpI (placeR x) (placeR y) = -1) (n1 : (FloatKind.f64.format.order x x != some .eq) = false) (n2 : (FloatKind.f64.format.order y y != some .eq) = false) (o : FloatKind.f64.format.order x y = some .lt) :
    Calls Try.prog 8 #[.int .i64 a, .int .i64 b, .int .u64 (x : Int), .int .u64 (y : Int)] w fun e w' => e = .returned (.bool true) ∧ Kept [] w w' := by
  have HA := hide (awake_any w)
  have hkf := kf
  have hc1 := cmpI_lt a b
  have hc2 := cmpI_gt a b
  have HI := hide (fun (w : World) (bx b_y : Nat) hb1 hb2 => cmp1 (w := w) (bx := bx) (b_y := b_y) (okI a1 a2) (okI b1 b2) rfl rfl (by simp [hd0]) (by simp [hd0]) rfl hb1 hb2)
  have HR := hide (fun (w : World) (bx b_y : Nat) hb1 hb2 => cmp1 (w := w) (bx := bx) (b_y := b_y) (ok4 hx) (ok4 hy) rfl rfl (by simp [hd0]) (by simp [hd0]) rfl hb1 hb2)
  have HP := hide (fun (w : World) (bx b_y : Nat) hb1 hb2 => cmp1 (w := w) (bx := bx) (b_y := b_y) (ok5 (m := 4607182418800017408) (by omega) hx) (ok5 (m := 4607182418800017408) (by omega) hy) rfl rfl (by simp [hd0]) (by simp [hd0]) rfl hb1 hb2)
  have e1 : cmpH { hd0 3 with n := a } { hd0 3 with n := b } 0 = cmpI a b := by simp [cmpH, hd0]
  have e2 : cmpH { hd0 4 with re := x } { hd0 4 with re := y } 0 = cmpI (placeR x) (placeR y) := by simp [cmpH, hd0]
  have e3 : cmpH { hd0 5 with pr := 4607182418800017408, im := x } { hd0 5 with pr := 4607182418800017408, im := y } 0 = cmpI (placeR x) (placeR y) := by simp [cmpH, hd0, cmpI, orI]
  rw [e1] at HI
  rw [e2, hd] at HR
  rw [e3, hd] at HP
  simp only [hd0] at HI HR HP
  clear e1 e2 e3 hd
  generalize cmpI a b = c at *
  go_enter Try.func8, Try.ntmps8
  go_wp2_with (first
    | (go_at_call 24; refine (unhide HA).mono ?_; rintro e w1 ⟨rfl, hk1⟩; have HK1 := hide hk1; clear hk1; have h1 := Blk.new (w1.alloc (.cells #[.int .i64 3, .bool false, .int .i64 a, .float .f64 0, .complex .f64 0 0, .slice none 0 0, .slice none 0 0] 54)) #[.int .i64 3, .bool false, .int .i64 b, .float .f64 0, .complex .f64 0 0, .slice none 0 0, .slice none 0 0] 54; rw [World.size_alloc] at h1; have HI2 := hide (unhide HI _ _ _ ((Blk.new w1 #[.int .i64 3, .bool false, .int .i64 a, .float .f64 0, .complex .f64 0 0, .slice none 0 0, .slice none 0 0] 54).alloc _) h1); clear h1)
    | (go_at_call 21; refine (unhide HI2).mono ?_; rintro e w2 ⟨rfl, hk2⟩; have HK2 := hide ((((unhide HK1).alloc _).alloc _).trans hk2 (by simp)); clear hk2 HI2; have h1 := Blk.new (w2.alloc (.cells #[.int .i64 4, .bool false, .int .i64 0, .float .f64 x, .complex .f64 0 0, .slice none 0 0, .slice none 0 0] 54)) #[.int .i64 4, .bool false, .int .i64 0, .float .f64 y, .complex .f64 0 0, .slice none 0 0, .slice none 0 0] 54; rw [World.size_alloc] at h1; have HR2 := hide (unhide HR _ _ _ ((Blk.new w2 #[.int .i64 4, .bool false, .int .i64 0, .float .f64 x, .complex .f64 0 0, .slice none 0 0, .slice none 0 0] 54).alloc _) h1); clear h1)
    | (go_at_call 21; refine (unhide HR2).mono ?_; rintro e w3 ⟨rfl, hk3⟩; have HK3 := hide ((((unhide HK2).alloc _).alloc _).trans hk3 (by simp)); clear hk3 HR2; have h1 := Blk.new (w3.alloc (.cells #[.int .i64 5, .bool false, .int .i64 0, .float .f64 0, .complex .f64 4607182418800017408 x, .slice none 0 0, .slice none 0 0] 54)) #[.int .i64 5, .bool false, .int .i64 0, .float .f64 0, .complex .f64 4607182418800017408 y, .slice none 0 0, .slice none 0 0] 54; rw [World.size_alloc] at h1; have HP2 := hide (unhide HP _ _ _ ((Blk.new w3 #[.int .i64 5, .bool false, .int .i64 0, .float .f64 0, .complex .f64 4607182418800017408 x, .slice none 0 0, .slice none 0 0] 54).alloc _) h1); clear h1)
    | (go_at_call 21; refine (unhide HP2).mono ?_; rintro e w4 ⟨rfl, hk4⟩; have HK4 := hide ((((unhide HK3).alloc _).alloc _).trans hk4 (by simp)); clear hk4))
  all_goals go_ret
  all_goals exact ⟨rfl, unhide HK4⟩

set_option maxRecDepth 100000 in
set_option maxHeartbeats 4000000 in
theorem numbers_gt (w : World) (a b : Int) (x y : Nat) (a1 : -9223372036854775808 ≤ a) (a2 : a ≤ 9223372036854775807) (b1 : -9223372036854775808 ≤ b) (b2 : b ≤ 9223372036854775807) (hx : x < 18446744073709551616) (hy : y < 18446744073709551616)
    (hd : cmpI (placeR x) (placeR y) = 1) (n1 : (FloatKind.f64.format.order x x != some .eq) = false) (n2 : (FloatKind.f64.format.order y y != some .eq) = false) (o : FloatKind.f64.format.order x y = some .gt) :
    Calls Try.prog 8 #[.int .i64 a, .int .i64 b, .int .u64 (x : Int), .int .u64 (y : Int)] w fun e w' => e = .returned (.bool true) ∧ Kept [] w w' := by
  have HA := hide (awake_any w)
  have hkf := kf
  have hc1 := cmpI_lt a b
  have hc2 := cmpI_gt a b
  have HI := hide (fun (w : World) (bx b_y : Nat) hb1 hb2 => cmp1 (w := w) (bx := bx) (b_y := b_y) (okI a1 a2) (okI b1 b2) rfl rfl (by simp [hd0]) (by simp [hd0]) rfl hb1 hb2)
  have HR := hide (fun (w : World) (bx b_y : Nat) hb1 hb2 => cmp1 (w := w) (bx := bx) (b_y := b_y) (ok4 hx) (ok4 hy) rfl rfl (by simp [hd0]) (by simp [hd0]) rfl hb1 hb2)
  have HP := hide (fun (w : World) (bx b_y : Nat) hb1 hb2 => cmp1 (w := w) (bx := bx) (b_y := b_y) (ok5 (m := 4607182418800017408) (by omega) hx) (ok5 (m := 4607182418800017408) (by omega) hy) rfl rfl (by simp [hd0]) (by simp [hd0]) rfl hb1 hb2)
  have e1 : cmpH { hd0 3 with n := a } { hd0 3 with n := b } 0 = cmpI a b := by simp [cmpH, hd0]
  have e2 : cmpH { hd0 4 with re := x } { hd0 4 with re := y } 0 = cmpI (placeR x) (placeR y) := by simp [cmpH, hd0]
  have e3 : cmpH { hd0 5 with pr := 4607182418800017408, im := x } { hd0 5 with pr := 4607182418800017408, im := y } 0 = cmpI (placeR x) (placeR y) := by simp [cmpH, hd0, cmpI, orI]
  rw [e1] at HI
  rw [e2, hd] at HR
  rw [e3, hd] at HP
  simp only [hd0] at HI HR HP
  clear e1 e2 e3 hd
  generalize cmpI a b = c at *
  go_enter Try.func8, Try.ntmps8
  go_wp2_with (first
    | (go_at_call 24; refine (unhide HA).mono ?_; rintro e w1 ⟨rfl, hk1⟩; have HK1 := hide hk1; clear hk1; have h1 := Blk.new (w1.alloc (.cells #[.int .i64 3, .bool false, .int .i64 a, .float .f64 0, .complex .f64 0 0, .slice none 0 0, .slice none 0 0] 54)) #[.int .i64 3, .bool false, .int .i64 b, .float .f64 0, .complex .f64 0 0, .slice none 0 0, .slice none 0 0] 54; rw [World.size_alloc] at h1; have HI2 := hide (unhide HI _ _ _ ((Blk.new w1 #[.int .i64 3, .bool false, .int .i64 a, .float .f64 0, .complex .f64 0 0, .slice none 0 0, .slice none 0 0] 54).alloc _) h1); clear h1)
    | (go_at_call 21; refine (unhide HI2).mono ?_; rintro e w2 ⟨rfl, hk2⟩; have HK2 := hide ((((unhide HK1).alloc _).alloc _).trans hk2 (by simp)); clear hk2 HI2; have h1 := Blk.new (w2.alloc (.cells #[.int .i64 4, .bool false, .int .i64 0, .float .f64 x, .complex .f64 0 0, .slice none 0 0, .slice none 0 0] 54)) #[.int .i64 4, .bool false, .int .i64 0, .float .f64 y, .complex .f64 0 0, .slice none 0 0, .slice none 0 0] 54; rw [World.size_alloc] at h1; have HR2 := hide (unhide HR _ _ _ ((Blk.new w2 #[.int .i64 4, .bool false, .int .i64 0, .float .f64 x, .complex .f64 0 0, .slice none 0 0, .slice none 0 0] 54).alloc _) h1); clear h1)
    | (go_at_call 21; refine (unhide HR2).mono ?_; rintro e w3 ⟨rfl, hk3⟩; have HK3 := hide ((((unhide HK2).alloc _).alloc _).trans hk3 (by simp)); clear hk3 HR2; have h1 := Blk.new (w3.alloc (.cells #[.int .i64 5, .bool false, .int .i64 0, .float .f64 0, .complex .f64 4607182418800017408 x, .slice none 0 0, .slice none 0 0] 54)) #[.int .i64 5, .bool false, .int .i64 0, .float .f64 0, .complex .f64 4607182418800017408 y, .slice none 0 0, .slice none 0 0] 54; rw [World.size_alloc] at h1; have HP2 := hide (unhide HP _ _ _ ((Blk.new w3 #[.int .i64 5, .bool false, .int .i64 0, .float .f64 0, .complex .f64 4607182418800017408 x, .slice none 0 0, .slice none 0 0] 54).alloc _) h1); clear h1)
    | (go_at_call 21; refine (unhide HP2).mono ?_; rintro e w4 ⟨rfl, hk4⟩; have HK4 := hide ((((unhide HK3).alloc _).alloc _).trans hk4 (by simp)); clear hk4))
  all_goals go_ret
  all_goals exact ⟨rfl, unhide HK4⟩

set_option maxRecDepth 100000 in
set_option maxHeartbeats 4000000 in
theorem numbers_eq (w : World) (a b : Int) (x y : Nat) (a1 : -9223372036854775808 ≤ a) (a2 : a ≤ 9223372036854775807) (b1 : -9223372036854775808 ≤ b) (b2 : b ≤ 9223372036854775807) (hx : x < 18446744073709551616) (hy : y < 18446744073709551616)
    (hd : cmpI (placeR x) (placeR y) = 0) (n1 : (FloatKind.f64.format.order x x != some .eq) = false) (n2 : (FloatKind.f64.format.order y y != some .eq) = false) (o : FloatKind.f64.format.order x y = some .eq) (s : ((x : Int) / 9223372036854775808 == 1) = ((y : Int) / 9223372036854775808 == 1)) :
    Calls Try.prog 8 #[.int .i64 a, .int .i64 b, .int .u64 (x : Int), .int .u64 (y : Int)] w fun e w' => e = .returned (.bool true) ∧ Kept [] w w' := by
  have HA := hide (awake_any w)
  have hkf := kf
  have hc1 := cmpI_lt a b
  have hc2 := cmpI_gt a b
  have HI := hide (fun (w : World) (bx b_y : Nat) hb1 hb2 => cmp1 (w := w) (bx := bx) (b_y := b_y) (okI a1 a2) (okI b1 b2) rfl rfl (by simp [hd0]) (by simp [hd0]) rfl hb1 hb2)
  have HR := hide (fun (w : World) (bx b_y : Nat) hb1 hb2 => cmp1 (w := w) (bx := bx) (b_y := b_y) (ok4 hx) (ok4 hy) rfl rfl (by simp [hd0]) (by simp [hd0]) rfl hb1 hb2)
  have HP := hide (fun (w : World) (bx b_y : Nat) hb1 hb2 => cmp1 (w := w) (bx := bx) (b_y := b_y) (ok5 (m := 4607182418800017408) (by omega) hx) (ok5 (m := 4607182418800017408) (by omega) hy) rfl rfl (by simp [hd0]) (by simp [hd0]) rfl hb1 hb2)
  have e1 : cmpH { hd0 3 with n := a } { hd0 3 with n := b } 0 = cmpI a b := by simp [cmpH, hd0]
  have e2 : cmpH { hd0 4 with re := x } { hd0 4 with re := y } 0 = cmpI (placeR x) (placeR y) := by simp [cmpH, hd0]
  have e3 : cmpH { hd0 5 with pr := 4607182418800017408, im := x } { hd0 5 with pr := 4607182418800017408, im := y } 0 = cmpI (placeR x) (placeR y) := by simp [cmpH, hd0, cmpI, orI]
  rw [e1] at HI
  rw [e2, hd] at HR
  rw [e3, hd] at HP
  simp only [hd0] at HI HR HP
  clear e1 e2 e3 hd
  generalize cmpI a b = c at *
  go_enter Try.func8, Try.ntmps8
  go_wp2_with (first
    | (go_at_call 24; refine (unhide HA).mono ?_; rintro e w1 ⟨rfl, hk1⟩; have HK1 := hide hk1; clear hk1; have h1 := Blk.new (w1.alloc (.cells #[.int .i64 3, .bool false, .int .i64 a, .float .f64 0, .complex .f64 0 0, .slice none 0 0, .slice none 0 0] 54)) #[.int .i64 3, .bool false, .int .i64 b, .float .f64 0, .complex .f64 0 0, .slice none 0 0, .slice none 0 0] 54; rw [World.size_alloc] at h1; have HI2 := hide (unhide HI _ _ _ ((Blk.new w1 #[.int .i64 3, .bool false, .int .i64 a, .float .f64 0, .complex .f64 0 0, .slice none 0 0, .slice none 0 0] 54).alloc _) h1); clear h1)
    | (go_at_call 21; refine (unhide HI2).mono ?_; rintro e w2 ⟨rfl, hk2⟩; have HK2 := hide ((((unhide HK1).alloc _).alloc _).trans hk2 (by simp)); clear hk2 HI2; have h1 := Blk.new (w2.alloc (.cells #[.int .i64 4, .bool false, .int .i64 0, .float .f64 x, .complex .f64 0 0, .slice none 0 0, .slice none 0 0] 54)) #[.int .i64 4, .bool false, .int .i64 0, .float .f64 y, .complex .f64 0 0, .slice none 0 0, .slice none 0 0] 54; rw [World.size_alloc] at h1; have HR2 := hide (unhide HR _ _ _ ((Blk.new w2 #[.int .i64 4, .bool false, .int .i64 0, .float .f64 x, .complex .f64 0 0, .slice none 0 0, .slice none 0 0] 54).alloc _) h1); clear h1)
    | (go_at_call 21; refine (unhide HR2).mono ?_; rintro e w3 ⟨rfl, hk3⟩; have HK3 := hide ((((unhide HK2).alloc _).alloc _).trans hk3 (by simp)); clear hk3 HR2; have h1 := Blk.new (w3.alloc (.cells #[.int .i64 5, .bool false, .int .i64 0, .float .f64 0, .complex .f64 4607182418800017408 x, .slice none 0 0, .slice none 0 0] 54)) #[.int .i64 5, .bool false, .int .i64 0, .float .f64 0, .complex .f64 4607182418800017408 y, .slice none 0 0, .slice none 0 0] 54; rw [World.size_alloc] at h1; have HP2 := hide (unhide HP _ _ _ ((Blk.new w3 #[.int .i64 5, .bool false, .int .i64 0, .float .f64 0, .complex .f64 4607182418800017408 x, .slice none 0 0, .slice none 0 0] 54).alloc _) h1); clear h1)
    | (go_at_call 21; refine (unhide HP2).mono ?_; rintro e w4 ⟨rfl, hk4⟩; have HK4 := hide ((((unhide HK3).alloc _).alloc _).trans hk4 (by simp)); clear hk4))
  all_goals go_ret
  all_goals exact ⟨rfl, unhide HK4⟩

set_option maxRecDepth 100000 in
set_option maxHeartbeats 4000000 in
theorem numbers_em (w : World) (a b : Int) (x y : Nat) (a1 : -9223372036854775808 ≤ a) (a2 : a ≤ 9223372036854775807) (b1 : -9223372036854775808 ≤ b) (b2 : b ≤ 9223372036854775807) (hx : x < 18446744073709551616) (hy : y < 18446744073709551616)
    (hd : cmpI (placeR x) (placeR y) = -1) (n1 : (FloatKind.f64.format.order x x != some .eq) = false) (n2 : (FloatKind.f64.format.order y y != some .eq) = false) (o : FloatKind.f64.format.order x y = some .eq) (s1 : ((x : Int) / 9223372036854775808 == 1) = true) (s2 : ((y : Int) / 9223372036854775808 == 1) = false) :
    Calls Try.prog 8 #[.int .i64 a, .int .i64 b, .int .u64 (x : Int), .int .u64 (y : Int)] w fun e w' => e = .returned (.bool true) ∧ Kept [] w w' := by
  have HA := hide (awake_any w)
  have hkf := kf
  have hc1 := cmpI_lt a b
  have hc2 := cmpI_gt a b
  have HI := hide (fun (w : World) (bx b_y : Nat) hb1 hb2 => cmp1 (w := w) (bx := bx) (b_y := b_y) (okI a1 a2) (okI b1 b2) rfl rfl (by simp [hd0]) (by simp [hd0]) rfl hb1 hb2)
  have HR := hide (fun (w : World) (bx b_y : Nat) hb1 hb2 => cmp1 (w := w) (bx := bx) (b_y := b_y) (ok4 hx) (ok4 hy) rfl rfl (by simp [hd0]) (by simp [hd0]) rfl hb1 hb2)
  have HP := hide (fun (w : World) (bx b_y : Nat) hb1 hb2 => cmp1 (w := w) (bx := bx) (b_y := b_y) (ok5 (m := 4607182418800017408) (by omega) hx) (ok5 (m := 4607182418800017408) (by omega) hy) rfl rfl (by simp [hd0]) (by simp [hd0]) rfl hb1 hb2)
  have e1 : cmpH { hd0 3 with n := a } { hd0 3 with n := b } 0 = cmpI a b := by simp [cmpH, hd0]
  have e2 : cmpH { hd0 4 with re := x } { hd0 4 with re := y } 0 = cmpI (placeR x) (placeR y) := by simp [cmpH, hd0]
  have e3 : cmpH { hd0 5 with pr := 4607182418800017408, im := x } { hd0 5 with pr := 4607182418800017408, im := y } 0 = cmpI (placeR x) (placeR y) := by simp [cmpH, hd0, cmpI, orI]
  rw [e1] at HI
  rw [e2, hd] at HR
  rw [e3, hd] at HP
  simp only [hd0] at HI HR HP
  clear e1 e2 e3 hd
  generalize cmpI a b = c at *
  go_enter Try.func8, Try.ntmps8
  go_wp2_with (first
    | (go_at_call 24; refine (unhide HA).mono ?_; rintro e w1 ⟨rfl, hk1⟩; have HK1 := hide hk1; clear hk1; have h1 := Blk.new (w1.alloc (.cells #[.int .i64 3, .bool false, .int .i64 a, .float .f64 0, .complex .f64 0 0, .slice none 0 0, .slice none 0 0] 54)) #[.int .i64 3, .bool false, .int .i64 b, .float .f64 0, .complex .f64 0 0, .slice none 0 0, .slice none 0 0] 54; rw [World.size_alloc] at h1; have HI2 := hide (unhide HI _ _ _ ((Blk.new w1 #[.int .i64 3, .bool false, .int .i64 a, .float .f64 0, .complex .f64 0 0, .slice none 0 0, .slice none 0 0] 54).alloc _) h1); clear h1)
    | (go_at_call 21; refine (unhide HI2).mono ?_; rintro e w2 ⟨rfl, hk2⟩; have HK2 := hide ((((unhide HK1).alloc _).alloc _).trans hk2 (by simp)); clear hk2 HI2; have h1 := Blk.new (w2.alloc (.cells #[.int .i64 4, .bool false, .int .i64 0, .float .f64 x, .complex .f64 0 0, .slice none 0 0, .slice none 0 0] 54)) #[.int .i64 4, .bool false, .int .i64 0, .float .f64 y, .complex .f64 0 0, .slice none 0 0, .slice none 0 0] 54; rw [World.size_alloc] at h1; have HR2 := hide (unhide HR _ _ _ ((Blk.new w2 #[.int .i64 4, .bool false, .int .i64 0, .float .f64 x, .complex .f64 0 0, .slice none 0 0, .slice none 0 0] 54).alloc _) h1); clear h1)
    | (go_at_call 21; refine (unhide HR2).mono ?_; rintro e w3 ⟨rfl, hk3⟩; have HK3 := hide ((((unhide HK2).alloc _).alloc _).trans hk3 (by simp)); clear hk3 HR2; have h1 := Blk.new (w3.alloc (.cells #[.int .i64 5, .bool false, .int .i64 0, .float .f64 0, .complex .f64 4607182418800017408 x, .slice none 0 0, .slice none 0 0] 54)) #[.int .i64 5, .bool false, .int .i64 0, .float .f64 0, .complex .f64 4607182418800017408 y, .slice none 0 0, .slice none 0 0] 54; rw [World.size_alloc] at h1; have HP2 := hide (unhide HP _ _ _ ((Blk.new w3 #[.int .i64 5, .bool false, .int .i64 0, .float .f64 0, .complex .f64 4607182418800017408 x, .slice none 0 0, .slice none 0 0] 54).alloc _) h1); clear h1)
    | (go_at_call 21; refine (unhide HP2).mono ?_; rintro e w4 ⟨rfl, hk4⟩; have HK4 := hide ((((unhide HK3).alloc _).alloc _).trans hk4 (by simp)); clear hk4))
  all_goals go_ret
  all_goals exact ⟨rfl, unhide HK4⟩

set_option maxRecDepth 100000 in
set_option maxHeartbeats 4000000 in
theorem numbers_ep (w : World) (a b : Int) (x y : Nat) (a1 : -9223372036854775808 ≤ a) (a2 : a ≤ 9223372036854775807) (b1 : -9223372036854775808 ≤ b) (b2 : b ≤ 9223372036854775807) (hx : x < 18446744073709551616) (hy : y < 18446744073709551616)
    (hd : cmpI (placeR x) (placeR y) = 1) (n1 : (FloatKind.f64.format.order x x != some .eq) = false) (n2 : (FloatKind.f64.format.order y y != some .eq) = false) (o : FloatKind.f64.format.order x y = some .eq) (s1 : ((x : Int) / 9223372036854775808 == 1) = false) (s2 : ((y : Int) / 9223372036854775808 == 1) = true) :
    Calls Try.prog 8 #[.int .i64 a, .int .i64 b, .int .u64 (x : Int), .int .u64 (y : Int)] w fun e w' => e = .returned (.bool true) ∧ Kept [] w w' := by
  have HA := hide (awake_any w)
  have hkf := kf
  have hc1 := cmpI_lt a b
  have hc2 := cmpI_gt a b
  have HI := hide (fun (w : World) (bx b_y : Nat) hb1 hb2 => cmp1 (w := w) (bx := bx) (b_y := b_y) (okI a1 a2) (okI b1 b2) rfl rfl (by simp [hd0]) (by simp [hd0]) rfl hb1 hb2)
  have HR := hide (fun (w : World) (bx b_y : Nat) hb1 hb2 => cmp1 (w := w) (bx := bx) (b_y := b_y) (ok4 hx) (ok4 hy) rfl rfl (by simp [hd0]) (by simp [hd0]) rfl hb1 hb2)
  have HP := hide (fun (w : World) (bx b_y : Nat) hb1 hb2 => cmp1 (w := w) (bx := bx) (b_y := b_y) (ok5 (m := 4607182418800017408) (by omega) hx) (ok5 (m := 4607182418800017408) (by omega) hy) rfl rfl (by simp [hd0]) (by simp [hd0]) rfl hb1 hb2)
  have e1 : cmpH { hd0 3 with n := a } { hd0 3 with n := b } 0 = cmpI a b := by simp [cmpH, hd0]
  have e2 : cmpH { hd0 4 with re := x } { hd0 4 with re := y } 0 = cmpI (placeR x) (placeR y) := by simp [cmpH, hd0]
  have e3 : cmpH { hd0 5 with pr := 4607182418800017408, im := x } { hd0 5 with pr := 4607182418800017408, im := y } 0 = cmpI (placeR x) (placeR y) := by simp [cmpH, hd0, cmpI, orI]
  rw [e1] at HI
  rw [e2, hd] at HR
  rw [e3, hd] at HP
  simp only [hd0] at HI HR HP
  clear e1 e2 e3 hd
  generalize cmpI a b = c at *
  go_enter Try.func8, Try.ntmps8
  go_wp2_with (first
    | (go_at_call 24; refine (unhide HA).mono ?_; rintro e w1 ⟨rfl, hk1⟩; have HK1 := hide hk1; clear hk1; have h1 := Blk.new (w1.alloc (.cells #[.int .i64 3, .bool false, .int .i64 a, .float .f64 0, .complex .f64 0 0, .slice none 0 0, .slice none 0 0] 54)) #[.int .i64 3, .bool false, .int .i64 b, .float .f64 0, .complex .f64 0 0, .slice none 0 0, .slice none 0 0] 54; rw [World.size_alloc] at h1; have HI2 := hide (unhide HI _ _ _ ((Blk.new w1 #[.int .i64 3, .bool false, .int .i64 a, .float .f64 0, .complex .f64 0 0, .slice none 0 0, .slice none 0 0] 54).alloc _) h1); clear h1)
    | (go_at_call 21; refine (unhide HI2).mono ?_; rintro e w2 ⟨rfl, hk2⟩; have HK2 := hide ((((unhide HK1).alloc _).alloc _).trans hk2 (by simp)); clear hk2 HI2; have h1 := Blk.new (w2.alloc (.cells #[.int .i64 4, .bool false, .int .i64 0, .float .f64 x, .complex .f64 0 0, .slice none 0 0, .slice none 0 0] 54)) #[.int .i64 4, .bool false, .int .i64 0, .float .f64 y, .complex .f64 0 0, .slice none 0 0, .slice none 0 0] 54; rw [World.size_alloc] at h1; have HR2 := hide (unhide HR _ _ _ ((Blk.new w2 #[.int .i64 4, .bool false, .int .i64 0, .float .f64 x, .complex .f64 0 0, .slice none 0 0, .slice none 0 0] 54).alloc _) h1); clear h1)
    | (go_at_call 21; refine (unhide HR2).mono ?_; rintro e w3 ⟨rfl, hk3⟩; have HK3 := hide ((((unhide HK2).alloc _).alloc _).trans hk3 (by simp)); clear hk3 HR2; have h1 := Blk.new (w3.alloc (.cells #[.int .i64 5, .bool false, .int .i64 0, .float .f64 0, .complex .f64 4607182418800017408 x, .slice none 0 0, .slice none 0 0] 54)) #[.int .i64 5, .bool false, .int .i64 0, .float .f64 0, .complex .f64 4607182418800017408 y, .slice none 0 0, .slice none 0 0] 54; rw [World.size_alloc] at h1; have HP2 := hide (unhide HP _ _ _ ((Blk.new w3 #[.int .i64 5, .bool false, .int .i64 0, .float .f64 0, .complex .f64 4607182418800017408 x, .slice none 0 0, .slice none 0 0] 54).alloc _) h1); clear h1)
    | (go_at_call 21; refine (unhide HP2).mono ?_; rintro e w4 ⟨rfl, hk4⟩; have HK4 := hide ((((unhide HK3).alloc _).alloc _).trans hk4 (by simp)); clear hk4))
  all_goals go_ret
  all_goals exact ⟨rfl, unhide HK4⟩

theorem shr63 (x : Nat) (hx : x < 18446744073709551616) : ((x : Int) / 9223372036854775808 == 1) = negB x := by
  unfold negB
  by_cases h : 9223372036854775808 ≤ x
  · have : (x : Int) / 9223372036854775808 = 1 := by omega
    rw [this]; simp [h]
  · have : (x : Int) / 9223372036854775808 = 0 := by omega
    rw [this]; simp [h]
theorem numbers_walk (w : World) (a b : Int) (x y : Nat) (a1 : -9223372036854775808 ≤ a) (a2 : a ≤ 9223372036854775807) (b1 : -9223372036854775808 ≤ b) (b2 : b ≤ 9223372036854775807) (hx : x < 18446744073709551616) (hy : y < 18446744073709551616) :
    Calls Try.prog 8 #[.int .i64 a, .int .i64 b, .int .u64 (x : Int), .int .u64 (y : Int)] w fun e w' => e = .returned (.bool true) ∧ Kept [] w w' := by
  cases nx : nanB x with
  | true =>
    cases ny : nanB y with
    | true => exact numbers_nn w a b x y a1 a2 b1 b2 hx hy (nan_nan nx ny) nx ny
    | false => exact numbers_nx w a b x y a1 a2 b1 b2 hx hy (nan_place hy nx ny).1 nx ny
  | false =>
    cases ny : nanB y with
    | true => exact numbers_xn w a b x y a1 a2 b1 b2 hx hy (nan_place hx ny nx).2 nx ny
    | false =>
      rcases order_place hx hy nx ny with ⟨o, h⟩ | ⟨o, h⟩ | ⟨o, ⟨s, h⟩ | ⟨s1, s2, h⟩ | ⟨s1, s2, h⟩⟩
      · exact numbers_lt w a b x y a1 a2 b1 b2 hx hy h nx ny o
      · exact numbers_gt w a b x y a1 a2 b1 b2 hx hy h nx ny o
      · exact numbers_eq w a b x y a1 a2 b1 b2 hx hy h nx ny o (by rw [shr63 x hx, shr63 y hy]; exact s)
      · exact numbers_em w a b x y a1 a2 b1 b2 hx hy h nx ny o (by rw [shr63 x hx]; exact s1) (by rw [shr63 y hy]; exact s2)
      · exact numbers_ep w a b x y a1 a2 b1 b2 hx hy h nx ny o (by rw [shr63 x hx]; exact s1) (by rw [shr63 y hy]; exact s2)
end Go.Proofs.Ytigmofbammofbaa
