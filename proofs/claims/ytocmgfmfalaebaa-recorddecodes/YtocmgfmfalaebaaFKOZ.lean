/- The document's Decode: O. -/
import Derived.Test.YtocmgfmfalaebaaPkBG
namespace Go.Proofs.Ytocmgfmfalaebaa
open Go.RowKit

set_option maxRecDepth 100000 in
set_option maxHeartbeats 1600000 in
theorem rdec_O_no (w : World) {ps : List Nat} {s1 s2 : RS} {kn n2 : Nat} {t2 : Int} {s3 : RS} {n3 : Nat} {t3 : Int} (e1 : rByte ⟨0, ps, []⟩ = (s1, kn)) (e2 : rNum s1 = (s2, n2)) (z2 : IntKind.i64.wrap (n2 : Int) = t2) (e3 : rNum s2 = (s3, n3)) (z3 : IntKind.i64.wrap (n3 : Int) = t3) (c0 : ((kn : Int) == 1) = false) (c1 : ((kn : Int) == 2) = true) {p : Pl} (hp : p = { zeroP with kind := (kn : Int), shard := t2, peer := t3 }) {a : Option Addr} {cap : Nat} (h : Wide w (.slice a ps.length cap) ps) (hb : Bytes ps) (hl : ps.length ≤ 140737488355328) (hs : snd p = false) : Calls Try.prog 17 #[.slice a ps.length cap] w fun e w' => Kept [] w w' ∧ (e = .returned (.tuple #[rv zeroP nilL, .int .i64 160])) := by
  have HW := hide h
  have HBY := hide hb
  have HPL := hide hl
  clear h hb hl
  have HS := hide hs
  clear hs
  have HC1 : Hid (∀ (W : World) (c : Nat) (F : List Nat), Qs W c F ⟨0, ps, []⟩ → Calls Try.prog 33 #[.pointer (some ⟨c, 0, none⟩)] W fun e w' => e = .returned (.int .i64 (kn : Int)) ∧ QsQ W c F s1 w') := fun W c F h => by have := qbyte_q h; rw [e1] at this; exact this
  have HC2 : Hid (∀ (W : World) (c : Nat) (F : List Nat), Qs W c F s1 → Calls Try.prog 34 #[.pointer (some ⟨c, 0, none⟩)] W fun e w' => e = .returned (.int .u64 (n2 : Int)) ∧ QsQ W c F s2 w') := fun W c F h => by have := qnum_q h; rw [e2] at this; exact this
  have HC3 : Hid (∀ (W : World) (c : Nat) (F : List Nat), Qs W c F s2 → Calls Try.prog 34 #[.pointer (some ⟨c, 0, none⟩)] W fun e w' => e = .returned (.int .u64 (n3 : Int)) ∧ QsQ W c F s3 w') := fun W c F h => by have := qnum_q h; rw [e3] at this; exact this
  clear e1 e2 e3
  have HSD := hide (fun W l => rsound_any W p l)
  rw [unhide HS] at HSD
  have HP := hide hp
  have HR0 := hide (Blk.new w (rcc zeroP nilL) 26)
  have HW0 := hide ((unhide HW).kept ((Kept.refl [] w).alloc (.cells (rcc zeroP nilL) 26)))
  have HK0 := hide ((Kept.refl [] w).alloc (.cells (rcc zeroP nilL) 26))
  rw [show rcc zeroP nilL = #[.int .i64 0, .int .i64 0, .int .i64 0, .int .i64 0, .int .i64 0, .int .i64 0, .int .i64 0, .slice none 0 0, .slice none 0 0, .int .i64 0, .slice none 0 0] from rfl] at HR0 HW0 HK0
  clear HW hp
  go_enter Try.func17, Try.ntmps17
  go_upto_region 19 with (first
    | (go_at_call 32; refine (qread_any (unhide HW0) (unhide HBY) (unhide HPL)).mono ?_; rintro e w1 ⟨c, F, rfl, hq1, hF, k1⟩; have HQ1 := hide hq1; have HF := hide hF; have HK1 := hide k1; clear hq1 hF k1)
    | (go_at_call 33; refine (unhide HC1 _ _ _ (unhide HQ1)).mono ?_; rintro e w2 ⟨rfl, hq2⟩; clear HC1; have HQ2 := hide hq2; clear hq2)
    | (go_at_call 34; refine (unhide HC2 _ _ _ (unhide HQ2).1).mono ?_; rintro e w3 ⟨rfl, hq3⟩; clear HC2; have HD3 := hide (DQ.begin (unhide HF) (unhide HK1) (unhide HQ2) hq3 (kn : Int) t2); rw [show rcc { zeroP with kind := (kn : Int), shard := t2 } nilL = #[.int .i64 (kn : Int), .int .i64 t2, .int .i64 0, .int .i64 0, .int .i64 0, .int .i64 0, .int .i64 0, .slice none 0 0, .slice none 0 0, .int .i64 0, .slice none 0 0] from rfl] at HD3; clear hq3; obtain ⟨d0, d1, d2, d3, d4, d5, d6, d7, d8, d9, d10⟩ := box11 (unhide HD3).blk; have fz := froz11 (unhide HD3).blk)
    | (go_at_call 34; refine (unhide HC3 _ _ _ (unhide HD3).rd).mono ?_; rintro e w4 ⟨rfl, hq⟩; clear HC3; have hd := (unhide HD3).call hq; obtain ⟨d0, d1, d2, d3, d4, d5, d6, d7, d8, d9, d10⟩ := box11 hd.blk; have fz := hd.blk.frozen 3; have HD4 := hide (hd.s3 t3); clear hq hd))
  have hpp := (unhide HP).symm
  have HDD := hide (unhide HD4)
  refine world_at (R := fun X => DQ (w.alloc (.cells #[.int .i64 0, .int .i64 0, .int .i64 0, .int .i64 0, .int .i64 0, .int .i64 0, .int .i64 0, .slice none 0 0, .slice none 0 0, .int .i64 0, .slice none 0 0] 26)) w3.heap.size c ({ zeroP with kind := (kn : Int), shard := t2, peer := t3 }) (nilL) F X s3) (unhide HD4) ?_
  rw [hpp]
  clear hpp HD3 HD4
  rintro X hX
  have HX := hide hX
  clear hX
  have HWX := hide (fun (W : World) (k : Kept [] X W) => conv_wide ((unhide HW0).kept ((unhide HX).kept.step k)))
  go_cut [86] (fun t wc => t = .bool true ∧ Hid (Kept [] X wc))
  case first =>
    obtain ⟨d0, d1, d2, d3, d4, d5, d6, d7, d8, d9, d10⟩ := box11 (unhide HX).blk
    first | (go_region_with (first
      | (go_at_call 10; refine (unhide HSD _ (nilL)).mono ?_; rintro e w20 ⟨rfl, k20⟩; have K20 : Hid (Kept [] X w20) := (by first | exact k20 | exact ((Kept.refl [] X).drew).step k20); clear k20; obtain ⟨d0, d1, d2, d3, d4, d5, d6, d7, d8, d9, d10⟩ := box11 ((unhide HX).blk.kept (unhide K20) (by simp)); have hc2 := unhide HWX _ (unhide K20)))) | fail
    all_goals
      go_wp2_with fail
      go_meet
      exact ⟨by simp, hide (unhide K20)⟩
  case rest =>
    obtain ⟨rfl, HKC⟩ := hcut
    have HXC := hide ((unhide HX).quiet (unhide HKC))
    have hres := (unhide HR0).kept (unhide HXC).kept (by simp)
    have HRES := hide hres
    obtain ⟨r0, r1, r2, r3, r4, r5, r6, r7, r8, r9, r10⟩ := box11 hres
    obtain ⟨f0, f1, f2, f3, f4, f5, f6, f7, f8, f9, f10⟩ := froz11 hres
    clear hres
    obtain ⟨d0, d1, d2, d3, d4, d5, d6, d7, d8, d9, d10⟩ := box11 (unhide HXC).blk
    go_wp2_with fail
    refine ret_struct_tmp (b := w.heap.size) rfl rfl (put11 (unhide HRES) _ _ _ _ _ _ _ _ _ _ _) Try.underlying26 infoRec rfl ?_
    refine ⟨((unhide HK0).step (unhide HXC).kept).trans (kept11 wc w.heap.size _ _ _ _ _ _ _ _ _ _ _) (fun x hx => by simp at hx; subst hx; exact Or.inr (Nat.le_refl _)), ?_⟩
    rfl
set_option maxRecDepth 100000 in
set_option maxHeartbeats 1600000 in
theorem rdec_O_eq (w : World) {ps : List Nat} {s1 s2 : RS} {kn n2 : Nat} {t2 : Int} {s3 : RS} {n3 : Nat} {t3 : Int} (e1 : rByte ⟨0, ps, []⟩ = (s1, kn)) (e2 : rNum s1 = (s2, n2)) (z2 : IntKind.i64.wrap (n2 : Int) = t2) (e3 : rNum s2 = (s3, n3)) (z3 : IntKind.i64.wrap (n3 : Int) = t3) (c0 : ((kn : Int) == 1) = false) (c1 : ((kn : Int) == 2) = true) {p : Pl} (hp : p = { zeroP with kind := (kn : Int), shard := t2, peer := t3 }) {a : Option Addr} {cap : Nat} (h : Wide w (.slice a ps.length cap) ps) (hb : Bytes ps) (hl : ps.length ≤ 140737488355328) (hs : snd p = true) (he : enc p = ps) : Calls Try.prog 17 #[.slice a ps.length cap] w fun e w' => Kept [] w w' ∧ (∃ l, e = .returned (.tuple #[rv p l, .int .i64 0]) ∧ RecW w' p l) := by
  have HW := hide h
  have HBY := hide hb
  have HPL := hide hl
  clear h hb hl
  have HEQ := hide he
  have hse : ((strB (enc p)).toList == (strB ps).toList) = true := by rw [he]; simp
  clear he
  have HS := hide hs
  clear hs
  have HC1 : Hid (∀ (W : World) (c : Nat) (F : List Nat), Qs W c F ⟨0, ps, []⟩ → Calls Try.prog 33 #[.pointer (some ⟨c, 0, none⟩)] W fun e w' => e = .returned (.int .i64 (kn : Int)) ∧ QsQ W c F s1 w') := fun W c F h => by have := qbyte_q h; rw [e1] at this; exact this
  have HC2 : Hid (∀ (W : World) (c : Nat) (F : List Nat), Qs W c F s1 → Calls Try.prog 34 #[.pointer (some ⟨c, 0, none⟩)] W fun e w' => e = .returned (.int .u64 (n2 : Int)) ∧ QsQ W c F s2 w') := fun W c F h => by have := qnum_q h; rw [e2] at this; exact this
  have HC3 : Hid (∀ (W : World) (c : Nat) (F : List Nat), Qs W c F s2 → Calls Try.prog 34 #[.pointer (some ⟨c, 0, none⟩)] W fun e w' => e = .returned (.int .u64 (n3 : Int)) ∧ QsQ W c F s3 w') := fun W c F h => by have := qnum_q h; rw [e3] at this; exact this
  clear e1 e2 e3
  have HSD := hide (fun W l => rsound_any W p l)
  have HFM := hide (fun W l (hr : RecW W p l) => rform_any W p l hr (unhide HS))
  rw [unhide HS] at HSD
  have HP := hide hp
  have HR0 := hide (Blk.new w (rcc zeroP nilL) 26)
  have HW0 := hide ((unhide HW).kept ((Kept.refl [] w).alloc (.cells (rcc zeroP nilL) 26)))
  have HK0 := hide ((Kept.refl [] w).alloc (.cells (rcc zeroP nilL) 26))
  rw [show rcc zeroP nilL = #[.int .i64 0, .int .i64 0, .int .i64 0, .int .i64 0, .int .i64 0, .int .i64 0, .int .i64 0, .slice none 0 0, .slice none 0 0, .int .i64 0, .slice none 0 0] from rfl] at HR0 HW0 HK0
  clear HW hp
  go_enter Try.func17, Try.ntmps17
  go_upto_region 19 with (first
    | (go_at_call 32; refine (qread_any (unhide HW0) (unhide HBY) (unhide HPL)).mono ?_; rintro e w1 ⟨c, F, rfl, hq1, hF, k1⟩; have HQ1 := hide hq1; have HF := hide hF; have HK1 := hide k1; clear hq1 hF k1)
    | (go_at_call 33; refine (unhide HC1 _ _ _ (unhide HQ1)).mono ?_; rintro e w2 ⟨rfl, hq2⟩; clear HC1; have HQ2 := hide hq2; clear hq2)
    | (go_at_call 34; refine (unhide HC2 _ _ _ (unhide HQ2).1).mono ?_; rintro e w3 ⟨rfl, hq3⟩; clear HC2; have HD3 := hide (DQ.begin (unhide HF) (unhide HK1) (unhide HQ2) hq3 (kn : Int) t2); rw [show rcc { zeroP with kind := (kn : Int), shard := t2 } nilL = #[.int .i64 (kn : Int), .int .i64 t2, .int .i64 0, .int .i64 0, .int .i64 0, .int .i64 0, .int .i64 0, .slice none 0 0, .slice none 0 0, .int .i64 0, .slice none 0 0] from rfl] at HD3; clear hq3; obtain ⟨d0, d1, d2, d3, d4, d5, d6, d7, d8, d9, d10⟩ := box11 (unhide HD3).blk; have fz := froz11 (unhide HD3).blk)
    | (go_at_call 34; refine (unhide HC3 _ _ _ (unhide HD3).rd).mono ?_; rintro e w4 ⟨rfl, hq⟩; clear HC3; have hd := (unhide HD3).call hq; obtain ⟨d0, d1, d2, d3, d4, d5, d6, d7, d8, d9, d10⟩ := box11 hd.blk; have fz := hd.blk.frozen 3; have HD4 := hide (hd.s3 t3); clear hq hd))
  have hpp := (unhide HP).symm
  have HDD := hide (unhide HD4)
  refine world_at (R := fun X => DQ (w.alloc (.cells #[.int .i64 0, .int .i64 0, .int .i64 0, .int .i64 0, .int .i64 0, .int .i64 0, .int .i64 0, .slice none 0 0, .slice none 0 0, .int .i64 0, .slice none 0 0] 26)) w3.heap.size c ({ zeroP with kind := (kn : Int), shard := t2, peer := t3 }) (nilL) F X s3) (unhide HD4) ?_
  rw [hpp]
  clear hpp HD3 HD4
  rintro X hX
  have HX := hide hX
  clear hX
  have HWX := hide (fun (W : World) (k : Kept [] X W) => conv_wide ((unhide HW0).kept ((unhide HX).kept.step k)))
  go_cut [86] (fun t wc => t = .bool false ∧ Hid (Kept [] X wc))
  case first =>
    obtain ⟨d0, d1, d2, d3, d4, d5, d6, d7, d8, d9, d10⟩ := box11 (unhide HX).blk
    go_region_with (first
      | (go_at_call 10; refine (unhide HSD _ (nilL)).mono ?_; rintro e w20 ⟨rfl, k20⟩; have K20 : Hid (Kept [] X w20) := (by first | exact k20 | exact ((Kept.refl [] X).drew).step k20); clear k20; obtain ⟨d0, d1, d2, d3, d4, d5, d6, d7, d8, d9, d10⟩ := box11 ((unhide HX).blk.kept (unhide K20) (by simp)); have hc2 := unhide HWX _ (unhide K20))
      | (go_at_call 23; refine (unhide HFM _ (nilL) (((unhide HX).quiet (unhide K20)).wide (unhide HS))).mono ?_; rintro e w21 ⟨a21, cap21, rfl, ho, k21⟩; have K21 := hide ((unhide K20).step k21); have hc1 := conv_wide (Or.inl (Sees.of_own ho)); have hc2 := unhide HWX _ (unhide K21); clear k21 ho))
    all_goals
      go_wp2_with fail
      go_meet
      exact ⟨by simp, hide (unhide K21)⟩
  case rest =>
    obtain ⟨rfl, HKC⟩ := hcut
    have HXC := hide ((unhide HX).quiet (unhide HKC))
    have hres := (unhide HR0).kept (unhide HXC).kept (by simp)
    have HRES := hide hres
    obtain ⟨r0, r1, r2, r3, r4, r5, r6, r7, r8, r9, r10⟩ := box11 hres
    obtain ⟨f0, f1, f2, f3, f4, f5, f6, f7, f8, f9, f10⟩ := froz11 hres
    clear hres
    obtain ⟨d0, d1, d2, d3, d4, d5, d6, d7, d8, d9, d10⟩ := box11 (unhide HXC).blk
    go_wp2_with fail
    refine ret_struct_tmp (b := w.heap.size) rfl rfl (put11 (unhide HRES) _ _ _ _ _ _ _ _ _ _ _) Try.underlying26 infoRec rfl ?_
    refine ⟨((unhide HK0).step (unhide HXC).kept).trans (kept11 wc w.heap.size _ _ _ _ _ _ _ _ _ _ _) (fun x hx => by simp at hx; subst hx; exact Or.inr (Nat.le_refl _)), ?_⟩
    exact ⟨nilL, rfl, (unhide HXC).out (R := w.heap.size) (unhide HS) (by simp) (kept11 wc w.heap.size _ _ _ _ _ _ _ _ _ _ _)⟩
set_option maxRecDepth 100000 in
set_option maxHeartbeats 1600000 in
theorem rdec_O_ne (w : World) {ps : List Nat} {s1 s2 : RS} {kn n2 : Nat} {t2 : Int} {s3 : RS} {n3 : Nat} {t3 : Int} (e1 : rByte ⟨0, ps, []⟩ = (s1, kn)) (e2 : rNum s1 = (s2, n2)) (z2 : IntKind.i64.wrap (n2 : Int) = t2) (e3 : rNum s2 = (s3, n3)) (z3 : IntKind.i64.wrap (n3 : Int) = t3) (c0 : ((kn : Int) == 1) = false) (c1 : ((kn : Int) == 2) = true) {p : Pl} (hp : p = { zeroP with kind := (kn : Int), shard := t2, peer := t3 }) {a : Option Addr} {cap : Nat} (h : Wide w (.slice a ps.length cap) ps) (hb : Bytes ps) (hl : ps.length ≤ 140737488355328) (hs : snd p = true) (he : ((strB (enc p)).toList == (strB ps).toList) = false) : Calls Try.prog 17 #[.slice a ps.length cap] w fun e w' => Kept [] w w' ∧ (e = .returned (.tuple #[rv zeroP nilL, .int .i64 160])) := by
  have HW := hide h
  have HBY := hide hb
  have HPL := hide hl
  clear h hb hl
  have hse := he
  clear he
  have HS := hide hs
  clear hs
  have HC1 : Hid (∀ (W : World) (c : Nat) (F : List Nat), Qs W c F ⟨0, ps, []⟩ → Calls Try.prog 33 #[.pointer (some ⟨c, 0, none⟩)] W fun e w' => e = .returned (.int .i64 (kn : Int)) ∧ QsQ W c F s1 w') := fun W c F h => by have := qbyte_q h; rw [e1] at this; exact this
  have HC2 : Hid (∀ (W : World) (c : Nat) (F : List Nat), Qs W c F s1 → Calls Try.prog 34 #[.pointer (some ⟨c, 0, none⟩)] W fun e w' => e = .returned (.int .u64 (n2 : Int)) ∧ QsQ W c F s2 w') := fun W c F h => by have := qnum_q h; rw [e2] at this; exact this
  have HC3 : Hid (∀ (W : World) (c : Nat) (F : List Nat), Qs W c F s2 → Calls Try.prog 34 #[.pointer (some ⟨c, 0, none⟩)] W fun e w' => e = .returned (.int .u64 (n3 : Int)) ∧ QsQ W c F s3 w') := fun W c F h => by have := qnum_q h; rw [e3] at this; exact this
  clear e1 e2 e3
  have HSD := hide (fun W l => rsound_any W p l)
  have HFM := hide (fun W l (hr : RecW W p l) => rform_any W p l hr (unhide HS))
  rw [unhide HS] at HSD
  have HP := hide hp
  have HR0 := hide (Blk.new w (rcc zeroP nilL) 26)
  have HW0 := hide ((unhide HW).kept ((Kept.refl [] w).alloc (.cells (rcc zeroP nilL) 26)))
  have HK0 := hide ((Kept.refl [] w).alloc (.cells (rcc zeroP nilL) 26))
  rw [show rcc zeroP nilL = #[.int .i64 0, .int .i64 0, .int .i64 0, .int .i64 0, .int .i64 0, .int .i64 0, .int .i64 0, .slice none 0 0, .slice none 0 0, .int .i64 0, .slice none 0 0] from rfl] at HR0 HW0 HK0
  clear HW hp
  go_enter Try.func17, Try.ntmps17
  go_upto_region 19 with (first
    | (go_at_call 32; refine (qread_any (unhide HW0) (unhide HBY) (unhide HPL)).mono ?_; rintro e w1 ⟨c, F, rfl, hq1, hF, k1⟩; have HQ1 := hide hq1; have HF := hide hF; have HK1 := hide k1; clear hq1 hF k1)
    | (go_at_call 33; refine (unhide HC1 _ _ _ (unhide HQ1)).mono ?_; rintro e w2 ⟨rfl, hq2⟩; clear HC1; have HQ2 := hide hq2; clear hq2)
    | (go_at_call 34; refine (unhide HC2 _ _ _ (unhide HQ2).1).mono ?_; rintro e w3 ⟨rfl, hq3⟩; clear HC2; have HD3 := hide (DQ.begin (unhide HF) (unhide HK1) (unhide HQ2) hq3 (kn : Int) t2); rw [show rcc { zeroP with kind := (kn : Int), shard := t2 } nilL = #[.int .i64 (kn : Int), .int .i64 t2, .int .i64 0, .int .i64 0, .int .i64 0, .int .i64 0, .int .i64 0, .slice none 0 0, .slice none 0 0, .int .i64 0, .slice none 0 0] from rfl] at HD3; clear hq3; obtain ⟨d0, d1, d2, d3, d4, d5, d6, d7, d8, d9, d10⟩ := box11 (unhide HD3).blk; have fz := froz11 (unhide HD3).blk)
    | (go_at_call 34; refine (unhide HC3 _ _ _ (unhide HD3).rd).mono ?_; rintro e w4 ⟨rfl, hq⟩; clear HC3; have hd := (unhide HD3).call hq; obtain ⟨d0, d1, d2, d3, d4, d5, d6, d7, d8, d9, d10⟩ := box11 hd.blk; have fz := hd.blk.frozen 3; have HD4 := hide (hd.s3 t3); clear hq hd))
  have hpp := (unhide HP).symm
  have HDD := hide (unhide HD4)
  refine world_at (R := fun X => DQ (w.alloc (.cells #[.int .i64 0, .int .i64 0, .int .i64 0, .int .i64 0, .int .i64 0, .int .i64 0, .int .i64 0, .slice none 0 0, .slice none 0 0, .int .i64 0, .slice none 0 0] 26)) w3.heap.size c ({ zeroP with kind := (kn : Int), shard := t2, peer := t3 }) (nilL) F X s3) (unhide HD4) ?_
  rw [hpp]
  clear hpp HD3 HD4
  rintro X hX
  have HX := hide hX
  clear hX
  have HWX := hide (fun (W : World) (k : Kept [] X W) => conv_wide ((unhide HW0).kept ((unhide HX).kept.step k)))
  go_cut [86] (fun t wc => t = .bool true ∧ Hid (Kept [] X wc))
  case first =>
    obtain ⟨d0, d1, d2, d3, d4, d5, d6, d7, d8, d9, d10⟩ := box11 (unhide HX).blk
    go_region_with (first
      | (go_at_call 10; refine (unhide HSD _ (nilL)).mono ?_; rintro e w20 ⟨rfl, k20⟩; have K20 : Hid (Kept [] X w20) := (by first | exact k20 | exact ((Kept.refl [] X).drew).step k20); clear k20; obtain ⟨d0, d1, d2, d3, d4, d5, d6, d7, d8, d9, d10⟩ := box11 ((unhide HX).blk.kept (unhide K20) (by simp)); have hc2 := unhide HWX _ (unhide K20))
      | (go_at_call 23; refine (unhide HFM _ (nilL) (((unhide HX).quiet (unhide K20)).wide (unhide HS))).mono ?_; rintro e w21 ⟨a21, cap21, rfl, ho, k21⟩; have K21 := hide ((unhide K20).step k21); have hc1 := conv_wide (Or.inl (Sees.of_own ho)); have hc2 := unhide HWX _ (unhide K21); clear k21 ho))
    all_goals
      go_wp2_with fail
      go_meet
      exact ⟨by simp, hide (unhide K21)⟩
  case rest =>
    obtain ⟨rfl, HKC⟩ := hcut
    have HXC := hide ((unhide HX).quiet (unhide HKC))
    have hres := (unhide HR0).kept (unhide HXC).kept (by simp)
    have HRES := hide hres
    obtain ⟨r0, r1, r2, r3, r4, r5, r6, r7, r8, r9, r10⟩ := box11 hres
    obtain ⟨f0, f1, f2, f3, f4, f5, f6, f7, f8, f9, f10⟩ := froz11 hres
    clear hres
    obtain ⟨d0, d1, d2, d3, d4, d5, d6, d7, d8, d9, d10⟩ := box11 (unhide HXC).blk
    go_wp2_with fail
    refine ret_struct_tmp (b := w.heap.size) rfl rfl (put11 (unhide HRES) _ _ _ _ _ _ _ _ _ _ _) Try.underlying26 infoRec rfl ?_
    refine ⟨((unhide HK0).step (unhide HXC).kept).trans (kept11 wc w.heap.size _ _ _ _ _ _ _ _ _ _ _) (fun x hx => by simp at hx; subst hx; exact Or.inr (Nat.le_refl _)), ?_⟩
    rfl
end Go.Proofs.Ytocmgfmfalaebaa
