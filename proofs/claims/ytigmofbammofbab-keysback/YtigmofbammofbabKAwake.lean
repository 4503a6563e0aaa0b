/- The program is awake. -/
import Derived.Test.YtigmofbammofbabKSame
namespace Go.Proofs.Ytigmofbammofbab
open Go.RowKit

/-- the two rows of awake -/
def rowA : Row := .cons { hd0 3 with n := -1 } .nil (.cons { hd0 6 with text := [7, 0] } .nil .nil)
def rowB : Row := .cons { hd0 3 with n := 1 } .nil .nil
def codeA : List Nat := [3, 127, 255, 255, 255, 255, 255, 255, 255, 6, 7, 0, 255, 0]
theorem codeA_eq : codeR rowA = codeA := by decide
theorem faultA : faultR rowA 0 = 0 := by decide
theorem faultB : faultR rowB 0 = 0 := by decide
theorem cmpAB : cmpR rowA rowB = -1 := by decide
theorem decA : decR codeA = .ok rowA := by rfl
theorem okA1 : Hd.ok { hd0 3 with n := -1 } := ⟨by simp [hd0], by simp [hd0], by simp, by simp, by simp [hd0], by simp [hd0], by simp [hd0], by simp [hd0]⟩
theorem okB1 : Hd.ok { hd0 3 with n := 1 } := ⟨by simp [hd0], by simp [hd0], by simp, by simp, by simp [hd0], by simp [hd0], by simp [hd0], by simp [hd0]⟩
theorem okA2 : Hd.ok { hd0 6 with text := [7, 0] } := ok6 (by decide)

theorem rowA_mem {w : World} {b t : Nat} (hb : Blk w b #[.int .i64 3, .bool false, .int .i64 (-1), .float .f64 0, .complex .f64 0 0, .slice none 0 0, .slice none 0 0, .int .i64 6, .bool false, .int .i64 0, .float .f64 0, .complex .f64 0 0, .slice (some ⟨t, 0, none⟩) 2 2, .slice none 0 0] 48) (ht : Blk w t #[.int .u8 7, .int .u8 0] 5) : RowV Any w (.slice (some ⟨b, 0, none⟩) 2 2) rowA := by
  refine ⟨some ⟨b, 0, none⟩, 2, rfl, by simp [rowA, Row.len], by simp [maxLen], Or.inr ⟨b, 0, rfl, hb.lt, trivial, ?_⟩⟩
  refine ⟨⟨okA1, _, _, ⟨hb.cell 0, hb.cell 1, hb.cell 2, hb.cell 3, hb.cell 4, hb.cell 5, hb.cell 6⟩, SeesIn.none _ _, RowV.nil _ _⟩, ⟨okA2, _, _, ⟨hb.cell 7, hb.cell 8, hb.cell 9, hb.cell 10, hb.cell 11, hb.cell 12, hb.cell 13⟩, ⟨?_, Or.inr fun _ _ => trivial⟩, RowV.nil _ _⟩, trivial⟩
  exact Sees.of_blk (n := 2) (bs := [7, 0]) rfl ht (by decide) 2 (by omega) (by omega)
theorem rowB_mem {w : World} {b : Nat} (hb : Blk w b #[.int .i64 3, .bool false, .int .i64 1, .float .f64 0, .complex .f64 0 0, .slice none 0 0, .slice none 0 0] 48) : RowV Any w (.slice (some ⟨b, 0, none⟩) 1 1) rowB := by
  refine ⟨some ⟨b, 0, none⟩, 1, rfl, by simp [rowB, Row.len], by simp [maxLen], Or.inr ⟨b, 0, rfl, hb.lt, trivial, ?_⟩⟩
  exact ⟨⟨okB1, _, _, ⟨hb.cell 0, hb.cell 1, hb.cell 2, hb.cell 3, hb.cell 4, hb.cell 5, hb.cell 6⟩, SeesIn.none _ _, RowV.nil _ _⟩, trivial⟩

theorem encA {w : World} {v : Value} (h : RowV Any w v rowA) : Calls Try.prog 10 #[v] w fun e w' => ∃ a cap, e = .returned (.tuple #[.slice a 14 cap, .int .i64 0]) ∧ Sees w' (.slice a 14 cap) codeA ∧ Kept [] w w' := by
  refine (encode_any h (by rw [codeA_eq]; decide)).mono ?_
  rintro e w' ⟨hk, hh⟩
  rcases hh with ⟨_, a, n, cap, rfl, hn, ho⟩ | ⟨hf, _⟩
  · rw [codeA_eq] at hn ho
    have : n = 14 := hn.symm
    subst this
    exact ⟨a, cap, rfl, Sees.of_own (bs := codeA) ho (by decide), hk⟩
  · exact absurd faultA hf
theorem decodeA {w : World} {v : Value} (h : Sees w v codeA) : Calls Try.prog 12 #[v] w fun e w' => ∃ g off vc ta tc, e = .returned (.tuple #[.slice (some ⟨g, off, none⟩) 2 vc, .int .i64 0]) ∧ g < w'.heap.size ∧ w'.cell? ⟨g, off + 2, none⟩ = some (.int .i64 (-1)) ∧ w'.cell? ⟨g, off + 7 + 5, none⟩ = some (.slice ta 2 tc) ∧ Sees w' (.slice ta 2 tc) [7, 0] ∧ Kept [] w w' := by
  refine (decode_any h (by decide)).mono ?_
  rintro e w' ⟨ho, hk⟩
  rw [decA] at ho
  obtain ⟨va, vn, vc, rfl, hn, a, cap, hv, _, _, h3⟩ := ho
  have hvn : vn = 2 := hn.symm
  subst hvn
  cases hv
  rcases h3 with h3 | ⟨g, off, rfl, hg, _, hat⟩
  · cases h3
  · obtain ⟨⟨_, _, _, hc1, _⟩, ⟨⟨_, tv, pv, hc2, hs2, _⟩, _⟩⟩ := hat
    obtain ⟨⟨ta, tc, rfl, hrest⟩, _⟩ := hs2
    exact ⟨g, off, _, ta, tc, rfl, hg, hc1.2.2.1, hc2.2.2.2.2.2.1, ⟨ta, tc, rfl, hrest⟩, hk⟩
theorem cmpA {w : World} {va vb : Value} (h : RowV Any w va rowA) (h2 : RowV Any w vb rowB) : Calls Try.prog 16 #[va, vb] w fun e w' => e = .returned (.tuple #[.int .i64 (-1), .int .i64 0]) ∧ Kept [] w w' := by
  refine (compare_any h h2).mono ?_
  rintro e w' ⟨hk, rfl⟩
  rw [faultA, faultB, cmpAB]
  exact ⟨rfl, hk⟩

set_option maxRecDepth 100000 in
set_option maxHeartbeats 2000000 in
theorem awake_any (w : World) : Calls Try.prog 9 #[] w fun e w' => e = .returned (.bool true) ∧ Kept [] w w' := by
  have HK0 : Hid (Kept [] w ((w.alloc (.cells #[.int .u8 7, .int .u8 0] 5)).alloc (.cells #[.int .i64 3, .bool false, .int .i64 (-1), .float .f64 0, .complex .f64 0 0, .slice none 0 0, .slice none 0 0, .int .i64 6, .bool false, .int .i64 0, .float .f64 0, .complex .f64 0 0, .slice (some ⟨w.heap.size, 0, none⟩) 2 2, .slice none 0 0] 48))) := ((Kept.refl [] w).alloc _).alloc _
  have hb0 := Blk.new (w.alloc (.cells #[.int .u8 7, .int .u8 0] 5)) #[.int .i64 3, .bool false, .int .i64 (-1), .float .f64 0, .complex .f64 0 0, .slice none 0 0, .slice none 0 0, .int .i64 6, .bool false, .int .i64 0, .float .f64 0, .complex .f64 0 0, .slice (some ⟨w.heap.size, 0, none⟩) 2 2, .slice none 0 0] 48
  rw [World.size_alloc] at hb0
  have HR0 := hide (rowA_mem hb0 ((Blk.new w #[.int .u8 7, .int .u8 0] 5).alloc _))
  clear hb0
  have HE := hide (encA (unhide HR0))
  go_enter Try.func9, Try.ntmps9
  go_wp2_with (first
    | (go_at_call 10; refine (unhide HE).mono ?_; rintro e w1 ⟨pa, pc, rfl, hs1, hk1⟩; have HK1 := hide ((unhide HK0).trans hk1 (by simp)); have HR1 := hide ((unhide HR0).kept hk1 (by simp)); have HP1 := hide hs1; have HD := hide (decodeA hs1); clear hs1 hk1)
    | (go_at_call 12; refine (unhide HD).mono ?_; rintro e w2 ⟨g, off, vc, ta, tc, rfl, hg, c1, c2, hs2, hk2⟩; have HK2 := hide ((unhide HK1).trans hk2 (by simp)); have k2b : Kept [] w2 (w2.alloc (.cells #[.int .i64 3, .bool false, .int .i64 1, .float .f64 0, .complex .f64 0 0, .slice none 0 0, .slice none 0 0] 48)) := (Kept.refl [] w2).alloc _; have HR2 := hide (((unhide HR1).kept hk2 (by simp)).kept k2b (by simp)); have HP2 := hide (((unhide HP1).kept hk2 (Or.inr (by simp))).kept k2b (Or.inr (by simp))); have HC := hide (cmpA (unhide HR2) (rowB_mem (Blk.new w2 _ _))); have HG2 := hide (⟨hg, c1, c2, hs2, k2b⟩ : _ ∧ _ ∧ _ ∧ _ ∧ _); clear hg c1 c2 hs2 hk2 k2b)
    | (go_at_call 16; refine (unhide HC).mono ?_; rintro e w3 ⟨rfl, hk3⟩; have HK3 := hide (((unhide HK2).trans (unhide HG2).2.2.2.2 (by simp)).trans hk3 (by simp)); have k3b : Kept [] w3 (w3.alloc (.cells #[.int .u8 3, .int .u8 127, .int .u8 255, .int .u8 255, .int .u8 255, .int .u8 255, .int .u8 255, .int .u8 255, .int .u8 255, .int .u8 6, .int .u8 7, .int .u8 0, .int .u8 255, .int .u8 0] 5)) := (Kept.refl [] w3).alloc _; have k23 := (unhide HG2).2.2.2.2.trans hk3 (by simp); have k24 := k23.trans k3b (by simp); have HS3 := hide (same_yes (((unhide HP2).kept hk3 (Or.inr (by simp))).kept k3b (Or.inr (by simp))) (Sees.of_blk (n := 14) (bs := codeA) rfl (Blk.new w3 _ 5) (by decide) 14 (by omega) (by omega))); have HK34 := hide k24; have HK3B := hide k3b; clear hk3 k3b k23 k24)
    | (go_at_call 15; refine (unhide HS3).mono ?_; rintro e w4 ⟨rfl, hk4⟩; have HK4 := hide (((unhide HK3).trans (unhide HK3B) (by simp)).trans hk4 (by simp)); have k25 := (unhide HK34).trans hk4 (by simp); have c1 := (k25.cell (p := ⟨g, off + 2, none⟩) (unhide HG2).1 (by simp)).trans (unhide HG2).2.1; have c2 := (k25.cell (p := ⟨g, off + 7 + 5, none⟩) (unhide HG2).1 (by simp)).trans (unhide HG2).2.2.1; have k4b : Kept [] w4 (w4.alloc (.cells #[.int .u8 7, .int .u8 0] 5)) := (Kept.refl [] w4).alloc _; have HS4 := hide (same_yes ((((unhide HG2).2.2.2.1).kept k25 (Or.inr (by simp))).kept k4b (Or.inr (by simp))) (Sees.of_blk (n := 2) (bs := [7, 0]) rfl (Blk.new w4 _ 5) (by decide) 2 (by omega) (by omega))); have HK4B := hide k4b; clear hk4 k25 k4b HS3)
    | (go_at_call 15; refine (unhide HS4).mono ?_; rintro e w5 ⟨rfl, hk5⟩; have HK5 := hide (((unhide HK4).trans (unhide HK4B) (by simp)).trans hk5 (by simp)); clear hk5))
  go_ret
  exact ⟨rfl, unhide HK5⟩
end Go.Proofs.Ytigmofbammofbab
