/- Texts laid one behind the other: RKl RKm RWk. -/
import Derived.Test.YtfhfkpgfnlmfhaaDoorPkBL
import Derived.Test.YtfhfkpgfnlmfhaaDoorPkBM
import Derived.Deep.RegionHeld3
import Derived.Test.YtfhfkpgfnlmfhaaDoorPkBD
import Derived.Test.YtfhfkpgfnlmfhaaDoorPkBA
/- MailEncodes: lentMail with its marks, lists. -/
namespace Go.Proofs.YtfhfkpgfnlmfhaaDoor
open Go.RowKit

theorem lent_parts {w : World} {base g n cap : Nat} {P : List Nat} (hn : P.length = n) (h : w.ownsRow base 5 1 (.slice (some ⟨g, 0, none⟩) (n + 2) cap) (n + 2) (u8s (P ++ [201, 77]))) :
    w.ownsRow base 5 1 (.slice (some ⟨g, 0, none⟩) n cap) n (u8s P) ∧ w.cell? ⟨g, n, none⟩ = some (.int .u8 201) ∧ w.cell? ⟨g, n + 1, none⟩ = some (.int .u8 77) := by
  have hc := h.cells (g := g) rfl
  have hadd : ∀ i, (⟨g, 0, none⟩ : Addr).add i = ⟨g, i, none⟩ := by intro i; unfold Addr.add; split <;> simp_all
  refine ⟨?_, ?_, ?_⟩
  · have := own_take (k := n) h (by omega)
    have e : (u8s (P ++ [201, 77])).take n = u8s P := by rw [u8s_append, List.take_append_of_le_length (by rw [u8s_length]; omega), List.take_of_length_le (by rw [u8s_length]; omega)]
    rw [e] at this
    exact this
  · rw [← hadd]; exact hc n _ (by subst hn; simp [u8s])
  · rw [← hadd]; exact hc (n + 1) _ (by subst hn; simp [u8s])
theorem ret_struct {P : Program} {fn : Func} {R : Ending → World → Prop} {a : Act} {w : World} {p : Tmp} {ty : TypeId} {b : Nat} {cs : Array Value} {fs : Array Field}
    (hr : fn.results = #[.cell p ty]) (hp : a.tmps.getD p undef = .pointer (some ⟨b, 0, none⟩)) (hb : Blk w b cs ty)
    (hu : P.underlying ty = some (.struct fs)) (hi : (P.info? ty).map (·.size) = some cs.size) (hd : a.defers = []) (hR : R (.returned (.agg cs)) w) : bodyPost P fn R .ret a w := by
  refine bodyPost_ret (v := .agg cs) ?_ hd hR
  exact results_cell_row hr a.tmps w b ty cs (0, 0) _ hp hb hu rfl hi
/-- A message being lent: its box, the box of the result. -/
structure LM (w : World) (p : Ml) (l : Lm) (W : World) : Prop where
  blk : Blk W w.heap.size (mcc p l) 30
  res : Blk W (w.heap.size + 1) (mcc zeroM nilM) 30
  kept : Kept [] w W
theorem LM.go {w : World} {p : Ml} {l : Lm} {W Y : World} (h : LM w p l W) (k : Kept [] W Y) : LM w p l Y := ⟨h.blk.kept k (by simp), h.res.kept k (by simp), h.kept.step k⟩
theorem LM.sz {w : World} {p : Ml} {l : Lm} {W : World} (h : LM w p l W) : w.heap.size + 2 ≤ W.heap.size := by have := h.res.lt; omega
theorem LM.begin (w : World) (p : Ml) (l : Lm) : LM w p l ((w.alloc (.cells (mcc p l) 30)).alloc (.cells (mcc zeroM nilM) 30)) := ⟨(Blk.new _ _ _).alloc _, new1 _ _ _ _, ((Kept.refl [] w).alloc _).alloc _⟩
theorem kept_set (W : World) (b o : Nat) (v : Value) : Kept [b] W (W.setCell ⟨b, o, none⟩ v) := (Kept.refl [b] W).setCell (Or.inl (by simp)) _
theorem LM.set6 {w : World} {p : Ml} {l : Lm} {W : World} (h : LM w p l W) (a : Option Addr) (c : Nat) : LM w p { l with ca := a, cc := c } (W.setCell ⟨w.heap.size, 6, none⟩ (.slice a p.copy.length c)) := ⟨by simpa [mcc] using h.blk.set 6 (.slice a p.copy.length c), h.res.kept (kept_set _ _ _ _) (by simp), h.kept.setCell (Or.inr (Nat.le_refl _)) _⟩
theorem LM.set10 {w : World} {p : Ml} {l : Lm} {W : World} (h : LM w p l W) (a : Option Addr) (c : Nat) : LM w p { l with ka := a, kc := c } (W.setCell ⟨w.heap.size, 10, none⟩ (.slice a p.key.length c)) := ⟨by simpa [mcc] using h.blk.set 10 (.slice a p.key.length c), h.res.kept (kept_set _ _ _ _) (by simp), h.kept.setCell (Or.inr (Nat.le_refl _)) _⟩
theorem LM.set11 {w : World} {p : Ml} {l : Lm} {W : World} (h : LM w p l W) (a : Option Addr) (c : Nat) : LM w p { l with va := a, vc := c } (W.setCell ⟨w.heap.size, 11, none⟩ (.slice a p.val.length c)) := ⟨by simpa [mcc] using h.blk.set 11 (.slice a p.val.length c), h.res.kept (kept_set _ _ _ _) (by simp), h.kept.setCell (Or.inr (Nat.le_refl _)) _⟩
theorem LM.set15 {w : World} {p : Ml} {l : Lm} {W : World} (h : LM w p l W) (a : Option Addr) (c : Nat) : LM w p { l with xa := a, xc := c } (W.setCell ⟨w.heap.size, 15, none⟩ (.slice a p.akey.length c)) := ⟨by simpa [mcc] using h.blk.set 15 (.slice a p.akey.length c), h.res.kept (kept_set _ _ _ _) (by simp), h.kept.setCell (Or.inr (Nat.le_refl _)) _⟩
theorem LM.set16 {w : World} {p : Ml} {l : Lm} {W : World} (h : LM w p l W) (a : Option Addr) (c : Nat) : LM w p { l with ya := a, yc := c } (W.setCell ⟨w.heap.size, 16, none⟩ (.slice a p.aval.length c)) := ⟨by simpa [mcc] using h.blk.set 16 (.slice a p.aval.length c), h.res.kept (kept_set _ _ _ _) (by simp), h.kept.setCell (Or.inr (Nat.le_refl _)) _⟩
/-- A list that was lent, with its marks. -/
def Lnt (w W : World) (g cap : Nat) (P : List Nat) : Prop := w.heap.size + 2 ≤ g ∧ P.length + 2 ≤ cap ∧ W.ownsRow w.heap.size 5 1 (.slice (some ⟨g, 0, none⟩) (P.length + 2) cap) (P.length + 2) (u8s (P ++ [201, 77]))
theorem Lnt.kept {w W Y : World} {g cap : Nat} {P : List Nat} (h : Lnt w W g cap P) (k : Kept [] W Y) : Lnt w Y g cap P := ⟨h.1, h.2.1, own_kept h.2.2 k (by simp)⟩
theorem Lnt.set {w W : World} {g cap : Nat} {P : List Nat} (h : Lnt w W g cap P) (o : Nat) (v : Value) : Lnt w (W.setCell ⟨w.heap.size, o, none⟩ v) g cap P := ⟨h.1, h.2.1, own_kept h.2.2 (kept_set _ _ _ _) (fun q hq hm => by simp [Value.ownBlock] at hq hm; have := h.1; omega)⟩
theorem Lnt.own {w W : World} {g cap : Nat} {P : List Nat} (h : Lnt w W g cap P) : W.ownsRow w.heap.size 5 1 (.slice (some ⟨g, 0, none⟩) P.length cap) P.length (u8s P) := (lent_parts rfl h.2.2).1
theorem Lnt.wide {w W : World} {g cap : Nat} {P : List Nat} (h : Lnt w W g cap P) : Wide W (.slice (some ⟨g, 0, none⟩) P.length cap) P := Or.inl (Sees.of_own h.own)
theorem kept_at {w W : World} {g cap : Nat} {P : List Nat} (h : Lnt w W g cap P) (hl : P.length ≤ 140737488355326) {y : Value} (hy : Wide W y P) : Calls Tryd.prog 35 #[.slice (some ⟨g, 0, none⟩) P.length cap, y] W fun e w' => e = .returned (.bool true) ∧ Kept [] W w' :=
  (kept_yes rfl hl h.2.1 (Sees.of_own h.own) hy (lent_parts rfl h.2.2).2.1 (lent_parts rfl h.2.2).2.2).mono (by rintro e w' ⟨rfl, m, rfl⟩; exact ⟨rfl, (Kept.refl [] W).drewN m⟩)
theorem lent_at {w W : World} {p : Ml} {l : Lm} (h : LM w p l W) {x : Value} {P : List Nat} (hx : Wide w x P) (hl : P.length ≤ 140737488355326) : Calls Tryd.prog 26 #[x] W fun e w' => ∃ g cap, e = .returned (.slice (some ⟨g, 0, none⟩) P.length cap) ∧ Lnt w w' g cap P ∧ Kept [] W w' ∧ W.heap.size ≤ g ∧ g < w'.heap.size := by
  refine (lent_any (hx.kept h.kept) hl).mono ?_
  rintro e w' ⟨g, cap, rfl, hc, ho, k⟩
  have hg := ho.lt g rfl
  have hsz := h.sz
  exact ⟨g, cap, rfl, ⟨by omega, hc, own_down ho (by omega)⟩, k, hg.1, hg.2⟩
def lnM (g1 c1 g2 c2 g3 c3 g4 c4 g5 c5 : Nat) : Lm := ⟨some ⟨g1, 0, none⟩, c1, some ⟨g2, 0, none⟩, c2, some ⟨g3, 0, none⟩, c3, some ⟨g4, 0, none⟩, c4, some ⟨g5, 0, none⟩, c5⟩
/-- What lentMail answers. -/
def LentP (w : World) (p : Ml) (e : Ending) (w' : World) : Prop := Kept [] w w' ∧ ∃ g1 c1 g2 c2 g3 c3 g4 c4 g5 c5, e = .returned (.agg (mcc p (lnM g1 c1 g2 c2 g3 c3 g4 c4 g5 c5))) ∧ (Lnt w w' g1 c1 p.copy ∧ Lnt w w' g2 c2 p.key ∧ Lnt w w' g3 c3 p.val ∧ Lnt w w' g4 c4 p.akey ∧ Lnt w w' g5 c5 p.aval) ∧ g1 < g2 ∧ g2 < g3 ∧ g3 < g4 ∧ g4 < g5
set_option maxRecDepth 100000 in
set_option maxHeartbeats 3200000 in
theorem lentMail_any {w : World} {p : Ml} {l : Lm} (hm : MW w p l) (hl : ∀ o, isT o → (getT p o).length ≤ 140737488355326) : Calls Tryd.prog 10 #[.agg (mcc p l)] w (LentP w p) := by
  have H0 := hide (LM.begin w p l)
  have HL1 := hide (fun (W : World) (m : Lm) (h : LM w p m W) => lent_at h (hm.wide 6 (by simp [isT])) (hl 6 (by simp [isT])))
  have HL2 := hide (fun (W : World) (m : Lm) (h : LM w p m W) => lent_at h (hm.wide 10 (by simp [isT])) (hl 10 (by simp [isT])))
  have HL3 := hide (fun (W : World) (m : Lm) (h : LM w p m W) => lent_at h (hm.wide 11 (by simp [isT])) (hl 11 (by simp [isT])))
  have HL4 := hide (fun (W : World) (m : Lm) (h : LM w p m W) => lent_at h (hm.wide 15 (by simp [isT])) (hl 15 (by simp [isT])))
  have HL5 := hide (fun (W : World) (m : Lm) (h : LM w p m W) => lent_at h (hm.wide 16 (by simp [isT])) (hl 16 (by simp [isT])))
  clear hm hl
  go_enter Tryd.func10, Tryd.ntmps10
  go_upto_region 1 with fail
  refine world_at (R := fun X => LM w p l X) (unhide H0) ?_
  clear H0
  rintro X0 hx
  have H0 := hide hx
  clear hx
  obtain ⟨d0, d1, d2, d3, d4, d5, d6, d7, d8, d9, d10, d11, d12, d13, d14, d15, d16, d17, d18, d19⟩ := box20 (unhide H0).blk
  go_upto_region 2 with (go_at_call 26; refine (unhide HL1 _ _ (unhide H0)).mono ?_; rintro e w1 ⟨g1, c1, rfl, hn, k, lo, hi⟩; have H1 := hide ((unhide H0).go k); clear d0 d1 d2 d3 d4 d5 d6 d7 d8 d9 d10 d11 d12 d13 d14 d15 d16 d17 d18 d19; obtain ⟨d0, d1, d2, d3, d4, d5, d6, d7, d8, d9, d10, d11, d12, d13, d14, d15, d16, d17, d18, d19⟩ := box20 (unhide H1).blk; have fz := (unhide H1).blk.frozen 6; have HN1 := hide hn; have HG1 := hide (And.intro lo hi); clear hn k lo hi)
  refine world_at (R := fun X => LM w p _ X ∧ Lnt w X g1 c1 p.copy ∧ w1.heap.size ≤ X.heap.size) ⟨(unhide H1).set6 (some ⟨g1, 0, none⟩) c1, (unhide HN1).set 6 _, by simp⟩ ?_
  clear d0 d1 d2 d3 d4 d5 d6 d7 d8 d9 d10 d11 d12 d13 d14 d15 d16 d17 d18 d19 fz
  rintro X1 ⟨hx, x1, xs1⟩
  have H1 := hide hx
  have HN1 := hide x1
  clear hx x1
  obtain ⟨d0, d1, d2, d3, d4, d5, d6, d7, d8, d9, d10, d11, d12, d13, d14, d15, d16, d17, d18, d19⟩ := box20 (unhide H1).blk
  go_upto_region 3 with (go_at_call 26; refine (unhide HL2 _ _ (unhide H1)).mono ?_; rintro e w2 ⟨g2, c2, rfl, hn, k, lo, hi⟩; have H2 := hide ((unhide H1).go k); clear d0 d1 d2 d3 d4 d5 d6 d7 d8 d9 d10 d11 d12 d13 d14 d15 d16 d17 d18 d19; obtain ⟨d0, d1, d2, d3, d4, d5, d6, d7, d8, d9, d10, d11, d12, d13, d14, d15, d16, d17, d18, d19⟩ := box20 (unhide H2).blk; have fz := (unhide H2).blk.frozen 10; have HN2 := hide hn; have HG2 := hide (And.intro lo hi); have HN1 := hide ((unhide HN1).kept k); clear hn k lo hi)
  refine world_at (R := fun X => LM w p _ X ∧ Lnt w X g1 c1 p.copy ∧ Lnt w X g2 c2 p.key ∧ w2.heap.size ≤ X.heap.size) ⟨(unhide H2).set10 (some ⟨g2, 0, none⟩) c2, (unhide HN1).set 10 _, (unhide HN2).set 10 _, by simp⟩ ?_
  clear d0 d1 d2 d3 d4 d5 d6 d7 d8 d9 d10 d11 d12 d13 d14 d15 d16 d17 d18 d19 fz
  rintro X2 ⟨hx, x1, x2, xs2⟩
  have H2 := hide hx
  have HN1 := hide x1
  have HN2 := hide x2
  clear hx x1 x2
  obtain ⟨d0, d1, d2, d3, d4, d5, d6, d7, d8, d9, d10, d11, d12, d13, d14, d15, d16, d17, d18, d19⟩ := box20 (unhide H2).blk
  go_upto_region 4 with (go_at_call 26; refine (unhide HL3 _ _ (unhide H2)).mono ?_; rintro e w3 ⟨g3, c3, rfl, hn, k, lo, hi⟩; have H3 := hide ((unhide H2).go k); clear d0 d1 d2 d3 d4 d5 d6 d7 d8 d9 d10 d11 d12 d13 d14 d15 d16 d17 d18 d19; obtain ⟨d0, d1, d2, d3, d4, d5, d6, d7, d8, d9, d10, d11, d12, d13, d14, d15, d16, d17, d18, d19⟩ := box20 (unhide H3).blk; have fz := (unhide H3).blk.frozen 11; have HN3 := hide hn; have HG3 := hide (And.intro lo hi); have HN1 := hide ((unhide HN1).kept k); have HN2 := hide ((unhide HN2).kept k); clear hn k lo hi)
  refine world_at (R := fun X => LM w p _ X ∧ Lnt w X g1 c1 p.copy ∧ Lnt w X g2 c2 p.key ∧ Lnt w X g3 c3 p.val ∧ w3.heap.size ≤ X.heap.size) ⟨(unhide H3).set11 (some ⟨g3, 0, none⟩) c3, (unhide HN1).set 11 _, (unhide HN2).set 11 _, (unhide HN3).set 11 _, by simp⟩ ?_
  clear d0 d1 d2 d3 d4 d5 d6 d7 d8 d9 d10 d11 d12 d13 d14 d15 d16 d17 d18 d19 fz
  rintro X3 ⟨hx, x1, x2, x3, xs3⟩
  have H3 := hide hx
  have HN1 := hide x1
  have HN2 := hide x2
  have HN3 := hide x3
  clear hx x1 x2 x3
  obtain ⟨d0, d1, d2, d3, d4, d5, d6, d7, d8, d9, d10, d11, d12, d13, d14, d15, d16, d17, d18, d19⟩ := box20 (unhide H3).blk
  go_upto_region 5 with (go_at_call 26; refine (unhide HL4 _ _ (unhide H3)).mono ?_; rintro e w4 ⟨g4, c4, rfl, hn, k, lo, hi⟩; have H4 := hide ((unhide H3).go k); clear d0 d1 d2 d3 d4 d5 d6 d7 d8 d9 d10 d11 d12 d13 d14 d15 d16 d17 d18 d19; obtain ⟨d0, d1, d2, d3, d4, d5, d6, d7, d8, d9, d10, d11, d12, d13, d14, d15, d16, d17, d18, d19⟩ := box20 (unhide H4).blk; have fz := (unhide H4).blk.frozen 15; have HN4 := hide hn; have HG4 := hide (And.intro lo hi); have HN1 := hide ((unhide HN1).kept k); have HN2 := hide ((unhide HN2).kept k); have HN3 := hide ((unhide HN3).kept k); clear hn k lo hi)
  refine world_at (R := fun X => LM w p _ X ∧ Lnt w X g1 c1 p.copy ∧ Lnt w X g2 c2 p.key ∧ Lnt w X g3 c3 p.val ∧ Lnt w X g4 c4 p.akey ∧ w4.heap.size ≤ X.heap.size) ⟨(unhide H4).set15 (some ⟨g4, 0, none⟩) c4, (unhide HN1).set 15 _, (unhide HN2).set 15 _, (unhide HN3).set 15 _, (unhide HN4).set 15 _, by simp⟩ ?_
  clear d0 d1 d2 d3 d4 d5 d6 d7 d8 d9 d10 d11 d12 d13 d14 d15 d16 d17 d18 d19 fz
  rintro X4 ⟨hx, x1, x2, x3, x4, xs4⟩
  have H4 := hide hx
  have HN1 := hide x1
  have HN2 := hide x2
  have HN3 := hide x3
  have HN4 := hide x4
  clear hx x1 x2 x3 x4
  obtain ⟨d0, d1, d2, d3, d4, d5, d6, d7, d8, d9, d10, d11, d12, d13, d14, d15, d16, d17, d18, d19⟩ := box20 (unhide H4).blk
  go_upto_region 6 with (go_at_call 26; refine (unhide HL5 _ _ (unhide H4)).mono ?_; rintro e w5 ⟨g5, c5, rfl, hn, k, lo, hi⟩; have H5 := hide ((unhide H4).go k); clear d0 d1 d2 d3 d4 d5 d6 d7 d8 d9 d10 d11 d12 d13 d14 d15 d16 d17 d18 d19; obtain ⟨d0, d1, d2, d3, d4, d5, d6, d7, d8, d9, d10, d11, d12, d13, d14, d15, d16, d17, d18, d19⟩ := box20 (unhide H5).blk; have fz := (unhide H5).blk.frozen 16; have HN5 := hide hn; have HG5 := hide (And.intro lo hi); have HN1 := hide ((unhide HN1).kept k); have HN2 := hide ((unhide HN2).kept k); have HN3 := hide ((unhide HN3).kept k); have HN4 := hide ((unhide HN4).kept k); clear hn k lo hi)
  refine world_at (R := fun X => LM w p _ X ∧ Lnt w X g1 c1 p.copy ∧ Lnt w X g2 c2 p.key ∧ Lnt w X g3 c3 p.val ∧ Lnt w X g4 c4 p.akey ∧ Lnt w X g5 c5 p.aval ∧ w5.heap.size ≤ X.heap.size) ⟨(unhide H5).set16 (some ⟨g5, 0, none⟩) c5, (unhide HN1).set 16 _, (unhide HN2).set 16 _, (unhide HN3).set 16 _, (unhide HN4).set 16 _, (unhide HN5).set 16 _, by simp⟩ ?_
  clear d0 d1 d2 d3 d4 d5 d6 d7 d8 d9 d10 d11 d12 d13 d14 d15 d16 d17 d18 d19 fz
  rintro X5 ⟨hx, x1, x2, x3, x4, x5, xs5⟩
  have H5 := hide hx
  have HN1 := hide x1
  have HN2 := hide x2
  have HN3 := hide x3
  have HN4 := hide x4
  have HN5 := hide x5
  clear hx x1 x2 x3 x4 x5
  obtain ⟨d0, d1, d2, d3, d4, d5, d6, d7, d8, d9, d10, d11, d12, d13, d14, d15, d16, d17, d18, d19⟩ := box20 (unhide H5).blk
  have HLT : Hid (g1 < g2 ∧ g2 < g3 ∧ g3 < g4 ∧ g4 < g5) := by
    have h1 := unhide HG1; have h2 := unhide HG2; have h3 := unhide HG3; have h4 := unhide HG4; have h5 := unhide HG5
    exact ⟨by omega, by omega, by omega, by omega⟩
  have hm : mcc p { l with ca := some ⟨g1, 0, none⟩, cc := c1, ka := some ⟨g2, 0, none⟩, kc := c2, va := some ⟨g3, 0, none⟩, vc := c3, xa := some ⟨g4, 0, none⟩, xc := c4, ya := some ⟨g5, 0, none⟩, yc := c5 } = mcc p (lnM g1 c1 g2 c2 g3 c3 g4 c4 g5 c5) := rfl
  have hb5 : Blk X5 w.heap.size (mcc p (lnM g1 c1 g2 c2 g3 c3 g4 c4 g5 c5)) 30 := (unhide H5).blk
  have hr5 := (unhide H5).res
  clear d0 d1 d2 d3 d4 d5 d6 d7 d8 d9 d10 d11 d12 d13 d14 d15 d16 d17 d18 d19
  go_wp2_with (first
    | (refine wpList_load_guard 30 _ rfl _ rfl 30 _ (0, 0) _ hb5 Tryd.underlying30 rfl infoMail rfl ?_)
    | (refine wpList_store_row rfl 30 _ _ rfl (w.heap.size + 1) (mcc p (lnM g1 c1 g2 c2 g3 c3 g4 c4 g5 c5)) rfl rfl 30 _ hr5 infoMail rfl (by simp [mcc, Value.oneCell']) ?_))
  refine ret_struct rfl rfl (setRow_heap _ _ _ _ _ _ hr5) Tryd.underlying30 infoMail rfl ?_
  have kr : ∀ cs, Kept [w.heap.size + 1] X5 (X5.setRow (w.heap.size + 1) cs) := fun cs => (Kept.refl [w.heap.size + 1] X5).setRow (Or.inl (by simp)) cs
  have kn : ∀ {g c : Nat} {P : List Nat}, Lnt w X5 g c P → Lnt w (X5.setRow (w.heap.size + 1) (mcc p (lnM g1 c1 g2 c2 g3 c3 g4 c4 g5 c5))) g c P := fun h => ⟨h.1, h.2.1, own_kept h.2.2 (kr _) (fun q hq hm => by simp [Value.ownBlock] at hq hm; have := h.1; omega)⟩
  exact ⟨(unhide H5).kept.setRow (Or.inr (by omega)) _, g1, c1, g2, c2, g3, c3, g4, c4, g5, c5, rfl, ⟨kn (unhide HN1), kn (unhide HN2), kn (unhide HN3), kn (unhide HN4), kn (unhide HN5)⟩, unhide HLT⟩
/-- The five lists, as lists gives them. -/
def sls (p : Ml) (l : Lm) : List Value := [.slice l.ca p.copy.length l.cc, .slice l.ka p.key.length l.kc, .slice l.va p.val.length l.vc, .slice l.xa p.akey.length l.xc, .slice l.ya p.aval.length l.yc]
set_option maxRecDepth 100000 in
set_option maxHeartbeats 1600000 in
theorem lists_any (w : World) (p : Ml) (l : Lm) : Calls Tryd.prog 34 #[.agg (mcc p l)] w fun e w' => ∃ b, e = .returned (.slice (some ⟨b, 0, none⟩) 5 5) ∧ Blk w' b (sls p l).toArray 23 ∧ w.heap.size ≤ b ∧ Kept [] w w' := by
  go_enter Tryd.func34, Tryd.ntmps34
  go_upto_region 1 with fail
  refine world_at (R := fun X => Blk X w.heap.size (mcc p l) 30 ∧ Kept [] w X) ⟨Blk.new _ _ _, (Kept.refl [] w).alloc _⟩ ?_
  rintro X ⟨hb, hk⟩
  obtain ⟨d0, d1, d2, d3, d4, d5, d6, d7, d8, d9, d10, d11, d12, d13, d14, d15, d16, d17, d18, d19⟩ := box20 hb
  have HK := hide hk
  have hs := hk.size
  clear hb hk
  go_wp2_with fail
  go_ret
  exact ⟨X.heap.size, rfl, Blk.new _ _ _, hs, (unhide HK).alloc _⟩
end Go.Proofs.YtfhfkpgfnlmfhaaDoor

/- MailEncodes: keptMail. -/
namespace Go.Proofs.YtfhfkpgfnlmfhaaDoor
open Go.RowKit

set_option maxRecDepth 100000 in
set_option maxHeartbeats 6400000 in
theorem keptMail_any {w0 w : World} {p : Ml} {l : Lm} {g1 c1 g2 c2 g3 c3 g4 c4 g5 c5 : Nat} (hm : MW w p l) (hl : ∀ o, isT o → (getT p o).length ≤ 140737488355326) (a1 : Lnt w0 w g1 c1 p.copy) (a2 : Lnt w0 w g2 c2 p.key) (a3 : Lnt w0 w g3 c3 p.val) (a4 : Lnt w0 w g4 c4 p.akey) (a5 : Lnt w0 w g5 c5 p.aval) : Calls Tryd.prog 13 #[.agg (mcc p (lnM g1 c1 g2 c2 g3 c3 g4 c4 g5 c5)), .agg (mcc p l)] w fun e w' => e = .returned (.bool true) ∧ Kept [] w w' := by
  have HK1 := hide (fun W (k : Kept [] w W) => kept_at (a1.kept k) (hl 6 (by simp [isT])) ((hm.wide 6 (by simp [isT])).kept k))
  have HK2 := hide (fun W (k : Kept [] w W) => kept_at (a2.kept k) (hl 10 (by simp [isT])) ((hm.wide 10 (by simp [isT])).kept k))
  have HK3 := hide (fun W (k : Kept [] w W) => kept_at (a3.kept k) (hl 11 (by simp [isT])) ((hm.wide 11 (by simp [isT])).kept k))
  have HK4 := hide (fun W (k : Kept [] w W) => kept_at (a4.kept k) (hl 15 (by simp [isT])) ((hm.wide 15 (by simp [isT])).kept k))
  have HK5 := hide (fun W (k : Kept [] w W) => kept_at (a5.kept k) (hl 16 (by simp [isT])) ((hm.wide 16 (by simp [isT])).kept k))
  clear a1 a2 a3 a4 a5 hm hl
  have HLA := hide (fun W => lists_any W p (lnM g1 c1 g2 c2 g3 c3 g4 c4 g5 c5))
  have HLB := hide (fun W => lists_any W p l)
  go_enter Tryd.func13, Tryd.ntmps13
  go_upto_region 1 with fail
  refine world_at (R := fun X => Blk X w.heap.size (mcc p (lnM g1 c1 g2 c2 g3 c3 g4 c4 g5 c5)) 30 ∧ Blk X (w.heap.size + 1) (mcc p l) 30 ∧ Kept [] w X) ⟨(Blk.new _ _ _).alloc _, new1 _ _ _ _, ((Kept.refl [] w).alloc _).alloc _⟩ ?_
  rintro X ⟨hx1, hx2, hk⟩
  have HBP := hide (fun W (k : Kept [] X W) => hx1.kept k (by simp))
  have HBQ := hide (fun W (k : Kept [] X W) => hx2.kept k (by simp))
  have HXK := hide hk
  clear hx1 hx2 hk
  go_cut [5, 6] (fun s t wc => ∃ b1 b2, s = .slice (some ⟨b1, 0, none⟩) 5 5 ∧ t = .slice (some ⟨b2, 0, none⟩) 5 5 ∧ Hid (Blk wc b1 (sls p (lnM g1 c1 g2 c2 g3 c3 g4 c4 g5 c5)).toArray 23 ∧ Blk wc b2 (sls p l).toArray 23 ∧ Kept [] w wc))
  case first =>
    refine wp_region_any (by kernel_rfl) ?_
    (try (change wpAny _ _ _ _ _ _ _ (World.drew _)))
    refine world_at (R := fun Y => Kept [] X Y) ((Kept.refl [] X).drew) ?_
    rintro Y hY
    have KK0 := hide hY
    clear hY
    refine wpAny_ready (rs := [0, 2]) (by kernel_rfl) (by simp) ?_
    refine AllReady.cons rfl (fun K hK => ?_) (AllReady.cons rfl (fun K hK => ?_) AllReady.nil)
    · refine step_load_row rfl 30 _ rfl _ rfl 30 _ (0, 0) _ (unhide HBP _ (unhide KK0)) Tryd.underlying30 rfl infoMail ?_
      refine hK _ _ ?_; clear hK K
      simp only [List.getElem_toArray, List.getElem_cons_zero, Act.put, List.setIfInBounds_toArray, List.set_cons_succ, List.set_cons_zero]
      refine wpAny_ready (rs := [1, 2]) (by kernel_rfl) (by simp) ?_
      refine AllReady.cons rfl (fun K hK => ?_) (AllReady.cons rfl (fun K hK => ?_) AllReady.nil)
      · go_simp
        go_wp2_with (first | (go_at_call 34; refine (unhide HLA _).mono ?_; rintro e y1 ⟨b1, rfl, hb, -, k1⟩; have HR1 := hide hb; have KK1 := hide ((unhide KK0).step k1); clear k1 hb))
        (try (refine hK _ _ ?_; clear hK K))
        refine wpAny_ready (rs := [2]) (by kernel_rfl) (by simp) ?_
        refine AllReady.cons rfl (fun K hK => ?_) AllReady.nil
        refine step_load_row rfl 30 _ rfl _ rfl 30 _ (0, 0) _ (unhide HBQ _ (unhide KK1)) Tryd.underlying30 rfl infoMail ?_
        refine hK _ _ ?_; clear hK K
        simp only [List.getElem_toArray, List.getElem_cons_succ, List.getElem_cons_zero, Act.put, List.setIfInBounds_toArray, List.set_cons_succ, List.set_cons_zero]
        refine wpAny_ready (rs := [3]) (by kernel_rfl) (by simp) ?_
        refine AllReady.cons rfl (fun K hK => ?_) AllReady.nil
        go_simp
        go_wp2_with (first | (go_at_call 34; refine (unhide HLB _).mono ?_; rintro e y2 ⟨b2, rfl, hb, -, k2⟩; have HR2 := hide hb; have q := (unhide HR1).kept k2 (by simp); clear HR1; have HR1 := hide q; clear q; have KK2 := hide ((unhide KK1).step k2); clear k2 hb))
        (try (refine hK _ _ ?_; clear hK K))
        refine wpAny_take (i := 4) (v := ?_) rfl (by kernel_rfl) (by kernel_rfl) (by kernel_rfl) (fun _ _ _ h => h) (Or.inl ⟨by rfl, ?_⟩) ?_
        rotate_left 1
        · intro w; (go_simp <;> with_reducible rfl)
        simp only [List.getElem_toArray, List.getElem_cons_succ, List.getElem_cons_zero, Act.put, List.setIfInBounds_toArray, List.set_cons_succ, List.set_cons_zero]
        refine wpAny_take (i := 5) (v := ?_) rfl (by kernel_rfl) (by kernel_rfl) (by kernel_rfl) (fun _ _ _ h => h) (Or.inl ⟨by rfl, ?_⟩) ?_
        rotate_left 1
        · intro w; (go_simp <;> with_reducible rfl)
        simp only [List.getElem_toArray, List.getElem_cons_succ, List.getElem_cons_zero, Act.put, List.setIfInBounds_toArray, List.set_cons_succ, List.set_cons_zero]
        refine wpAny_done (by kernel_rfl) ?_ _
        go_wp2_with fail
        go_meet
        exact ⟨_, _, rfl, rfl, hide ⟨unhide HR1, unhide HR2, (unhide HXK).step (unhide KK2)⟩⟩
      · refine step_load_row rfl 30 _ rfl _ rfl 30 _ (0, 0) _ (unhide HBQ _ (unhide KK0)) Tryd.underlying30 rfl infoMail ?_
        refine hK _ _ ?_; clear hK K
        simp only [List.getElem_toArray, List.getElem_cons_succ, List.getElem_cons_zero, Act.put, List.setIfInBounds_toArray, List.set_cons_succ, List.set_cons_zero]
        refine wpAny_ready (rs := [1]) (by kernel_rfl) (by simp) ?_
        refine AllReady.cons rfl (fun K hK => ?_) AllReady.nil
        go_simp
        go_wp2_with (first | (go_at_call 34; refine (unhide HLA _).mono ?_; rintro e y1 ⟨b1, rfl, hb, -, k1⟩; have HR1 := hide hb; have KK1 := hide ((unhide KK0).step k1); clear k1 hb))
        (try (refine hK _ _ ?_; clear hK K))
        refine wpAny_ready (rs := [3]) (by kernel_rfl) (by simp) ?_
        refine AllReady.cons rfl (fun K hK => ?_) AllReady.nil
        go_simp
        go_wp2_with (first | (go_at_call 34; refine (unhide HLB _).mono ?_; rintro e y2 ⟨b2, rfl, hb, -, k2⟩; have HR2 := hide hb; have q := (unhide HR1).kept k2 (by simp); clear HR1; have HR1 := hide q; clear q; have KK2 := hide ((unhide KK1).step k2); clear k2 hb))
        (try (refine hK _ _ ?_; clear hK K))
        refine wpAny_take (i := 4) (v := ?_) rfl (by kernel_rfl) (by kernel_rfl) (by kernel_rfl) (fun _ _ _ h => h) (Or.inl ⟨by rfl, ?_⟩) ?_
        rotate_left 1
        · intro w; (go_simp <;> with_reducible rfl)
        simp only [List.getElem_toArray, List.getElem_cons_succ, List.getElem_cons_zero, Act.put, List.setIfInBounds_toArray, List.set_cons_succ, List.set_cons_zero]
        refine wpAny_take (i := 5) (v := ?_) rfl (by kernel_rfl) (by kernel_rfl) (by kernel_rfl) (fun _ _ _ h => h) (Or.inl ⟨by rfl, ?_⟩) ?_
        rotate_left 1
        · intro w; (go_simp <;> with_reducible rfl)
        simp only [List.getElem_toArray, List.getElem_cons_succ, List.getElem_cons_zero, Act.put, List.setIfInBounds_toArray, List.set_cons_succ, List.set_cons_zero]
        refine wpAny_done (by kernel_rfl) ?_ _
        go_wp2_with fail
        go_meet
        exact ⟨_, _, rfl, rfl, hide ⟨unhide HR1, unhide HR2, (unhide HXK).step (unhide KK2)⟩⟩
    · refine step_load_row rfl 30 _ rfl _ rfl 30 _ (0, 0) _ (unhide HBQ _ (unhide KK0)) Tryd.underlying30 rfl infoMail ?_
      refine hK _ _ ?_; clear hK K
      simp only [List.getElem_toArray, List.getElem_cons_succ, List.getElem_cons_zero, Act.put, List.setIfInBounds_toArray, List.set_cons_succ, List.set_cons_zero]
      refine wpAny_ready (rs := [0]) (by kernel_rfl) (by simp) ?_
      refine AllReady.cons rfl (fun K hK => ?_) AllReady.nil
      refine step_load_row rfl 30 _ rfl _ rfl 30 _ (0, 0) _ (unhide HBP _ (unhide KK0)) Tryd.underlying30 rfl infoMail ?_
      refine hK _ _ ?_; clear hK K
      simp only [List.getElem_toArray, List.getElem_cons_zero, Act.put, List.setIfInBounds_toArray, List.set_cons_succ, List.set_cons_zero]
      refine wpAny_ready (rs := [1]) (by kernel_rfl) (by simp) ?_
      refine AllReady.cons rfl (fun K hK => ?_) AllReady.nil
      go_simp
      go_wp2_with (first | (go_at_call 34; refine (unhide HLA _).mono ?_; rintro e y1 ⟨b1, rfl, hb, -, k1⟩; have HR1 := hide hb; have KK1 := hide ((unhide KK0).step k1); clear k1 hb))
      (try (refine hK _ _ ?_; clear hK K))
      refine wpAny_ready (rs := [3]) (by kernel_rfl) (by simp) ?_
      refine AllReady.cons rfl (fun K hK => ?_) AllReady.nil
      go_simp
      go_wp2_with (first | (go_at_call 34; refine (unhide HLB _).mono ?_; rintro e y2 ⟨b2, rfl, hb, -, k2⟩; have HR2 := hide hb; have q := (unhide HR1).kept k2 (by simp); clear HR1; have HR1 := hide q; clear q; have KK2 := hide ((unhide KK1).step k2); clear k2 hb))
      (try (refine hK _ _ ?_; clear hK K))
      refine wpAny_take (i := 4) (v := ?_) rfl (by kernel_rfl) (by kernel_rfl) (by kernel_rfl) (fun _ _ _ h => h) (Or.inl ⟨by rfl, ?_⟩) ?_
      rotate_left 1
      · intro w; (go_simp <;> with_reducible rfl)
      simp only [List.getElem_toArray, List.getElem_cons_succ, List.getElem_cons_zero, Act.put, List.setIfInBounds_toArray, List.set_cons_succ, List.set_cons_zero]
      refine wpAny_take (i := 5) (v := ?_) rfl (by kernel_rfl) (by kernel_rfl) (by kernel_rfl) (fun _ _ _ h => h) (Or.inl ⟨by rfl, ?_⟩) ?_
      rotate_left 1
      · intro w; (go_simp <;> with_reducible rfl)
      simp only [List.getElem_toArray, List.getElem_cons_succ, List.getElem_cons_zero, Act.put, List.setIfInBounds_toArray, List.set_cons_succ, List.set_cons_zero]
      refine wpAny_done (by kernel_rfl) ?_ _
      go_wp2_with fail
      go_meet
      exact ⟨_, _, rfl, rfl, hide ⟨unhide HR1, unhide HR2, (unhide HXK).step (unhide KK2)⟩⟩
  case rest =>
    obtain ⟨b1, b2, rfl, rfl, H1⟩ := hcut
    clear HBP HBQ HXK HLA HLB
    go_wp2_with fail
    go_loopw [7] (fun s wr => ∃ k : Nat, k ≤ 5 ∧ s = .int .i64 k ∧ Hid (Blk wr b1 (sls p (lnM g1 c1 g2 c2 g3 c3 g4 c4 g5 c5)).toArray 23 ∧ Blk wr b2 (sls p l).toArray 23 ∧ Kept [] w wr)) (fun s _ => 5 - (intOf s).toNat)
    case atStart => exact ⟨0, by omega, rfl, hide (unhide H1)⟩
    case round =>
      obtain ⟨k, hk, rfl, HI⟩ := hrel
      clear H1
      by_cases hlt : k < 5
      · obtain rfl | rfl | rfl | rfl | rfl : k = 0 ∨ k = 1 ∨ k = 2 ∨ k = 3 ∨ k = 4 := by omega
        · have d1 : wr.cell? ⟨b1, 0, none⟩ = some (.slice (some ⟨g1, 0, none⟩) p.copy.length c1) := (unhide HI).1.cell 0
          have d2 : wr.cell? ⟨b2, 0, none⟩ = some (.slice l.ca p.copy.length l.cc) := (unhide HI).2.1.cell 0
          have HKR : Hid (∀ W, Kept [] wr W → Calls Tryd.prog 35 #[.slice (some ⟨g1, 0, none⟩) p.copy.length c1, .slice l.ca p.copy.length l.cc] W fun e w' => e = .returned (.bool true) ∧ w'.cell? ⟨b1, 0, none⟩ = some (.slice (some ⟨g1, 0, none⟩) p.copy.length c1) ∧ w'.cell? ⟨b2, 0, none⟩ = some (.slice l.ca p.copy.length l.cc) ∧ Kept [] wr w') := hide (fun W kw => (unhide HK1 W ((unhide HI).2.2.step kw)).mono (by rintro e w' ⟨rfl, k⟩; exact ⟨rfl, ((unhide HI).1.kept (kw.step k) (by simp)).cell 0, ((unhide HI).2.1.kept (kw.step k) (by simp)).cell 0, kw.step k⟩))
          go_wp2_with fail
          go_region_held3 (fun W => W.cell? ⟨b1, 0, none⟩ = some (.slice (some ⟨g1, 0, none⟩) p.copy.length c1) ∧ W.cell? ⟨b2, 0, none⟩ = some (.slice l.ca p.copy.length l.cc)) (go_keep) (first
            | (go_at_call 35; refine (unhide HKR _ (by first | exact Kept.refl _ _ | exact (Kept.refl _ _).drew | exact (Kept.refl _ _).drewN _)).mono ?_; rintro e w6 ⟨rfl, x3, x4, k6⟩; have HK6 := hide k6; clear k6))
          all_goals
            go_wp2_with fail
            go_roundw
            case rel => exact ⟨1, by omega, by go_num, hide ⟨(unhide HI).1.kept (unhide HK6) (by simp), (unhide HI).2.1.kept (unhide HK6) (by simp), (unhide HI).2.2.step (unhide HK6)⟩⟩
            case measure => simp [intOf]
        · have d1 : wr.cell? ⟨b1, 1, none⟩ = some (.slice (some ⟨g2, 0, none⟩) p.key.length c2) := (unhide HI).1.cell 1
          have d2 : wr.cell? ⟨b2, 1, none⟩ = some (.slice l.ka p.key.length l.kc) := (unhide HI).2.1.cell 1
          have HKR : Hid (∀ W, Kept [] wr W → Calls Tryd.prog 35 #[.slice (some ⟨g2, 0, none⟩) p.key.length c2, .slice l.ka p.key.length l.kc] W fun e w' => e = .returned (.bool true) ∧ w'.cell? ⟨b1, 1, none⟩ = some (.slice (some ⟨g2, 0, none⟩) p.key.length c2) ∧ w'.cell? ⟨b2, 1, none⟩ = some (.slice l.ka p.key.length l.kc) ∧ Kept [] wr w') := hide (fun W kw => (unhide HK2 W ((unhide HI).2.2.step kw)).mono (by rintro e w' ⟨rfl, k⟩; exact ⟨rfl, ((unhide HI).1.kept (kw.step k) (by simp)).cell 1, ((unhide HI).2.1.kept (kw.step k) (by simp)).cell 1, kw.step k⟩))
          go_wp2_with fail
          go_region_held3 (fun W => W.cell? ⟨b1, 1, none⟩ = some (.slice (some ⟨g2, 0, none⟩) p.key.length c2) ∧ W.cell? ⟨b2, 1, none⟩ = some (.slice l.ka p.key.length l.kc)) (go_keep) (first
            | (go_at_call 35; refine (unhide HKR _ (by first | exact Kept.refl _ _ | exact (Kept.refl _ _).drew | exact (Kept.refl _ _).drewN _)).mono ?_; rintro e w6 ⟨rfl, x3, x4, k6⟩; have HK6 := hide k6; clear k6))
          all_goals
            go_wp2_with fail
            go_roundw
            case rel => exact ⟨2, by omega, by go_num, hide ⟨(unhide HI).1.kept (unhide HK6) (by simp), (unhide HI).2.1.kept (unhide HK6) (by simp), (unhide HI).2.2.step (unhide HK6)⟩⟩
            case measure => simp [intOf]
        · have d1 : wr.cell? ⟨b1, 2, none⟩ = some (.slice (some ⟨g3, 0, none⟩) p.val.length c3) := (unhide HI).1.cell 2
          have d2 : wr.cell? ⟨b2, 2, none⟩ = some (.slice l.va p.val.length l.vc) := (unhide HI).2.1.cell 2
          have HKR : Hid (∀ W, Kept [] wr W → Calls Tryd.prog 35 #[.slice (some ⟨g3, 0, none⟩) p.val.length c3, .slice l.va p.val.length l.vc] W fun e w' => e = .returned (.bool true) ∧ w'.cell? ⟨b1, 2, none⟩ = some (.slice (some ⟨g3, 0, none⟩) p.val.length c3) ∧ w'.cell? ⟨b2, 2, none⟩ = some (.slice l.va p.val.length l.vc) ∧ Kept [] wr w') := hide (fun W kw => (unhide HK3 W ((unhide HI).2.2.step kw)).mono (by rintro e w' ⟨rfl, k⟩; exact ⟨rfl, ((unhide HI).1.kept (kw.step k) (by simp)).cell 2, ((unhide HI).2.1.kept (kw.step k) (by simp)).cell 2, kw.step k⟩))
          go_wp2_with fail
          go_region_held3 (fun W => W.cell? ⟨b1, 2, none⟩ = some (.slice (some ⟨g3, 0, none⟩) p.val.length c3) ∧ W.cell? ⟨b2, 2, none⟩ = some (.slice l.va p.val.length l.vc)) (go_keep) (first
            | (go_at_call 35; refine (unhide HKR _ (by first | exact Kept.refl _ _ | exact (Kept.refl _ _).drew | exact (Kept.refl _ _).drewN _)).mono ?_; rintro e w6 ⟨rfl, x3, x4, k6⟩; have HK6 := hide k6; clear k6))
          all_goals
            go_wp2_with fail
            go_roundw
            case rel => exact ⟨3, by omega, by go_num, hide ⟨(unhide HI).1.kept (unhide HK6) (by simp), (unhide HI).2.1.kept (unhide HK6) (by simp), (unhide HI).2.2.step (unhide HK6)⟩⟩
            case measure => simp [intOf]
        · have d1 : wr.cell? ⟨b1, 3, none⟩ = some (.slice (some ⟨g4, 0, none⟩) p.akey.length c4) := (unhide HI).1.cell 3
          have d2 : wr.cell? ⟨b2, 3, none⟩ = some (.slice l.xa p.akey.length l.xc) := (unhide HI).2.1.cell 3
          have HKR : Hid (∀ W, Kept [] wr W → Calls Tryd.prog 35 #[.slice (some ⟨g4, 0, none⟩) p.akey.length c4, .slice l.xa p.akey.length l.xc] W fun e w' => e = .returned (.bool true) ∧ w'.cell? ⟨b1, 3, none⟩ = some (.slice (some ⟨g4, 0, none⟩) p.akey.length c4) ∧ w'.cell? ⟨b2, 3, none⟩ = some (.slice l.xa p.akey.length l.xc) ∧ Kept [] wr w') := hide (fun W kw => (unhide HK4 W ((unhide HI).2.2.step kw)).mono (by rintro e w' ⟨rfl, k⟩; exact ⟨rfl, ((unhide HI).1.kept (kw.step k) (by simp)).cell 3, ((unhide HI).2.1.kept (kw.step k) (by simp)).cell 3, kw.step k⟩))
          go_wp2_with fail
          go_region_held3 (fun W => W.cell? ⟨b1, 3, none⟩ = some (.slice (some ⟨g4, 0, none⟩) p.akey.length c4) ∧ W.cell? ⟨b2, 3, none⟩ = some (.slice l.xa p.akey.length l.xc)) (go_keep) (first
            | (go_at_call 35; refine (unhide HKR _ (by first | exact Kept.refl _ _ | exact (Kept.refl _ _).drew | exact (Kept.refl _ _).drewN _)).mono ?_; rintro e w6 ⟨rfl, x3, x4, k6⟩; have HK6 := hide k6; clear k6))
          all_goals
            go_wp2_with fail
            go_roundw
            case rel => exact ⟨4, by omega, by go_num, hide ⟨(unhide HI).1.kept (unhide HK6) (by simp), (unhide HI).2.1.kept (unhide HK6) (by simp), (unhide HI).2.2.step (unhide HK6)⟩⟩
            case measure => simp [intOf]
        · have d1 : wr.cell? ⟨b1, 4, none⟩ = some (.slice (some ⟨g5, 0, none⟩) p.aval.length c5) := (unhide HI).1.cell 4
          have d2 : wr.cell? ⟨b2, 4, none⟩ = some (.slice l.ya p.aval.length l.yc) := (unhide HI).2.1.cell 4
          have HKR : Hid (∀ W, Kept [] wr W → Calls Tryd.prog 35 #[.slice (some ⟨g5, 0, none⟩) p.aval.length c5, .slice l.ya p.aval.length l.yc] W fun e w' => e = .returned (.bool true) ∧ w'.cell? ⟨b1, 4, none⟩ = some (.slice (some ⟨g5, 0, none⟩) p.aval.length c5) ∧ w'.cell? ⟨b2, 4, none⟩ = some (.slice l.ya p.aval.length l.yc) ∧ Kept [] wr w') := hide (fun W kw => (unhide HK5 W ((unhide HI).2.2.step kw)).mono (by rintro e w' ⟨rfl, k⟩; exact ⟨rfl, ((unhide HI).1.kept (kw.step k) (by simp)).cell 4, ((unhide HI).2.1.kept (kw.step k) (by simp)).cell 4, kw.step k⟩))
          go_wp2_with fail
          go_region_held3 (fun W => W.cell? ⟨b1, 4, none⟩ = some (.slice (some ⟨g5, 0, none⟩) p.aval.length c5) ∧ W.cell? ⟨b2, 4, none⟩ = some (.slice l.ya p.aval.length l.yc)) (go_keep) (first
            | (go_at_call 35; refine (unhide HKR _ (by first | exact Kept.refl _ _ | exact (Kept.refl _ _).drew | exact (Kept.refl _ _).drewN _)).mono ?_; rintro e w6 ⟨rfl, x3, x4, k6⟩; have HK6 := hide k6; clear k6))
          all_goals
            go_wp2_with fail
            go_roundw
            case rel => exact ⟨5, by omega, by go_num, hide ⟨(unhide HI).1.kept (unhide HK6) (by simp), (unhide HI).2.1.kept (unhide HK6) (by simp), (unhide HI).2.2.step (unhide HK6)⟩⟩
            case measure => simp [intOf]
      · obtain rfl : k = 5 := by omega
        go_wp2_with fail
        all_goals
          go_ret
          exact ⟨rfl, (unhide HI).2.2⟩
end Go.Proofs.YtfhfkpgfnlmfhaaDoor

/- MailEncodes: the walk, out of Sound as a premise. -/
namespace Go.Proofs.YtfhfkpgfnlmfhaaDoor
open Go.RowKit
set_option linter.unusedSimpArgs false
set_option linter.unusedVariables false

theorem MW.lnt {w0 w : World} {p : Ml} {l : Lm} {g1 c1 g2 c2 g3 c3 g4 c4 g5 c5 : Nat} (hm : MW w p l) (a1 : Lnt w0 w g1 c1 p.copy) (a2 : Lnt w0 w g2 c2 p.key) (a3 : Lnt w0 w g3 c3 p.val) (a4 : Lnt w0 w g4 c4 p.akey) (a5 : Lnt w0 w g5 c5 p.aval) : MW w p (lnM g1 c1 g2 c2 g3 c3 g4 c4 g5 c5) := by
  refine ⟨fun o ho => ?_, hm.len, hm.byt, hm.root⟩
  rcases ho with rfl | rfl | rfl | rfl | rfl
  · exact a1.wide
  · exact a2.wide
  · exact a3.wide
  · exact a4.wide
  · exact a5.wide
/-- A world in which the message's box lies. -/
structure EW (w : World) (p : Ml) (l : Lm) (X : World) : Prop where
  blk : Blk X w.heap.size (mcc p l) 30
  kept : Kept [] w X
theorem EW.go {w : World} {p : Ml} {l : Lm} {X Y : World} (h : EW w p l X) (k : Kept [] X Y) : EW w p l Y := ⟨h.blk.kept k (by simp), h.kept.step k⟩
set_option maxRecDepth 100000 in
set_option maxHeartbeats 6400000 in
theorem encodes_walk {w : World} {p : Ml} {l : Lm} (hm : MW w p l) (ht : Tab w) (hl : ∀ o, isT o → (getT p o).length ≤ 140737488355326) (hso : ∀ W, Calls Tryd.prog 9 #[.agg (mcc p l)] W fun e w' => e = .returned (.bool (snd p)) ∧ Kept [] W w') : Calls Tryd.prog 3 #[.agg (mcc p l)] w fun e w' => e = .returned (.bool true) ∧ Kept [] w w' := by
  have HM := hide hm
  have HT := hide ht
  have HL := hide hl
  have HSO := hide hso
  cases hs : snd p
  · have HSN := hide hs
    have HRE : Hid (∀ W, Kept [] w W → Calls Tryd.prog 8 #[.agg (mcc p l)] W fun e w' => e = .returned (.tuple #[.slice none 0 0, .int .i64 190]) ∧ Kept [] W w') := hide (fun W k => (rencode_of (hm.kept k) hso).mono (by
      rintro e w' ⟨hk, ⟨h, _⟩ | ⟨_, rfl⟩⟩
      · rw [hs] at h; cases h
      · exact ⟨rfl, hk⟩))
    rw [hs] at hso
    have HSO := hide hso
    have HWN : Hid (∀ W : World, Wide W (.slice none 0 0) []) := hide (fun W => (MW.nil W (p := zeroM) (by intro o ho; rcases ho with rfl | rfl | rfl | rfl | rfl <;> rfl) (by decide)).wide 6 (by simp [isT]))
    clear hso hs hm ht hl
    go_enter Tryd.func3, Tryd.ntmps3
    go_upto_region 1 with fail
    refine world_at (R := fun X => EW w p l X) ⟨Blk.new _ _ _, (Kept.refl [] w).alloc _⟩ ?_
    rintro X hx
    have H0 := hide hx
    clear hx
    go_upto_region 2 with (first
      | (refine wpList_load_guard 30 _ rfl _ rfl 30 _ (0, 0) _ (unhide H0).blk Tryd.underlying30 rfl infoMail rfl ?_)
      | (go_at_call 8; refine (unhide HRE _ (unhide H0).kept).mono ?_; rintro e w1 ⟨rfl, k1⟩; have H1 := hide ((unhide H0).go k1); clear k1 H0 HRE))
    go_upto_region 3 with (first
      | (refine wpList_load_guard 30 _ rfl _ rfl 30 _ (0, 0) _ (unhide H1).blk Tryd.underlying30 rfl infoMail rfl ?_)
      | (go_at_call 9; refine (unhide HSO _).mono ?_; rintro e w2 ⟨rfl, k2⟩; have H2 := hide ((unhide H1).go k2); clear k2 H1 HSO))
    go_upto_region 4 with (first
      | (refine wpList_load_guard 30 _ rfl _ rfl 30 _ (0, 0) _ (unhide H2).blk Tryd.underlying30 rfl infoMail rfl ?_)
      | (go_at_call 10; refine (lentMail_any ((unhide HM).kept (unhide H2).kept) (unhide HL)).mono ?_; rintro e w3 ⟨k3, g1, c1, g2, c2, g3, c3, g4, c4, g5, c5, rfl, ⟨n1, n2, n3, n4, n5⟩, -⟩; have HN := hide (And.intro n1 (And.intro n2 (And.intro n3 (And.intro n4 n5)))); have H3 := hide ((unhide H2).go k3); clear n1 n2 n3 n4 n5 k3 H2)
      | (refine wpList_store_row rfl 30 _ _ rfl _ (mcc p (lnM g1 c1 g2 c2 g3 c3 g4 c4 g5 c5)) rfl rfl 30 _ (Blk.new w3 _ _) infoMail rfl (by simp [mcc, Value.oneCell']) ?_; refine world_at (R := fun X => Blk X w3.heap.size (mcc p (lnM g1 c1 g2 c2 g3 c3 g4 c4 g5 c5)) 30 ∧ Kept [] w3 X) ⟨setRow_heap _ _ _ _ _ _ (Blk.new w3 _ _), ((Kept.refl [] w3).alloc _).setRow (Or.inr (Nat.le_refl _)) _⟩ ?_; rintro Y ⟨hby, hky⟩))
    have HB4 := hide hby
    have H4 := hide ((unhide H3).go hky)
    have HN4 := hide (And.intro ((unhide HN).1.kept hky) (And.intro ((unhide HN).2.1.kept hky) (And.intro ((unhide HN).2.2.1.kept hky) (And.intro ((unhide HN).2.2.2.1.kept hky) ((unhide HN).2.2.2.2.kept hky)))))
    clear hby hky HN H3
    have HMY := hide (((unhide HM).kept (unhide H4).kept).lnt (unhide HN4).1 (unhide HN4).2.1 (unhide HN4).2.2.1 (unhide HN4).2.2.2.1 (unhide HN4).2.2.2.2)
    go_upto_region 5 with (first
      | (refine wpList_load_guard 30 _ rfl _ rfl 30 _ (0, 0) _ (unhide HB4) Tryd.underlying30 rfl infoMail rfl ?_)
      | (go_at_call 11; refine (enc_bad ((unhide HT).kept (unhide H4).kept (by simp)) (unhide HMY) (unhide HSN)).mono ?_; rintro e w5 ⟨rfl, k5⟩; have H5 := hide ((unhide H4).go k5); have HB5 := hide ((unhide HB4).kept k5 (by simp)); have HK5 := hide k5; clear k5 H4 HB4))
    go_upto_region 6 with (first
      | (refine wpList_load_guard 30 _ rfl _ rfl 30 _ (0, 0) _ (unhide HB5) Tryd.underlying30 rfl infoMail rfl ?_)
      | (go_at_call 12; refine sound_is.mono ?_; rintro e w6 ⟨rfl, k6⟩; rw [unhide HSN]; have H6 := hide ((unhide H5).go k6); have HB6 := hide ((unhide HB5).kept k6 (by simp)); have HK6 := hide ((unhide HK5).step k6); clear k6 H5 HB5 HK5))
    go_wp2_with (first
      | (refine wpList_load_guard 30 _ rfl _ rfl 30 _ (0, 0) _ (unhide HB6) Tryd.underlying30 rfl infoMail rfl ?_)
      | (refine wpList_load_guard 30 _ rfl _ rfl 30 _ (0, 0) _ (unhide H6).blk Tryd.underlying30 rfl infoMail rfl ?_)
      | (go_at_call 13; refine (keptMail_any ((unhide HM).kept (unhide H6).kept) (unhide HL) ((unhide HN4).1.kept (unhide HK6)) ((unhide HN4).2.1.kept (unhide HK6)) ((unhide HN4).2.2.1.kept (unhide HK6)) ((unhide HN4).2.2.2.1.kept (unhide HK6)) ((unhide HN4).2.2.2.2.kept (unhide HK6))).mono ?_; rintro e w7 ⟨rfl, k7⟩; have H7 := hide ((unhide H6).go k7); clear k7)
      | (go_at_call 14; refine (same_full (unhide HWN _) (unhide HWN _) (by simp)).mono ?_; rintro e w8 ⟨rfl, k8⟩; rw [decide_eq_true (rfl : ([] : List Nat) = [])]; have H8 := hide ((unhide H7).go k8); clear k8))
    all_goals
      go_ret
      exact ⟨rfl, (unhide H8).kept⟩
  · have HSN := hide hs
    have HRE : Hid (∀ W, Kept [] w W → Calls Tryd.prog 8 #[.agg (mcc p l)] W fun e w' => ∃ a cap, e = .returned (.tuple #[.slice a (enc p).length cap, .int .i64 0]) ∧ Sees w' (.slice a (enc p).length cap) (enc p) ∧ Kept [] W w') := hide (fun W k => (rencode_of (hm.kept k) hso).mono (by
      rintro e w' ⟨hk, ⟨_, a, cap, rfl, ho⟩ | ⟨h, _⟩⟩
      · exact ⟨a, cap, rfl, Sees.of_own ho, hk⟩
      · rw [hs] at h; cases h))
    rw [hs] at hso
    have HSO := hide hso
    have HLE : Hid ((enc p).length ≤ 140737488355328) := hide (by have := (snd_len hs).2; rw [enc_len]; omega)
    clear hso hs hm ht hl
    go_enter Tryd.func3, Tryd.ntmps3
    go_upto_region 1 with fail
    refine world_at (R := fun X => EW w p l X) ⟨Blk.new _ _ _, (Kept.refl [] w).alloc _⟩ ?_
    rintro X hx
    have H0 := hide hx
    clear hx
    go_upto_region 2 with (first
      | (refine wpList_load_guard 30 _ rfl _ rfl 30 _ (0, 0) _ (unhide H0).blk Tryd.underlying30 rfl infoMail rfl ?_)
      | (go_at_call 8; refine (unhide HRE _ (unhide H0).kept).mono ?_; rintro e w1 ⟨a1, x1, rfl, hs1, k1⟩; have H1 := hide ((unhide H0).go k1); have HS1 := hide hs1; clear k1 hs1 H0 HRE))
    go_upto_region 3 with (first
      | (refine wpList_load_guard 30 _ rfl _ rfl 30 _ (0, 0) _ (unhide H1).blk Tryd.underlying30 rfl infoMail rfl ?_)
      | (go_at_call 9; refine (unhide HSO _).mono ?_; rintro e w2 ⟨rfl, k2⟩; have H2 := hide ((unhide H1).go k2); have HS2 := hide ((unhide HS1).kept k2 (by simp)); clear k2 H1 HS1 HSO))
    go_upto_region 4 with (first
      | (refine wpList_load_guard 30 _ rfl _ rfl 30 _ (0, 0) _ (unhide H2).blk Tryd.underlying30 rfl infoMail rfl ?_)
      | (go_at_call 10; refine (lentMail_any ((unhide HM).kept (unhide H2).kept) (unhide HL)).mono ?_; rintro e w3 ⟨k3, g1, c1, g2, c2, g3, c3, g4, c4, g5, c5, rfl, ⟨n1, n2, n3, n4, n5⟩, -⟩; have HN := hide (And.intro n1 (And.intro n2 (And.intro n3 (And.intro n4 n5)))); have H3 := hide ((unhide H2).go k3); have HS3 := hide ((unhide HS2).kept k3 (by simp)); clear n1 n2 n3 n4 n5 k3 H2 HS2)
      | (refine wpList_store_row rfl 30 _ _ rfl _ (mcc p (lnM g1 c1 g2 c2 g3 c3 g4 c4 g5 c5)) rfl rfl 30 _ (Blk.new w3 _ _) infoMail rfl (by simp [mcc, Value.oneCell']) ?_; refine world_at (R := fun X => Blk X w3.heap.size (mcc p (lnM g1 c1 g2 c2 g3 c3 g4 c4 g5 c5)) 30 ∧ Kept [] w3 X) ⟨setRow_heap _ _ _ _ _ _ (Blk.new w3 _ _), ((Kept.refl [] w3).alloc _).setRow (Or.inr (Nat.le_refl _)) _⟩ ?_; rintro Y ⟨hby, hky⟩))
    have HB4 := hide hby
    have H4 := hide ((unhide H3).go hky)
    have HS4 := hide ((unhide HS3).kept hky (by simp))
    have HN4 := hide (And.intro ((unhide HN).1.kept hky) (And.intro ((unhide HN).2.1.kept hky) (And.intro ((unhide HN).2.2.1.kept hky) (And.intro ((unhide HN).2.2.2.1.kept hky) ((unhide HN).2.2.2.2.kept hky)))))
    clear hby hky HN H3 HS3
    have HMY := hide (((unhide HM).kept (unhide H4).kept).lnt (unhide HN4).1 (unhide HN4).2.1 (unhide HN4).2.2.1 (unhide HN4).2.2.2.1 (unhide HN4).2.2.2.2)
    go_upto_region 5 with (first
      | (refine wpList_load_guard 30 _ rfl _ rfl 30 _ (0, 0) _ (unhide HB4) Tryd.underlying30 rfl infoMail rfl ?_)
      | (go_at_call 11; refine (enc_good ((unhide HT).kept (unhide H4).kept (by simp)) (unhide HMY) (unhide HSN)).mono ?_; rintro e w5 ⟨a5, x5, rfl, hs5, k5⟩; have HE5 := hide hs5; have H5 := hide ((unhide H4).go k5); have HS5 := hide ((unhide HS4).kept k5 (by simp)); have HB5 := hide ((unhide HB4).kept k5 (by simp)); have HK5 := hide k5; clear hs5 k5 H4 HS4 HB4))
    go_upto_region 6 with (first
      | (refine wpList_load_guard 30 _ rfl _ rfl 30 _ (0, 0) _ (unhide HB5) Tryd.underlying30 rfl infoMail rfl ?_)
      | (go_at_call 12; refine sound_is.mono ?_; rintro e w6 ⟨rfl, k6⟩; rw [unhide HSN]; have HE6 := hide ((unhide HE5).kept k6 (by simp)); have H6 := hide ((unhide H5).go k6); have HS6 := hide ((unhide HS5).kept k6 (by simp)); have HB6 := hide ((unhide HB5).kept k6 (by simp)); have HK6 := hide ((unhide HK5).step k6); clear k6 H5 HE5 HS5 HB5 HK5))
    go_wp2_with (first
      | (refine wpList_load_guard 30 _ rfl _ rfl 30 _ (0, 0) _ (unhide HB6) Tryd.underlying30 rfl infoMail rfl ?_)
      | (refine wpList_load_guard 30 _ rfl _ rfl 30 _ (0, 0) _ (unhide H6).blk Tryd.underlying30 rfl infoMail rfl ?_)
      | (go_at_call 13; refine (keptMail_any ((unhide HM).kept (unhide H6).kept) (unhide HL) ((unhide HN4).1.kept (unhide HK6)) ((unhide HN4).2.1.kept (unhide HK6)) ((unhide HN4).2.2.1.kept (unhide HK6)) ((unhide HN4).2.2.2.1.kept (unhide HK6)) ((unhide HN4).2.2.2.2.kept (unhide HK6))).mono ?_; rintro e w7 ⟨rfl, k7⟩; have HE7 := hide ((unhide HE6).kept k7 (by simp)); have H7 := hide ((unhide H6).go k7); have HS7 := hide ((unhide HS6).kept k7 (by simp)); clear k7)
      | (go_at_call 14; refine (same_full (Or.inl (unhide HS7)) (Or.inl (unhide HE7)) (unhide HLE)).mono ?_; rintro e w8 ⟨rfl, k8⟩; rw [decide_eq_true (rfl : enc p = enc p)]; have H8 := hide ((unhide H7).go k8); clear k8))
    all_goals
      go_ret
      exact ⟨rfl, (unhide H8).kept⟩
end Go.Proofs.YtfhfkpgfnlmfhaaDoor
