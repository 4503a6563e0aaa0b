/- Texts laid one behind the other: FE FF. -/
import Derived.Test.YtocmgfmfalaebaaPkBC
/- Records that are lent. -/
namespace Go.Proofs.Ytocmgfmfalaebaa
open Go.RowKit

/-- Lent bytes, with the two marks behind. -/
def Lnt (w W : World) (g cap : Nat) (P : List Nat) : Prop := P.length + 2 ≤ cap ∧ W.ownsRow (w.heap.size + 2) 5 1 (.slice (some ⟨g, 0, none⟩) (P.length + 2) cap) (P.length + 2) (u8s (P ++ [201, 77]))
theorem Lnt.kept {w W W' : World} {g cap : Nat} {P : List Nat} {F : List Nat} (h : Lnt w W g cap P) (k : Kept F W W') (hF : ∀ x ∈ F, x ≤ w.heap.size + 1) : Lnt w W' g cap P := ⟨h.1, own_kept h.2 k (fun q hq hm => by have h1 := (h.2.lt q hq).1; have h2 := hF q hm; omega)⟩
theorem SB.set7 {w : World} {b : Nat} {p : Pl} {l : Lo} {W : World} (h : SB w b p l W) (hb : w.heap.size ≤ b) (a : Option Addr) (c : Nat) : SB w b p { l with ka := a, kc := c } (W.setCell ⟨b, 7, none⟩ (.slice a p.key.length c)) := ⟨by simpa [rcc] using h.blk.set 7 (.slice a p.key.length c), h.kept.setCell (Or.inr hb) _⟩
theorem SB.set8 {w : World} {b : Nat} {p : Pl} {l : Lo} {W : World} (h : SB w b p l W) (hb : w.heap.size ≤ b) (a : Option Addr) (c : Nat) : SB w b p { l with va := a, vc := c } (W.setCell ⟨b, 8, none⟩ (.slice a p.val.length c)) := ⟨by simpa [rcc] using h.blk.set 8 (.slice a p.val.length c), h.kept.setCell (Or.inr hb) _⟩
theorem SB.set10 {w : World} {b : Nat} {p : Pl} {l : Lo} {W : World} (h : SB w b p l W) (hb : w.heap.size ≤ b) (a : Option Addr) (c : Nat) : SB w b p { l with ca := a, cc := c } (W.setCell ⟨b, 10, none⟩ (.slice a p.copy.length c)) := ⟨by simpa [rcc] using h.blk.set 10 (.slice a p.copy.length c), h.kept.setCell (Or.inr hb) _⟩
theorem Lnt.set {w W : World} {g cap : Nat} {P : List Nat} (h : Lnt w W g cap P) (o : Nat) (v : Value) : Lnt w (W.setCell ⟨w.heap.size, o, none⟩ v) g cap P := h.kept ((Kept.refl [w.heap.size] W).setCell (Or.inl (by simp)) _) (by simp)
/-- Where a lent record's lists lie. -/
def lnL (g1 c1 g2 c2 g3 c3 : Nat) : Lo := { ka := some ⟨g1, 0, none⟩, kc := c1, va := some ⟨g2, 0, none⟩, vc := c2, ca := some ⟨g3, 0, none⟩, cc := c3 }
theorem lent_at {w W : World} {b : Nat} {p : Pl} {l : Lo} (h : SB w b p l W) (h2 : w.heap.size + 2 ≤ W.heap.size) {x : Value} {P : List Nat} (hx : Wide w x P) (hl : P.length ≤ 140737488355326) : Calls Try.prog 18 #[x] W fun e w' => ∃ g cap, e = .returned (.slice (some ⟨g, 0, none⟩) P.length cap) ∧ Lnt w w' g cap P ∧ SB w b p l w' ∧ Kept [] W w' ∧ W.heap.size ≤ g ∧ g < w'.heap.size := by
  refine (lent_any (hx.kept h.kept) hl).mono ?_
  rintro e w' ⟨g, cap, rfl, hc, ho, k⟩
  exact ⟨g, cap, rfl, ⟨hc, own_down ho h2⟩, h.go k, k, (ho.lt g rfl).1, (ho.lt g rfl).2⟩
end Go.Proofs.Ytocmgfmfalaebaa

/- Records that are lent, and looked at again. -/
namespace Go.Proofs.Ytocmgfmfalaebaa
open Go.RowKit

/-- A record being lent: its box, and the box of the result. -/
structure LR (w : World) (p : Pl) (l : Lo) (W : World) : Prop where
  sb : SB w w.heap.size p l W
  res : Blk W (w.heap.size + 1) (rcc zeroP nilL) 26
theorem LR.sz {w : World} {p : Pl} {l : Lo} {W : World} (h : LR w p l W) : w.heap.size + 2 ≤ W.heap.size := by have := h.res.lt; omega
theorem LR.go {w : World} {p : Pl} {l : Lo} {W Y : World} (h : LR w p l W) (k : Kept [] W Y) : LR w p l Y := ⟨h.sb.go k, h.res.kept k (by simp)⟩
theorem kept_set (W : World) (b o : Nat) (v : Value) : Kept [b] W (W.setCell ⟨b, o, none⟩ v) := (Kept.refl [b] W).setCell (Or.inl (by simp)) _
theorem LR.set7 {w : World} {p : Pl} {l : Lo} {W : World} (h : LR w p l W) (a : Option Addr) (c : Nat) : LR w p { l with ka := a, kc := c } (W.setCell ⟨w.heap.size, 7, none⟩ (.slice a p.key.length c)) := ⟨h.sb.set7 (Nat.le_refl _) a c, h.res.kept (kept_set _ _ _ _) (by simp)⟩
theorem LR.set8 {w : World} {p : Pl} {l : Lo} {W : World} (h : LR w p l W) (a : Option Addr) (c : Nat) : LR w p { l with va := a, vc := c } (W.setCell ⟨w.heap.size, 8, none⟩ (.slice a p.val.length c)) := ⟨h.sb.set8 (Nat.le_refl _) a c, h.res.kept (kept_set _ _ _ _) (by simp)⟩
theorem LR.set10 {w : World} {p : Pl} {l : Lo} {W : World} (h : LR w p l W) (a : Option Addr) (c : Nat) : LR w p { l with ca := a, cc := c } (W.setCell ⟨w.heap.size, 10, none⟩ (.slice a p.copy.length c)) := ⟨h.sb.set10 (Nat.le_refl _) a c, h.res.kept (kept_set _ _ _ _) (by simp)⟩
theorem LR.begin (w : World) (p : Pl) (l : Lo) : LR w p l ((w.alloc (.cells (rcc p l) 26)).alloc (.cells (rcc zeroP nilL) 26)) := ⟨⟨(Blk.new _ _ _).alloc _, ((Kept.refl _ _).alloc _).alloc _⟩, new1 _ _ _ _⟩
/-- Three lists lent. -/
structure Ln3 (w W : World) (p : Pl) (m : Lo) : Prop where
  ex : ∃ g1 c1 g2 c2 g3 c3, m = lnL g1 c1 g2 c2 g3 c3 ∧ Lnt w W g1 c1 p.key ∧ Lnt w W g2 c2 p.val ∧ Lnt w W g3 c3 p.copy ∧ g1 < g2 ∧ g2 < g3

set_option maxRecDepth 100000 in
set_option maxHeartbeats 1600000 in
theorem lentRecord_any {w : World} {p : Pl} {l : Lo} (hr : RecW w p l) (q1 : p.key.length ≤ 140737488355326) (q2 : p.val.length ≤ 140737488355326) (q3 : p.copy.length ≤ 140737488355326) : Calls Try.prog 11 #[rv p l] w fun e w' => ∃ m, e = .returned (rv p m) ∧ Ln3 w w' p m ∧ Kept [] w w' := by
  have H0 := hide (LR.begin w p l)
  have HL1 := hide (fun (W : World) (m : Lo) (h : LR w p m W) => lent_at h.sb h.sz hr.key q1)
  have HL2 := hide (fun (W : World) (m : Lo) (h : LR w p m W) => lent_at h.sb h.sz hr.val q2)
  have HL3 := hide (fun (W : World) (m : Lo) (h : LR w p m W) => lent_at h.sb h.sz hr.copy q3)
  clear hr q1 q2 q3
  rw [rv_lit]
  rw [show rcc p l = #[.int .i64 p.kind, .int .i64 p.shard, .int .i64 p.epoch, .int .i64 p.peer, .int .i64 p.client, .int .i64 p.seq, .int .i64 p.okind, .slice l.ka p.key.length l.kc, .slice l.va p.val.length l.vc, .int .i64 p.rev, .slice l.ca p.copy.length l.cc] from rfl, show rcc zeroP nilL = #[.int .i64 0, .int .i64 0, .int .i64 0, .int .i64 0, .int .i64 0, .int .i64 0, .int .i64 0, .slice none 0 0, .slice none 0 0, .int .i64 0, .slice none 0 0] from rfl] at H0
  go_enter Try.func11, Try.ntmps11
  go_wp2_with (first
    | (go_at_call 18; refine (unhide HL1 _ _ (unhide H0)).mono ?_; rintro e w1 ⟨g1, c1, rfl, hn1, -, k1, -, hi1⟩; clear HL1; have HI1 := hide hi1; clear hi1; have H1 := hide ((unhide H0).go k1); have HN1 := hide hn1; clear k1 hn1 H0; obtain ⟨d0, d1, d2, d3, d4, d5, d6, d7, d8, d9, d10⟩ := box11 (unhide H1).sb.blk; have fz := (unhide H1).sb.blk.frozen 7)
    | (go_at_call 18; have H1' := hide ((unhide H1).set7 (some ⟨g1, 0, none⟩) c1); have HN1' := hide ((unhide HN1).set 7 (.slice (some ⟨g1, 0, none⟩) p.key.length c1)); refine (unhide HL2 _ _ (unhide H1')).mono ?_; rintro e w2 ⟨g2, c2, rfl, hn2, -, k2, lo2, hi2⟩; clear HL2; have HI2 : Hid (g1 < g2 ∧ g2 < w2.heap.size) := (by have h1 := unhide HI1; simp at lo2; exact ⟨by omega, hi2⟩); clear HI1 lo2 hi2; have H2 := hide ((unhide H1').go k2); have HN2 := hide hn2; have HN12 := hide ((unhide HN1').kept k2 (by simp)); clear k2 hn2 H1 H1' HN1 HN1'; obtain ⟨d0, d1, d2, d3, d4, d5, d6, d7, d8, d9, d10⟩ := box11 (unhide H2).sb.blk; have fz := (unhide H2).sb.blk.frozen 8)
    | (go_at_call 18; have H2' := hide ((unhide H2).set8 (some ⟨g2, 0, none⟩) c2); have HN12' := hide ((unhide HN12).set 8 (.slice (some ⟨g2, 0, none⟩) p.val.length c2)); have HN2' := hide ((unhide HN2).set 8 (.slice (some ⟨g2, 0, none⟩) p.val.length c2)); refine (unhide HL3 _ _ (unhide H2')).mono ?_; rintro e w3 ⟨g3, c3, rfl, hn3, -, k3, lo3, -⟩; clear HL3; have HI3 : Hid (g1 < g2 ∧ g2 < g3) := (by have h1 := unhide HI2; simp at lo3; exact ⟨h1.1, by omega⟩); clear HI2 lo3; have H3 := hide ((unhide H2').go k3); have HN3 := hide hn3; have HN13 := hide ((unhide HN12').kept k3 (by simp)); have HN23 := hide ((unhide HN2').kept k3 (by simp)); clear k3 hn3 H2 H2' HN12 HN12' HN2 HN2'; obtain ⟨d0, d1, d2, d3, d4, d5, d6, d7, d8, d9, d10⟩ := box11 (unhide H3).sb.blk; have fz := (unhide H3).sb.blk.frozen 10; obtain ⟨f0, f1, f2, f3, f4, f5, f6, f7, f8, f9, f10⟩ := froz11 (unhide H3).res; obtain ⟨r0, r1, r2, r3, r4, r5, r6, r7, r8, r9, r10⟩ := box11 (unhide H3).res))
  have H4 := hide ((unhide H3).set10 (some ⟨g3, 0, none⟩) c3)
  have A1 := hide ((unhide HN13).set 10 (.slice (some ⟨g3, 0, none⟩) p.copy.length c3))
  have A2 := hide ((unhide HN23).set 10 (.slice (some ⟨g3, 0, none⟩) p.copy.length c3))
  have A3 := hide ((unhide HN3).set 10 (.slice (some ⟨g3, 0, none⟩) p.copy.length c3))
  refine ret_struct (b := w.heap.size + 1) rfl rfl (put11 (unhide H4).res _ _ _ _ _ _ _ _ _ _ _) Try.underlying26 infoRec rfl ?_
  have q := kept11 (w3.setCell ⟨w.heap.size, 10, none⟩ (.slice (some ⟨g3, 0, none⟩) p.copy.length c3)) (w.heap.size + 1) (.int .i64 p.kind) (.int .i64 p.shard) (.int .i64 p.epoch) (.int .i64 p.peer) (.int .i64 p.client) (.int .i64 p.seq) (.int .i64 p.okind) (.slice (some ⟨g1, 0, none⟩) p.key.length c1) (.slice (some ⟨g2, 0, none⟩) p.val.length c2) (.int .i64 p.rev) (.slice (some ⟨g3, 0, none⟩) p.copy.length c3)
  exact ⟨lnL g1 c1 g2 c2 g3 c3, rfl, ⟨g1, c1, g2, c2, g3, c3, rfl, (unhide A1).kept q (by simp), (unhide A2).kept q (by simp), (unhide A3).kept q (by simp), unhide HI3⟩, (unhide H4).sb.kept.trans q (fun x hx => by simp at hx; subst hx; right; omega)⟩

theorem lent_parts {w : World} {base g n cap : Nat} {P : List Nat} (hn : P.length = n) (h : w.ownsRow base 5 1 (.slice (some ⟨g, 0, none⟩) (n + 2) cap) (n + 2) (u8s (P ++ [201, 77]))) :
    w.ownsRow base 5 1 (.slice (some ⟨g, 0, none⟩) n cap) n (u8s P) ∧ w.cell? ⟨g, n, none⟩ = some (.int .u8 201) ∧ w.cell? ⟨g, n + 1, none⟩ = some (.int .u8 77) := by
  have hc := h.cells (g := g) rfl
  have hadd : ∀ i, (⟨g, 0, none⟩ : Addr).add i = ⟨g, i, none⟩ := by intro i; unfold Addr.add; split <;> simp_all
  refine ⟨?_, ?_, ?_⟩
  · have := own_take (k := n) h (by omega)
    have e : (u8s (P ++ [201, 77])).take n = u8s P := by rw [u8s_append, List.take_append_of_le_length (by rw [u8s_length]; omega), List.take_of_length_le (by rw [u8s_length]; omega)]
    rw [e] at this
    exact this
  · rw [← hadd]; exact hc n _ (by subst hn; simp [u8s])
  · rw [← hadd]; exact hc (n + 1) _ (by subst hn; simp [u8s])
theorem Lnt.own {w W : World} {g cap : Nat} {P : List Nat} (h : Lnt w W g cap P) : W.ownsRow (w.heap.size + 2) 5 1 (.slice (some ⟨g, 0, none⟩) P.length cap) P.length (u8s P) := (lent_parts rfl h.2).1
theorem Lnt.wide {w W : World} {g cap : Nat} {P : List Nat} (h : Lnt w W g cap P) : Wide W (.slice (some ⟨g, 0, none⟩) P.length cap) P := Or.inl (Sees.of_own h.own)
theorem kept_at {w W : World} {g cap : Nat} {P : List Nat} (h : Lnt w W g cap P) (hl : P.length ≤ 140737488355326) {y : Value} (hy : Wide W y P) : Calls Try.prog 20 #[.slice (some ⟨g, 0, none⟩) P.length cap, y] W fun e w' => e = .returned (.bool true) ∧ Kept [] W w' :=
  (kept_yes rfl hl h.1 (Sees.of_own h.own) hy (lent_parts rfl h.2).2.1 (lent_parts rfl h.2).2.2).mono (by rintro e w' ⟨rfl, m, rfl⟩; exact ⟨rfl, (Kept.refl [] W).drewN m⟩)
theorem Ln3.kept {w W Y : World} {p : Pl} {m : Lo} (h : Ln3 w W p m) (k : Kept [] W Y) : Ln3 w Y p m := by
  obtain ⟨g1, c1, g2, c2, g3, c3, rfl, a1, a2, a3, a4⟩ := h.ex
  exact ⟨g1, c1, g2, c2, g3, c3, rfl, a1.kept k (by simp), a2.kept k (by simp), a3.kept k (by simp), a4⟩
theorem Ln3.recW {w W : World} {p : Pl} {m : Lo} (h : Ln3 w W p m) (q1 : p.key.length ≤ 140737488355326) (q2 : p.val.length ≤ 140737488355326) (q3 : p.copy.length ≤ 140737488355326) : RecW W p m := by
  obtain ⟨g1, c1, g2, c2, g3, c3, rfl, a1, a2, a3, -⟩ := h.ex
  exact ⟨a1.wide, a2.wide, a3.wide, by omega, by omega, by omega⟩

set_option maxRecDepth 100000 in
set_option maxHeartbeats 1600000 in
theorem keptRecord_any {w0 w : World} {p : Pl} {m l : Lo} (h1 : Ln3 w0 w p m) (h2 : RecW w p l) (q1 : p.key.length ≤ 140737488355326) (q2 : p.val.length ≤ 140737488355326) (q3 : p.copy.length ≤ 140737488355326) : Calls Try.prog 15 #[rv p m, rv p l] w fun e w' => e = .returned (.bool true) ∧ Kept [] w w' := by
  obtain ⟨g1, c1, g2, c2, g3, c3, rfl, a1, a2, a3, -⟩ := h1.ex
  clear h1
  have HK1 := hide (fun W (k : Kept [] w W) => kept_at (a1.kept k (by simp)) q1 (h2.key.kept k))
  have HK2 := hide (fun W (k : Kept [] w W) => kept_at (a2.kept k (by simp)) q2 (h2.val.kept k))
  have HK3 := hide (fun W (k : Kept [] w W) => kept_at (a3.kept k (by simp)) q3 (h2.copy.kept k))
  clear a1 a2 a3 h2 q1 q2 q3
  have k0 := ((Kept.refl [] w).alloc (.cells (rcc p (lnL g1 c1 g2 c2 g3 c3)) 26)).alloc (.cells (rcc p l) 26)
  have HB0 : Hid (Blk ((w.alloc (.cells (rcc p (lnL g1 c1 g2 c2 g3 c3)) 26)).alloc (.cells (rcc p l) 26)) w.heap.size (rcc p (lnL g1 c1 g2 c2 g3 c3)) 26 ∧ Blk ((w.alloc (.cells (rcc p (lnL g1 c1 g2 c2 g3 c3)) 26)).alloc (.cells (rcc p l) 26)) (w.heap.size + 1) (rcc p l) 26 ∧ Kept [] w ((w.alloc (.cells (rcc p (lnL g1 c1 g2 c2 g3 c3)) 26)).alloc (.cells (rcc p l) 26))) := ⟨(Blk.new _ _ _).alloc _, new1 _ _ _ _, k0⟩
  clear k0
  rw [rv_lit, rv_lit]
  rw [show rcc p (lnL g1 c1 g2 c2 g3 c3) = #[.int .i64 p.kind, .int .i64 p.shard, .int .i64 p.epoch, .int .i64 p.peer, .int .i64 p.client, .int .i64 p.seq, .int .i64 p.okind, .slice (some ⟨g1, 0, none⟩) p.key.length c1, .slice (some ⟨g2, 0, none⟩) p.val.length c2, .int .i64 p.rev, .slice (some ⟨g3, 0, none⟩) p.copy.length c3] from rfl, show rcc p l = #[.int .i64 p.kind, .int .i64 p.shard, .int .i64 p.epoch, .int .i64 p.peer, .int .i64 p.client, .int .i64 p.seq, .int .i64 p.okind, .slice l.ka p.key.length l.kc, .slice l.va p.val.length l.vc, .int .i64 p.rev, .slice l.ca p.copy.length l.cc] from rfl] at HB0
  simp only [lnL]
  go_enter Try.func15, Try.ntmps15
  go_wp2_with (first
    | (go_at_call 20; refine (unhide HK1 _ (unhide HB0).2.2).mono ?_; rintro e w3 ⟨rfl, k3⟩; clear HK1; have HB1 := hide (And.intro ((unhide HB0).1.kept k3 (by simp)) (And.intro ((unhide HB0).2.1.kept k3 (by simp)) ((unhide HB0).2.2.step k3))); clear k3 HB0; obtain ⟨c0, c1, c2, c3, c4, c5, c6, c7, c8, c9, c10⟩ := box11 (unhide HB1).1; obtain ⟨d0, d1, d2, d3, d4, d5, d6, d7, d8, d9, d10⟩ := box11 (unhide HB1).2.1)
    | (go_at_call 20; refine (unhide HK2 _ (unhide HB1).2.2).mono ?_; rintro e w4 ⟨rfl, k4⟩; clear HK2; have HB2 := hide (And.intro ((unhide HB1).1.kept k4 (by simp)) (And.intro ((unhide HB1).2.1.kept k4 (by simp)) ((unhide HB1).2.2.step k4))); clear k4 HB1; obtain ⟨c0, c1, c2, c3, c4, c5, c6, c7, c8, c9, c10⟩ := box11 (unhide HB2).1; obtain ⟨d0, d1, d2, d3, d4, d5, d6, d7, d8, d9, d10⟩ := box11 (unhide HB2).2.1)
    | (go_at_call 20; refine (unhide HK3 _ (unhide HB2).2.2).mono ?_; rintro e w5 ⟨rfl, k5⟩; clear HK3; have HK5 := hide ((unhide HB2).2.2.step k5); clear k5))
  all_goals
    go_ret
    exact ⟨rfl, unhide HK5⟩
end Go.Proofs.Ytocmgfmfalaebaa
