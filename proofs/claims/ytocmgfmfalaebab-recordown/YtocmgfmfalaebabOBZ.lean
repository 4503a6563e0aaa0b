/- Records that are lent (the second seat): as FE, FF. -/
import Derived.Test.YtocmgfmfalaebabPkW
namespace Go.Proofs.Ytocmgfmfalaebab
open Go.RowKit

theorem sees2 (w : World) (x y : Nat) : Sees (w.alloc (.cells #[.int .u8 (x : Int), .int .u8 (y : Int)] 5)) (.slice (some ⟨w.heap.size, 0, none⟩) 2 2) [x, y] := by
  refine Or.inr ⟨w.heap.size, 0, 2, rfl, by simp, by unfold maxLen; omega, by simp, fun j hj => ?_⟩
  rw [(Blk.new w _ _).cell]
  match j, hj with
  | 0, _ => rfl
  | 1, _ => rfl

set_option maxRecDepth 100000 in
set_option maxHeartbeats 1000000 in
theorem lent_any {w : World} {x : Value} {P : List Nat} (h : Wide w x P) (hl : P.length ≤ 140737488355326) :
    Calls Try.prog 9 #[x] w fun e w' => ∃ g cap, e = .returned (.slice (some ⟨g, 0, none⟩) P.length cap) ∧ P.length + 2 ≤ cap ∧ w'.ownsRow w.heap.size 5 1 (.slice (some ⟨g, 0, none⟩) (P.length + 2) cap) (P.length + 2) (u8s (P ++ [201, 77])) ∧ Kept [] w w' := by
  obtain ⟨i0, hi, hz0, hz1, hz2⟩ := info_parts Try.info5
  have HP := hide h
  obtain ⟨pa, pc, rfl⟩ := wide_len h
  clear h
  obtain ⟨n, hn⟩ : ∃ n, n = P.length := ⟨_, rfl⟩
  rw [← hn] at hl HP ⊢
  have HN := hide hn
  clear hn
  go_enter Try.func9, Try.ntmps9
  go_wp2_with (at_builtin; refine wpList_append_wide _ rfl _ _ 22 rfl w.heap.size 5 i0 (.int .u8 0) Try.underlying22 hi hz0 hz1 hz2 rfl _ [] rfl (World.ownsRow_made w #[] 0 (Nat.le_refl _) (Nat.zero_le _) rfl) _ P rfl ((unhide HP).kept ((Kept.refl [] w).alloc _)) ?c1 ?c2 ?_)
  case c1 => have := unhide HN; simp; omega
  case c2 => simp
  intro v1 w1 hown hg hat
  have hk1 : Kept [] w w1 := ((Kept.refl [] w).alloc _).grown hg (fun k hk => by simp [Value.ownBlock] at hk; right; omega)
  rw [← unhide HN] at hown
  obtain ⟨a1, c1, hv⟩ := own_len hown
  subst hv
  have HO1 := hide hown
  have HK1 := hide hk1
  clear hown hg hat hk1
  have hs1 : w.heap.size ≤ w1.heap.size := (unhide HK1).size
  go_wp2_with (at_builtin; refine wpList_append_sees _ rfl _ _ 22 rfl w.heap.size 5 i0 (.int .u8 0) Try.underlying22 hi hz0 hz1 hz2 rfl _ P rfl (by rw [← unhide HN]; exact (unhide HO1).alloc _) _ [201, 77] rfl (sees2 w1 201 77) ?c3 ?c4 ?_)
  case c3 => have := unhide HN; simp; omega
  case c4 => simp; omega
  intro v2 w2 hown hg hat
  have hk2 : Kept [] w w2 := ((unhide HK1).alloc _).grown hg (fun k hk => by have := ((unhide HO1).lt k hk).1; right; exact this)
  rw [← unhide HN] at hown
  obtain ⟨g, c, hv, -, hgl, hgc, hcm⟩ : ∃ g cap, v2 = .slice (some ⟨g, 0, none⟩) (n + 2) cap ∧ w.heap.size ≤ g ∧ g < w2.heap.size ∧ n + 2 ≤ cap ∧ cap ≤ maxLen := by
    rcases hown.2 with ⟨_, h2⟩ | ⟨g, cap, cur, hv, hb, hg, hc, hm, _⟩
    · omega
    · exact ⟨g, cap, hv, hb, (Array.getElem?_eq_some_iff.1 hg).1, hc, hm⟩
  subst hv
  have HO2 := hide hown
  have HK2 := hide hk2
  have hnc : n ≤ c := by omega
  have hcm' : c ≤ 9223372036854775807 := by unfold maxLen at hcm; omega
  clear hown hg hat hk2 hcm
  go_wp2
  go_ret
  exact ⟨g, c, rfl, hgc, unhide HO2, unhide HK2⟩

structure SB (w : World) (b : Nat) (p : Pl) (l : Lo) (W : World) : Prop where
  blk : Blk W b (rcc p l) 26
  kept : Kept [] w W
theorem SB.go {w : World} {b : Nat} {p : Pl} {l : Lo} {W Y : World} (h : SB w b p l W) (k : Kept [] W Y) : SB w b p l Y := ⟨h.blk.kept k (by simp), h.kept.step k⟩

theorem own_down {w : World} {base base' : Nat} {e : TypeId} {sz : Nat} {v : Value} {n : Nat} {xs : List Value} (h : w.ownsRow base e sz v n xs) (hb : base' ≤ base) : w.ownsRow base' e sz v n xs := by
  refine ⟨h.1, ?_⟩
  rcases h.2 with h2 | ⟨g, cap, cur, e1, hg, r⟩
  · exact Or.inl h2
  · exact Or.inr ⟨g, cap, cur, e1, Nat.le_trans hb hg, r⟩
/-- Lent bytes, with the two marks behind. -/
def Lnt (w W : World) (g cap : Nat) (P : List Nat) : Prop := P.length + 2 ≤ cap ∧ W.ownsRow (w.heap.size + 2) 5 1 (.slice (some ⟨g, 0, none⟩) (P.length + 2) cap) (P.length + 2) (u8s (P ++ [201, 77]))
theorem Lnt.kept {w W W' : World} {g cap : Nat} {P : List Nat} {F : List Nat} (h : Lnt w W g cap P) (k : Kept F W W') (hF : ∀ x ∈ F, x ≤ w.heap.size + 1) : Lnt w W' g cap P := ⟨h.1, own_kept h.2 k (fun q hq hm => by have h1 := (h.2.lt q hq).1; have h2 := hF q hm; omega)⟩
theorem SB.set7 {w : World} {b : Nat} {p : Pl} {l : Lo} {W : World} (h : SB w b p l W) (hb : w.heap.size ≤ b) (a : Option Addr) (c : Nat) : SB w b p { l with ka := a, kc := c } (W.setCell ⟨b, 7, none⟩ (.slice a p.key.length c)) := ⟨by simpa [rcc] using h.blk.set 7 (.slice a p.key.length c), h.kept.setCell (Or.inr hb) _⟩
theorem SB.set8 {w : World} {b : Nat} {p : Pl} {l : Lo} {W : World} (h : SB w b p l W) (hb : w.heap.size ≤ b) (a : Option Addr) (c : Nat) : SB w b p { l with va := a, vc := c } (W.setCell ⟨b, 8, none⟩ (.slice a p.val.length c)) := ⟨by simpa [rcc] using h.blk.set 8 (.slice a p.val.length c), h.kept.setCell (Or.inr hb) _⟩
theorem SB.set10 {w : World} {b : Nat} {p : Pl} {l : Lo} {W : World} (h : SB w b p l W) (hb : w.heap.size ≤ b) (a : Option Addr) (c : Nat) : SB w b p { l with ca := a, cc := c } (W.setCell ⟨b, 10, none⟩ (.slice a p.copy.length c)) := ⟨by simpa [rcc] using h.blk.set 10 (.slice a p.copy.length c), h.kept.setCell (Or.inr hb) _⟩
theorem Lnt.set {w W : World} {g cap : Nat} {P : List Nat} (h : Lnt w W g cap P) (o : Nat) (v : Value) : Lnt w (W.setCell ⟨w.heap.size, o, none⟩ v) g cap P := h.kept ((Kept.refl [w.heap.size] W).setCell (Or.inl (by simp)) _) (by simp)
/-- Where a lent record's lists lie. -/
def lnL (g1 c1 g2 c2 g3 c3 : Nat) : Lo := { ka := some ⟨g1, 0, none⟩, kc := c1, va := some ⟨g2, 0, none⟩, vc := c2, ca := some ⟨g3, 0, none⟩, cc := c3 }
theorem lent_at {w W : World} {b : Nat} {p : Pl} {l : Lo} (h : SB w b p l W) (h2 : w.heap.size + 2 ≤ W.heap.size) {x : Value} {P : List Nat} (hx : Wide w x P) (hl : P.length ≤ 140737488355326) : Calls Try.prog 9 #[x] W fun e w' => ∃ g cap, e = .returned (.slice (some ⟨g, 0, none⟩) P.length cap) ∧ Lnt w w' g cap P ∧ SB w b p l w' ∧ Kept [] W w' ∧ W.heap.size ≤ g ∧ g < w'.heap.size := by
  refine (lent_any (hx.kept h.kept) hl).mono ?_
  rintro e w' ⟨g, cap, rfl, hc, ho, k⟩
  exact ⟨g, cap, rfl, ⟨hc, own_down ho h2⟩, h.go k, k, (ho.lt g rfl).1, (ho.lt g rfl).2⟩
/-- A record being lent: its box, and the box of the result. -/
structure LR (w : World) (p : Pl) (l : Lo) (W : World) : Prop where
  sb : SB w w.heap.size p l W
  res : Blk W (w.heap.size + 1) (rcc zeroP nilL) 26
theorem LR.sz {w : World} {p : Pl} {l : Lo} {W : World} (h : LR w p l W) : w.heap.size + 2 ≤ W.heap.size := by have := h.res.lt; omega
theorem LR.go {w : World} {p : Pl} {l : Lo} {W Y : World} (h : LR w p l W) (k : Kept [] W Y) : LR w p l Y := ⟨h.sb.go k, h.res.kept k (by simp)⟩
theorem kept_set (W : World) (b o : Nat) (v : Value) : Kept [b] W (W.setCell ⟨b, o, none⟩ v) := (Kept.refl [b] W).setCell (Or.inl (by simp)) _
theorem LR.set7 {w : World} {p : Pl} {l : Lo} {W : World} (h : LR w p l W) (a : Option Addr) (c : Nat) : LR w p { l with ka := a, kc := c } (W.setCell ⟨w.heap.size, 7, none⟩ (.slice a p.key.length c)) := ⟨h.sb.set7 (Nat.le_refl _) a c, h.res.kept (kept_set _ _ _ _) (by simp)⟩
theorem LR.set8 {w : World} {p : Pl} {l : Lo} {W : World} (h : LR w p l W) (a : Option Addr) (c : Nat) : LR w p { l with va := a, vc := c } (W.setCell ⟨w.heap.size, 8, none⟩ (.slice a p.val.length c)) := ⟨h.sb.set8 (Nat.le_refl _) a c, h.res.kept (kept_set _ _ _ _) (by simp)⟩
theorem LR.set10 {w : World} {p : Pl} {l : Lo} {W : World} (h : LR w p l W) (a : Option Addr) (c : Nat) : LR w p { l with ca := a, cc := c } (W.setCell ⟨w.heap.size, 10, none⟩ (.slice a p.copy.length c)) := ⟨h.sb.set10 (Nat.le_refl _) a c, h.res.kept (kept_set _ _ _ _) (by simp)⟩
theorem LR.begin (w : World) (p : Pl) (l : Lo) : LR w p l ((w.alloc (.cells (rcc p l) 26)).alloc (.cells (rcc zeroP nilL) 26)) := ⟨⟨(Blk.new _ _ _).alloc _, ((Kept.refl _ _).alloc _).alloc _⟩, new1 _ _ _ _⟩
/-- Three lists lent. -/
structure Ln3 (w W : World) (p : Pl) (m : Lo) : Prop where
  ex : ∃ g1 c1 g2 c2 g3 c3, m = lnL g1 c1 g2 c2 g3 c3 ∧ Lnt w W g1 c1 p.key ∧ Lnt w W g2 c2 p.val ∧ Lnt w W g3 c3 p.copy ∧ g1 < g2 ∧ g2 < g3

set_option maxRecDepth 100000 in
set_option maxHeartbeats 1600000 in
theorem lentRecord_any {w : World} {p : Pl} {l : Lo} (hr : RecW w p l) (q1 : p.key.length ≤ 140737488355326) (q2 : p.val.length ≤ 140737488355326) (q3 : p.copy.length ≤ 140737488355326) : Calls Try.prog 7 #[rv p l] w fun e w' => ∃ m, e = .returned (rv p m) ∧ Ln3 w w' p m ∧ Kept [] w w' := by
  have H0 := hide (LR.begin w p l)
  have HL1 := hide (fun (W : World) (m : Lo) (h : LR w p m W) => lent_at h.sb h.sz hr.key q1)
  have HL2 := hide (fun (W : World) (m : Lo) (h : LR w p m W) => lent_at h.sb h.sz hr.val q2)
  have HL3 := hide (fun (W : World) (m : Lo) (h : LR w p m W) => lent_at h.sb h.sz hr.copy q3)
  clear hr q1 q2 q3
  rw [rv_lit]
  rw [show rcc p l = #[.int .i64 p.kind, .int .i64 p.shard, .int .i64 p.epoch, .int .i64 p.peer, .int .i64 p.client, .int .i64 p.seq, .int .i64 p.okind, .slice l.ka p.key.length l.kc, .slice l.va p.val.length l.vc, .int .i64 p.rev, .slice l.ca p.copy.length l.cc] from rfl, show rcc zeroP nilL = #[.int .i64 0, .int .i64 0, .int .i64 0, .int .i64 0, .int .i64 0, .int .i64 0, .int .i64 0, .slice none 0 0, .slice none 0 0, .int .i64 0, .slice none 0 0] from rfl] at H0
  go_enter Try.func7, Try.ntmps7
  go_wp2_with (first
    | (go_at_call 9; refine (unhide HL1 _ _ (unhide H0)).mono ?_; rintro e w1 ⟨g1, c1, rfl, hn1, -, k1, -, hi1⟩; clear HL1; have HI1 := hide hi1; clear hi1; have H1 := hide ((unhide H0).go k1); have HN1 := hide hn1; clear k1 hn1 H0; obtain ⟨d0, d1, d2, d3, d4, d5, d6, d7, d8, d9, d10⟩ := box11 (unhide H1).sb.blk; have fz := (unhide H1).sb.blk.frozen 7)
    | (go_at_call 9; have H1' := hide ((unhide H1).set7 (some ⟨g1, 0, none⟩) c1); have HN1' := hide ((unhide HN1).set 7 (.slice (some ⟨g1, 0, none⟩) p.key.length c1)); refine (unhide HL2 _ _ (unhide H1')).mono ?_; rintro e w2 ⟨g2, c2, rfl, hn2, -, k2, lo2, hi2⟩; clear HL2; have HI2 : Hid (g1 < g2 ∧ g2 < w2.heap.size) := (by have h1 := unhide HI1; simp at lo2; exact ⟨by omega, hi2⟩); clear HI1 lo2 hi2; have H2 := hide ((unhide H1').go k2); have HN2 := hide hn2; have HN12 := hide ((unhide HN1').kept k2 (by simp)); clear k2 hn2 H1 H1' HN1 HN1'; obtain ⟨d0, d1, d2, d3, d4, d5, d6, d7, d8, d9, d10⟩ := box11 (unhide H2).sb.blk; have fz := (unhide H2).sb.blk.frozen 8)
    | (go_at_call 9; have H2' := hide ((unhide H2).set8 (some ⟨g2, 0, none⟩) c2); have HN12' := hide ((unhide HN12).set 8 (.slice (some ⟨g2, 0, none⟩) p.val.length c2)); have HN2' := hide ((unhide HN2).set 8 (.slice (some ⟨g2, 0, none⟩) p.val.length c2)); refine (unhide HL3 _ _ (unhide H2')).mono ?_; rintro e w3 ⟨g3, c3, rfl, hn3, -, k3, lo3, -⟩; clear HL3; have HI3 : Hid (g1 < g2 ∧ g2 < g3) := (by have h1 := unhide HI2; simp at lo3; exact ⟨h1.1, by omega⟩); clear HI2 lo3; have H3 := hide ((unhide H2').go k3); have HN3 := hide hn3; have HN13 := hide ((unhide HN12').kept k3 (by simp)); have HN23 := hide ((unhide HN2').kept k3 (by simp)); clear k3 hn3 H2 H2' HN12 HN12' HN2 HN2'; obtain ⟨d0, d1, d2, d3, d4, d5, d6, d7, d8, d9, d10⟩ := box11 (unhide H3).sb.blk; have fz := (unhide H3).sb.blk.frozen 10; obtain ⟨f0, f1, f2, f3, f4, f5, f6, f7, f8, f9, f10⟩ := froz11 (unhide H3).res; obtain ⟨r0, r1, r2, r3, r4, r5, r6, r7, r8, r9, r10⟩ := box11 (unhide H3).res))
  have H4 := hide ((unhide H3).set10 (some ⟨g3, 0, none⟩) c3)
  have A1 := hide ((unhide HN13).set 10 (.slice (some ⟨g3, 0, none⟩) p.copy.length c3))
  have A2 := hide ((unhide HN23).set 10 (.slice (some ⟨g3, 0, none⟩) p.copy.length c3))
  have A3 := hide ((unhide HN3).set 10 (.slice (some ⟨g3, 0, none⟩) p.copy.length c3))
  refine ret_struct (b := w.heap.size + 1) rfl rfl (put11 (unhide H4).res _ _ _ _ _ _ _ _ _ _ _) Try.underlying26 infoRec rfl ?_
  have q := kept11 (w3.setCell ⟨w.heap.size, 10, none⟩ (.slice (some ⟨g3, 0, none⟩) p.copy.length c3)) (w.heap.size + 1) (.int .i64 p.kind) (.int .i64 p.shard) (.int .i64 p.epoch) (.int .i64 p.peer) (.int .i64 p.client) (.int .i64 p.seq) (.int .i64 p.okind) (.slice (some ⟨g1, 0, none⟩) p.key.length c1) (.slice (some ⟨g2, 0, none⟩) p.val.length c2) (.int .i64 p.rev) (.slice (some ⟨g3, 0, none⟩) p.copy.length c3)
  exact ⟨lnL g1 c1 g2 c2 g3 c3, rfl, ⟨g1, c1, g2, c2, g3, c3, rfl, (unhide A1).kept q (by simp), (unhide A2).kept q (by simp), (unhide A3).kept q (by simp), unhide HI3⟩, (unhide H4).sb.kept.trans q (fun x hx => by simp at hx; subst hx; right; omega)⟩

theorem lent_parts {w : World} {base g n cap : Nat} {P : List Nat} (hn : P.length = n) (h : w.ownsRow base 5 1 (.slice (some ⟨g, 0, none⟩) (n + 2) cap) (n + 2) (u8s (P ++ [201, 77]))) :
    w.ownsRow base 5 1 (.slice (some ⟨g, 0, none⟩) n cap) n (u8s P) ∧ w.cell? ⟨g, n, none⟩ = some (.int .u8 201) ∧ w.cell? ⟨g, n + 1, none⟩ = some (.int .u8 77) := by
  have hc := h.cells (g := g) rfl
  have hadd : ∀ i, (⟨g, 0, none⟩ : Addr).add i = ⟨g, i, none⟩ := by intro i; unfold Addr.add; split <;> simp_all
  refine ⟨?_, ?_, ?_⟩
  · have := own_take (k := n) h (by omega)
    have e : (u8s (P ++ [201, 77])).take n = u8s P := by rw [u8s_append, List.take_append_of_le_length (by rw [u8s_length]; omega), List.take_of_length_le (by rw [u8s_length]; omega)]
    rw [e] at this
    exact this
  · rw [← hadd]; exact hc n _ (by subst hn; simp [u8s])
  · rw [← hadd]; exact hc (n + 1) _ (by subst hn; simp [u8s])
theorem Lnt.own {w W : World} {g cap : Nat} {P : List Nat} (h : Lnt w W g cap P) : W.ownsRow (w.heap.size + 2) 5 1 (.slice (some ⟨g, 0, none⟩) P.length cap) P.length (u8s P) := (lent_parts rfl h.2).1
theorem Lnt.wide {w W : World} {g cap : Nat} {P : List Nat} (h : Lnt w W g cap P) : Wide W (.slice (some ⟨g, 0, none⟩) P.length cap) P := Or.inl (Sees.of_own h.own)
theorem Ln3.kept {w W Y : World} {p : Pl} {m : Lo} (h : Ln3 w W p m) (k : Kept [] W Y) : Ln3 w Y p m := by
  obtain ⟨g1, c1, g2, c2, g3, c3, rfl, a1, a2, a3, a4⟩ := h.ex
  exact ⟨g1, c1, g2, c2, g3, c3, rfl, a1.kept k (by simp), a2.kept k (by simp), a3.kept k (by simp), a4⟩
theorem Ln3.recW {w W : World} {p : Pl} {m : Lo} (h : Ln3 w W p m) (q1 : p.key.length ≤ 140737488355326) (q2 : p.val.length ≤ 140737488355326) (q3 : p.copy.length ≤ 140737488355326) : RecW W p m := by
  obtain ⟨g1, c1, g2, c2, g3, c3, rfl, a1, a2, a3, -⟩ := h.ex
  exact ⟨a1.wide, a2.wide, a3.wide, by omega, by omega, by omega⟩

end Go.Proofs.Ytocmgfmfalaebab
