/- The document's disk: carry. -/
import Derived.Test.YtfaoblnghkiibaaQRefB
namespace Go.Proofs.Ytfaoblnghkiibaa
open Go.RowKit

theorem lay_zero (s d : List Nat) (k : Nat) : lay s k 0 d = s := by simp [lay]
theorem lay_succ {s d : List Nat} {k i m : Nat} (hs : s.length = 64 * m) (hk : k < m) (hd : d.length = 64) (hi : i < 64) : lay s k (i + 1) d = (lay s k i d).set (64 * k + i) (d.getD i 0) := by
  have h1 : (s.take (64 * k)).length = 64 * k := by simp [hs]; omega
  have h2 : (d.take i).length = i := by simp [hd]; omega
  have h3 : s.drop (64 * k + i) = s.getD (64 * k + i) 0 :: s.drop (64 * k + (i + 1)) := by
    rw [List.drop_eq_getElem_cons (by omega)]
    simp [List.getElem?_eq_getElem (show 64 * k + i < s.length by omega), Nat.add_assoc]
  have h4 : d.take (i + 1) = d.take i ++ [d.getD i 0] := by
    rw [take_succ_at (x := d.getD i 0) (by simp [List.getElem?_eq_getElem (show i < d.length by omega)])]
  unfold lay
  rw [h3, h4, List.set_append_right _ _ (by rw [List.length_append, h1, h2]; omega), List.length_append, h1, h2, Nat.sub_self]
  simp

set_option maxRecDepth 100000 in
set_option maxHeartbeats 1000000 in
theorem rcarry_any {w : World} {m sb sc pc : Nat} {pa : Option Addr} {d : Dm} {vs : List Value} (h : Rp w m sb sc pa pc d vs) {x : Wt} (hx : x.ok d.n) {n : Nat} (hn : n ≤ 64) {dv : Value} (hdv : Sees w dv x.d) (hdg : ∀ g, dv.ownBlock = some g → g ≠ sb) :
    Calls Try.prog 45 #[.pointer (some ⟨m, 0, none⟩), .agg #[.int .i64 (x.k : Int), dv], .int .i64 n] w fun e w' => e = .returned (.tuple #[]) ∧ w'.ownsRow 0 5 1 (.slice (some ⟨sb, 0, none⟩) (64 * d.n) sc) (64 * d.n) (u8s (lay d.safe x.k n x.d)) ∧ Kept [sb] w w' := by
  have hxl := hx.len
  have hxk := hx.lt
  have hdl := h.ok.len
  have hdn := h.ok.most
  obtain ⟨g, off, cap, rfl, hc1, hc2⟩ := sees_form hdv (by omega)
  rw [hxl] at hdv hc1 ⊢
  have hgs := hdg g rfl
  obtain ⟨W, hW⟩ : ∃ W, W = w.alloc (.cells #[.int .i64 (x.k : Int), .slice (some ⟨g, off, none⟩) 64 cap] 83) := ⟨_, rfl⟩
  have hka : Kept [] w W := by rw [hW]; exact (Kept.refl _ _).alloc _
  have hN : Blk W w.heap.size #[.int .i64 (x.k : Int), .slice (some ⟨g, off, none⟩) 64 cap] 83 := by rw [hW]; exact Blk.new _ _ _
  obtain ⟨c0, -, -, -, -⟩ := rp_cells h
  have hml := h.head.lt
  have hsl : sb < w.heap.size := (h.safe.lt sb rfl).2
  have HC0 := hide (((hka.cell (p := ⟨m, 0, none⟩) hml (by simp)).trans c0))
  have HSE := hide (hdv.kept hka (Or.inr (by simp)))
  have HNB := hide hN
  have HO := hide (own_kept h.safe hka (by simp))
  have HMS := hide h.ms
  have HKA := hide hka
  have HLEN := hide (⟨hxl, hdl⟩ : _ ∧ _)
  have HXB := hide hx.byte
  clear h hdv hdg hx hN hka c0 hxl hdl
  have HT4 : Hid (w.heap.size ≠ sb) := by unfold Hid; omega
  generalize hk : x.k = k at *
  clear hk
  generalize hM : d.n = M at *
  have HM := hide hM
  clear hM
  go_enter Try.func45, Try.ntmps45
  go_wp2_with fail
  rw [← hW]
  have HW := hide hW
  clear hW
  go_loopw [6] (fun s wr => ∃ i : Nat, i ≤ n ∧ s = .int .i64 i ∧ wr.ownsRow 0 5 1 (.slice (some ⟨sb, 0, none⟩) (64 * M) sc) (64 * M) (u8s (lay d.safe k i x.d)) ∧ Kept [sb] W wr) (fun s _ => n - (intOf s).toNat)
  case atStart => exact ⟨0, by omega, rfl, by rw [lay_zero]; exact unhide HO, Kept.refl _ _⟩
  case round =>
    obtain ⟨i, hi, rfl, ho, hkw⟩ := hrel
    by_cases hin : i < n
    · have hWs : w.heap.size < W.heap.size := (unhide HNB).lt
      have p0 := (hkw.cell (p := ⟨m, 0, none⟩) (by show m < W.heap.size; omega) (by simpa using unhide HMS)).trans (unhide HC0)
      have p1 := (hkw.cell (p := ⟨w.heap.size, 0, none⟩) hWs (by simpa using unhide HT4)).trans ((unhide HNB).cell 0)
      have p2 := (hkw.cell (p := ⟨w.heap.size, 1, none⟩) hWs (by simpa using unhide HT4)).trans ((unhide HNB).cell 1)
      simp at p1 p2
      have hse := (unhide HSE).kept hkw (Or.inr fun q hq => by simp [Value.ownBlock] at hq; subst hq; simpa using hgs)
      obtain ⟨a9, c9, hv9, -, -, -, h9⟩ := hse
      injection hv9 with q1 q2 q3
      obtain ⟨b9, o9, hb9, hcl⟩ := at_sees (unhide HLEN).1 h9 (show i < 64 by omega)
      rw [hb9] at q1
      injection q1 with q1
      injection q1 with q1 q4
      subst q1; subst q4
      have hlt : (lay d.safe k i x.d).length = 64 * M := lay_len (unhide HLEN).2 hxk (unhide HLEN).1 (by omega)
      have p4 := own_cell ho (k := 64 * k + i) (by omega)
      have f4 := own_frozen ho (64 * k + i)
      have hxb := getD_lt (unhide HXB) (show i < x.d.length by rw [(unhide HLEN).1]; omega)
      have HNX : Hid ((wr.drew.setCell ⟨sb, 64 * k + i, none⟩ (.int .u8 ((x.d.getD i 0 : Nat) : Int))).ownsRow 0 5 1 (.slice (some ⟨sb, 0, none⟩) (64 * M) sc) (64 * M) (u8s (lay d.safe k (i + 1) x.d))) := by
        unfold Hid
        rw [lay_succ (unhide HLEN).2 hxk (unhide HLEN).1 (by omega)]
        exact own_set (own_kept ho (Kept.refl [] wr).drew (by simp)) (64 * k + i) (x.d.getD i 0)
      have HKX : Hid (Kept [sb] W (wr.drew.setCell ⟨sb, 64 * k + i, none⟩ (.int .u8 ((x.d.getD i 0 : Nat) : Int)))) := hkw.drew.setCell (p := ⟨sb, 64 * k + i, none⟩) (Or.inl (by simp)) _
      generalize (lay d.safe k i x.d).getD (64 * k + i) 0 = old at p4
      generalize x.d.getD i 0 = y at *
      have t1 : (i : Int) < (n : Int) := by omega
      have t2 : (64 * (k : Int) + (i : Int)).toNat = 64 * k + i := by omega
      have t3 : 64 * (k : Int) + (i : Int) < 64 * (M : Int) := by omega
      have t4 : (0 : Int) ≤ 64 * (k : Int) + (i : Int) := by omega
      have t6 : 64 * k + i < 64 * M := by omega
      have t7 : IntKind.i64.wrap (64 * (k : Int) + (i : Int)) = 64 * (k : Int) + (i : Int) := by rw [IntKind.wrap_i64]; omega
      have t8 : IntKind.i64.wrap (64 * (k : Int)) = 64 * (k : Int) := by rw [IntKind.wrap_i64]; omega
      have t5 : (i : Int) < 64 := by omega
      have n1 := unhide HMS
      have n2 := unhide HT4
      have HS4 : Hid ((wr.setCell ⟨sb, 64 * k + i, none⟩ (.int .u8 (y : Int))).drew.cell? ⟨m, 0, none⟩ = some (.slice (some ⟨sb, 0, none⟩) (64 * M) sc) ∧ (wr.setCell ⟨sb, 64 * k + i, none⟩ (.int .u8 (y : Int))).drew.cell? ⟨w.heap.size, 0, none⟩ = some (.int .i64 (k : Int)) ∧
          (wr.setCell ⟨sb, 64 * k + i, none⟩ (.int .u8 (y : Int))).drew.cell? ⟨w.heap.size, 1, none⟩ = some (.slice (some ⟨g, off, none⟩) 64 cap) ∧ (wr.setCell ⟨sb, 64 * k + i, none⟩ (.int .u8 (y : Int))).drew.cell? ⟨g, off + i, none⟩ = some (.int .u8 (y : Int))) :=
        ⟨(World.cell?_setCell_other _ _ _ _ (fun e => n1 (by injection e with e; exact e.symm))).trans p0, (World.cell?_setCell_other _ _ _ _ (fun e => n2 (by injection e with e; exact e.symm))).trans p1, (World.cell?_setCell_other _ _ _ _ (fun e => n2 (by injection e with e; exact e.symm))).trans p2, (World.cell?_setCell_other _ _ _ _ (fun e => hgs (by injection e with e; exact e.symm))).trans hcl⟩
      clear ho hkw h9 hb9 hlt q2 q3
      go_wp2_with fail
      go_region_held3 (fun w' => w'.cell? ⟨m, 0, none⟩ = some (.slice (some ⟨sb, 0, none⟩) (64 * M) sc) ∧ w'.cell? ⟨w.heap.size, 0, none⟩ = some (.int .i64 (k : Int)) ∧ w'.cell? ⟨w.heap.size, 1, none⟩ = some (.slice (some ⟨g, off, none⟩) 64 cap) ∧ w'.cell? ⟨g, off + i, none⟩ = some (.int .u8 (y : Int)))
        (first | exact ⟨p0, p1, p2, hcl⟩ | (show _ ∧ _ ∧ _ ∧ _; exact (unhide HS4))) (fail)
      go_wp2
      exact ⟨⟨i + 1, by omega, by simp, unhide HNX, unhide HKX⟩, by simp [intOf]; omega⟩
    · obtain rfl : i = n := by omega
      have HO2 := hide ho
      have HK2 : Hid (Kept [sb] w wr) := ((unhide HKA).mono (fun _ hx => by cases hx)).trans hkw (fun y hy => Or.inl hy)
      clear ho hkw
      go_wp2
      refine bodyPost_end (results_none rfl _ _ _) rfl ?_
      exact ⟨rfl, unhide HO2, unhide HK2⟩
end Go.Proofs.Ytfaoblnghkiibaa
