/- values: a row as the program gets it. -/
import Derived.Test.YtigmofbammofbabKLent
namespace Go.Proofs.Ytigmofbammofbab
open Go.RowKit

theorem Lent.seesIn {w : World} {base g cap L : Nat} {bs : List Nat} (h : Lent w base g cap L bs) : SeesIn (New base) w (.slice (some ⟨g, 0, none⟩) L cap) bs :=
  ⟨h.sees, Or.inr fun k hk => by simp [Value.ownBlock] at hk; subst hk; exact h.caps.2.2.1⟩
theorem RowV.of_take {S : Nat → Prop} {w : World} {a : Option Addr} {n cap : Nat} {r s : Row} (h : RowV S w (.slice a n cap) (r.app s)) : RowV S w (.slice a r.len cap) r := by
  obtain ⟨a', c', hv, h1, h2, h3⟩ := h
  cases hv
  rw [Row.app_len] at h1
  refine ⟨_, _, rfl, by omega, h2, ?_⟩
  rcases h3 with h3 | ⟨b, off, rfl, h4, h5, h6⟩
  · left
    cases r with
    | nil => rfl
    | cons h p r => cases h3
  · exact Or.inr ⟨b, off, rfl, h4, h5, (AtV.app.1 h6).1⟩

/-- what is known where a value is appended -/
theorem val_ok {w wr W2 w3 w4 : World} {va : Option Addr} {vn vc : Nat} {l : List El} {g gc TL : Nat} {qa : Option Addr} {PL qc : Nat} {text : List Nat} {p : Row} {h : Hd} {x y : Value} {o : Obj} (hk : Kept [] w wr) (how : OwnV w.heap.size wr (.slice va vn vc) l) (hrb : ∀ x, (Value.slice va vn vc).ownBlock = some x → w.heap.size ≤ x ∧ x < wr.heap.size) (hN : wr.heap.size + 1 < W2.heap.size) (hln : Lent w3 W2.heap.size g gc TL text) (hs3 : W2.heap.size ≤ w3.heap.size)
    (hk3 : Kept [wr.heap.size + 1] w3 (w3.setCell ⟨wr.heap.size + 1, 5, none⟩ x)) (hkr : Kept [] wr (w3.setCell ⟨wr.heap.size + 1, 5, none⟩ x)) (hrv : RowV (New (w3.setCell ⟨wr.heap.size + 1, 5, none⟩ x).heap.size) w4 (.slice qa PL qc) p) (hk4 : Kept [] (w3.setCell ⟨wr.heap.size + 1, 5, none⟩ x) w4) (hok : h.ok) (ht : h.text = text) :
    OwnV w.heap.size ((w4.setCell ⟨wr.heap.size + 1, 6, none⟩ y).alloc o) (.slice va vn vc) l ∧ ElOk (fun x => w.heap.size ≤ x ∧ (Value.slice va vn vc).ownBlock ≠ some x) ((w4.setCell ⟨wr.heap.size + 1, 6, none⟩ y).alloc o) ⟨h, .slice (some ⟨g, 0, none⟩) TL gc, .slice qa PL qc, p⟩ ∧ Kept [] w ((w4.setCell ⟨wr.heap.size + 1, 6, none⟩ y).alloc o) ∧ w.heap.size ≤ ((w4.setCell ⟨wr.heap.size + 1, 6, none⟩ y).alloc o).heap.size := by
  have hws := hk.size
  have hk5 : Kept [wr.heap.size + 1] w4 ((w4.setCell ⟨wr.heap.size + 1, 6, none⟩ y).alloc o) := ((Kept.refl _ w4).setCell (p := ⟨wr.heap.size + 1, 6, none⟩) (Or.inl (by simp)) y).alloc o
  have hka : Kept [] wr ((w4.setCell ⟨wr.heap.size + 1, 6, none⟩ y).alloc o) := (hkr.trans hk4 (by simp)).trans hk5 (fun z hz => Or.inr (by simp at hz; omega))
  have hall : Kept [] w ((w4.setCell ⟨wr.heap.size + 1, 6, none⟩ y).alloc o) := hk.trans hka (by simp)
  refine ⟨how.kept hka, ⟨hok, ?_, ?_⟩, hall, hall.size⟩
  · rw [ht]
    have h1 : SeesIn (New W2.heap.size) ((w4.setCell ⟨wr.heap.size + 1, 6, none⟩ y).alloc o) (.slice (some ⟨g, 0, none⟩) TL gc) text := ((hln.seesIn.kept hk3 (fun z hz hm => by simp at hz; unfold New at hm; omega)).kept hk4 (by simp)).kept hk5 (fun z hz hm => by simp at hz; unfold New at hm; omega)
    exact h1.mono (fun z _ hz => ⟨by unfold New at hz; omega, fun e => by have := (hrb z e).2; unfold New at hz; omega⟩)
  · have hs4 : w3.heap.size ≤ (w3.setCell ⟨wr.heap.size + 1, 5, none⟩ x).heap.size := hk3.size
    have h1 := hrv.kept hk5 (fun z hz hm => by simp at hz; unfold New at hm; omega)
    exact h1.mono (fun z _ hz => ⟨by unfold New at hz; omega, fun e => by have := (hrb z e).2; unfold New at hz; omega⟩)

def ValC (r : Row) : Prop := ∀ (w : World) (v : Value), RowP w v r → cnt r ≤ 262144 →
  Calls Try.prog 11 #[v] w fun e w' => (∃ va cap, e = .returned (.slice va r.len cap) ∧ RowV (New w.heap.size) w' (.slice va r.len cap) r) ∧ Kept [] w w'

set_option maxRecDepth 100000 in
set_option maxHeartbeats 4000000 in
theorem values_any2 (r : Row) : ValC r := by
  refine Row.parts_ind (fun r hC => ?_) r
  rintro w v ⟨a, cap, rfl, h1, h2, h3⟩ hcn
  have hsf := fun (w : World) (a : Addr) (m : Nat) (md : Mode) => run_store Try.prog w a (.float .f64 m) md rfl
  have hsc := fun (w : World) (a : Addr) (m n : Nat) (md : Mode) => run_store Try.prog w a (.complex .f64 m n) md rfl
  have hkf := kf
  have hlen := cnt_len r
  have H3 := hide h3
  have HC := hide hC
  clear h3 hC
  generalize hL : r.len = L at *
  have HL := hide hL
  clear hL
  go_enter Try.func11, Try.ntmps11
  go_wp2_with fail
  go_loopw [3, 4] (fun out i wr => ∃ (k : Nat) (s : Row) (l : List El) (va : Option Addr) (vn vc : Nat), i = .int .i64 k ∧ out = .slice va vn vc ∧ k + s.len = L ∧ vn = k ∧ l.length = vn ∧ r = (rowE l).app s ∧ cnt s ≤ 262144 ∧ PartsOk ValC s ∧ (s = .nil ∨ ∃ b off, a = some ⟨b, off, none⟩ ∧ b < w.heap.size ∧ AtP w s b (off + k * 7)) ∧ OwnV w.heap.size wr (.slice va vn vc) l ∧ Kept [] w wr) (fun _ i _ => L - (intOf i).toNat)
  case atStart => exact ⟨0, r, [], none, 0, 0, rfl, rfl, by rw [unhide HL]; omega, rfl, rfl, rfl, hcn, unhide HC, by
      rcases unhide H3 with h | ⟨b, off, q1, q2, q3⟩
      · exact Or.inl h
      · exact Or.inr ⟨b, off, q1, q2, by simpa using q3⟩, OwnV.nil _ _, Kept.refl _ _⟩
  case round =>
    obtain ⟨k, s, l, va, vn, vc, rfl, rfl, hk, hvk, hln, hrs, hcs, hps, hat, how, hkp⟩ := hrel
    subst hvk
    have HOW := hide how
    have HK := hide hkp
    have HLN := hide hln
    have HRS := hide hrs
    clear how hkp hln hrs
    cases s with
    | nil =>
      simp only [Row.len, Nat.add_zero] at hk
      subst hk
      rw [Row.app_nil] at HRS
      have hww := (unhide HK).size
      have t1 : ((vn : Int) < (vn : Int)) = False := by simp
      have HVN : Hid (vn ≤ 1099511627776) := by unfold Hid; omega
      have HK5 : Hid (Kept [] w (wr.alloc (.cells #[.int .i64 (-99), .bool false, .int .i64 0, .float .f64 0, .complex .f64 0 0, .slice none 0 0, .slice none 0 0] 48))) := (unhide HK).alloc _
      have HOW5 := hide ((unhide HOW).kept ((Kept.refl [] wr).alloc (.cells #[.int .i64 (-99), .bool false, .int .i64 0, .float .f64 0, .complex .f64 0 0, .slice none 0 0, .slice none 0 0] 48)))
      have HCE := hide (cells_seven_new wr (.int .i64 (-99)) (.bool false) (.int .i64 0) (.float .f64 0) (.complex .f64 0 0) (.slice none 0 0) (.slice none 0 0) 48)
      have HRB : Hid (∀ x, (Value.slice va vn vc).ownBlock = some x → w.heap.size ≤ x) := fun x hx => ((unhide HOW).1.lt x hx).1
      have HE5 : Hid (ElOk (fun x => w.heap.size ≤ x ∧ (Value.slice va vn vc).ownBlock ≠ some x) (wr.alloc (.cells #[.int .i64 (-99), .bool false, .int .i64 0, .float .f64 0, .complex .f64 0 0, .slice none 0 0, .slice none 0 0] 48)) ⟨hd0 (-99), .slice none 0 0, .slice none 0 0, .nil⟩) := ⟨⟨by simp [hd0], by simp [hd0], by simp [hd0], by simp [hd0], by simp [hd0], by simp [hd0], by simp [hd0], by simp [hd0]⟩, SeesIn.none _ _, RowV.nil _ _⟩
      go_wp2_with (at_builtin; refine wpList_append_val (e := ⟨hd0 (-99), .slice none 0 0, .slice none 0 0, .nil⟩) _ rfl _ _ rfl rfl HOW5 HLN rfl HCE (by intro u hu; simp [cellsV, hd0] at hu; rcases hu with rfl | rfl | rfl | rfl | rfl | rfl | rfl <;> rfl) HE5 HVN (by exact (unhide HK5).size) ?_)
      intro va' vc' w6 HO6 HK6'
      have HK6 : Hid (Kept [] w w6) := (unhide HK5).trans (unhide HK6') (fun x hx => Or.inr (unhide HRB x (by simpa using hx)))
      have hcap : vn + 1 ≤ vc' ∧ vc' ≤ 9223372036854775807 := by
        obtain ⟨a9, c9, hv9, q1, q2, _⟩ := (unhide HO6).row
        have e9 : c9 = vc' := by injection hv9 with _ _ h; exact h.symm
        rw [e9, rowE_len, List.length_append, unhide HLN] at q1
        rw [e9] at q2
        unfold maxLen at q2
        simp at q1
        omega
      have t2 : vn ≤ vc' := by omega
      have t3 : (vn : Int) ≤ (vc' : Int) := by omega
      go_wp2
      go_ret
      refine ⟨⟨va', vc', rfl, ?_⟩, unhide HK6⟩
      have h6 := (unhide HO6).row
      rw [rowE_app, ← unhide HRS] at h6
      have h7 := h6.of_take
      rw [unhide HL] at h7
      exact h7
    | cons h p s =>
      simp only [Row.len] at hk
      obtain ⟨hC1, hC2⟩ := hps
      rcases hat with hat | ⟨b, off, hra, hb, hat⟩
      · cases hat
      subst hra
      rw [AtP_cons] at hat
      obtain ⟨⟨⟨hok, hpr⟩, tv, pv, hc, ht, hpv⟩, hrest⟩ := hat
      have hc' := hc.kept (unhide HK) hb
      obtain ⟨c0, c1, c2, c3, c4, c5, c6⟩ := hc'
      have HAT : Hid (s = .nil ∨ ∃ b' off', (some ⟨b, off, none⟩ : Option Addr) = some ⟨b', off', none⟩ ∧ b' < w.heap.size ∧ AtP w s b' (off' + (vn + 1) * 7)) := Or.inr ⟨b, off, rfl, hb, by rw [show off + (vn + 1) * 7 = off + vn * 7 + 7 by omega]; exact hrest⟩
      simp only [cnt] at hcs
      have HC2 := hide hC2
      have HC1 := hide hC1
      have HT := hide (ht.kept (unhide HK) (Or.inr (by simp)))
      have HP := hide (hpv.kept (unhide HK))
      obtain ⟨pa, pc, hpv1, -⟩ := hpv
      obtain ⟨ta, tc, htv1, -⟩ := ht
      clear hrest hC1 hC2 hc
      subst hpv1 htv1
      obtain ⟨kind, bb, nn, re, prr, im, text⟩ := h
      simp only at *
      subst hpr
      generalize hTL : text.length = TL at *
      generalize hPL : p.len = PL at *
      have HTL := hide hTL
      have HPL := hide hPL
      clear hTL hPL
      have t1 : (vn : Int) < (L : Int) := by omega
      go_wp2_with fail
      refine world_at (R := fun W => Kept [] wr W ∧ W.heap.size = wr.heap.size + 1 ∧ W.cell? ⟨wr.heap.size, 0, none⟩ = some (.int .i64 kind) ∧ W.cell? ⟨wr.heap.size, 1, none⟩ = some (.bool bb) ∧ W.cell? ⟨wr.heap.size, 2, none⟩ = some (.int .i64 nn) ∧ W.cell? ⟨wr.heap.size, 3, none⟩ = some (.int .u64 (prr : Int)) ∧ W.cell? ⟨wr.heap.size, 4, none⟩ = some (.int .u64 (im : Int)) ∧ W.cell? ⟨wr.heap.size, 5, none⟩ = some (.slice ta TL tc) ∧ W.cell? ⟨wr.heap.size, 6, none⟩ = some (.slice pa PL pc)) ⟨(Kept.refl [] wr).alloc _, by simp, (Blk.new wr #[.int .i64 kind, .bool bb, .int .i64 nn, .int .u64 (prr : Int), .int .u64 (im : Int), .slice ta TL tc, .slice pa PL pc] 62).cell 0, (Blk.new wr #[.int .i64 kind, .bool bb, .int .i64 nn, .int .u64 (prr : Int), .int .u64 (im : Int), .slice ta TL tc, .slice pa PL pc] 62).cell 1, (Blk.new wr #[.int .i64 kind, .bool bb, .int .i64 nn, .int .u64 (prr : Int), .int .u64 (im : Int), .slice ta TL tc, .slice pa PL pc] 62).cell 2, (Blk.new wr #[.int .i64 kind, .bool bb, .int .i64 nn, .int .u64 (prr : Int), .int .u64 (im : Int), .slice ta TL tc, .slice pa PL pc] 62).cell 3, (Blk.new wr #[.int .i64 kind, .bool bb, .int .i64 nn, .int .u64 (prr : Int), .int .u64 (im : Int), .slice ta TL tc, .slice pa PL pc] 62).cell 4, (Blk.new wr #[.int .i64 kind, .bool bb, .int .i64 nn, .int .u64 (prr : Int), .int .u64 (im : Int), .slice ta TL tc, .slice pa PL pc] 62).cell 5, (Blk.new wr #[.int .i64 kind, .bool bb, .int .i64 nn, .int .u64 (prr : Int), .int .u64 (im : Int), .slice ta TL tc, .slice pa PL pc] 62).cell 6⟩ ?_
      rintro W ⟨hkW, hsz, d0, d1, d2, d3, d4, d5, d6⟩
      have HKW := hide hkW
      clear hkW c0 c1 c2 c3 c4 c5 c6
      have hlW : wr.heap.size < W.heap.size := by omega
      go_region
      have hkA : Kept [] W (W.alloc (.cells #[.int .i64 kind, .bool bb, .int .i64 nn, .float .f64 prr, .complex .f64 0 0, .slice none 0 0, .slice none 0 0] 48)).drew := ((Kept.refl [] W).alloc _).drew
      refine world_at (R := fun W1 => Kept [] wr W1 ∧ wr.heap.size + 1 < W1.heap.size ∧ Blk W1 (wr.heap.size + 1) #[.int .i64 kind, .bool bb, .int .i64 nn, .float .f64 prr, .complex .f64 0 0, .slice none 0 0, .slice none 0 0] 48 ∧ W1.cell? ⟨wr.heap.size, 3, none⟩ = some (.int .u64 (prr : Int)) ∧ W1.cell? ⟨wr.heap.size, 4, none⟩ = some (.int .u64 (im : Int)) ∧ W1.cell? ⟨wr.heap.size, 5, none⟩ = some (.slice ta TL tc) ∧ W1.cell? ⟨wr.heap.size, 6, none⟩ = some (.slice pa PL pc)) ⟨(unhide HKW).trans hkA (by simp), by simp; omega, hsz ▸ Blk.new W _ _, (hkA.cell (p := ⟨_, 3, none⟩) hlW (by simp)).trans d3, (hkA.cell (p := ⟨_, 4, none⟩) hlW (by simp)).trans d4, (hkA.cell (p := ⟨_, 5, none⟩) hlW (by simp)).trans d5, (hkA.cell (p := ⟨_, 6, none⟩) hlW (by simp)).trans d6⟩ ?_
      clear hkA
      rintro W1 ⟨hk1, hN1, hb1, p3, p4, p5, p6⟩
      clear d0 d1 d2 d3 d4 d5 d6 HKW hsz
      have HK1 := hide hk1
      have HB1 := hide hb1
      have v4 := hb1.cell 4
      have fz := hb1.frozen
      simp only [List.getElem?_toArray, List.getElem?_cons_succ, List.getElem?_cons_zero] at v4
      clear hk1 hb1
      go_wp2_with fail
      go_region
      have hkB : Kept [wr.heap.size + 1] W1 (W1.setCell ⟨wr.heap.size + 1, 4, none⟩ (.complex .f64 prr im)).drew := ((Kept.refl _ W1).setCell (p := ⟨wr.heap.size + 1, 4, none⟩) (Or.inl (by simp)) _).drew
      have hlW1 : wr.heap.size < W1.heap.size := by omega
      have hnF : wr.heap.size ∉ [wr.heap.size + 1] := by simp
      refine world_at (R := fun W2 => Kept [] wr W2 ∧ wr.heap.size + 1 < W2.heap.size ∧ Blk W2 (wr.heap.size + 1) #[.int .i64 kind, .bool bb, .int .i64 nn, .float .f64 prr, .complex .f64 prr im, .slice none 0 0, .slice none 0 0] 48 ∧ W2.cell? ⟨wr.heap.size, 5, none⟩ = some (.slice ta TL tc) ∧ W2.cell? ⟨wr.heap.size, 6, none⟩ = some (.slice pa PL pc)) ⟨(unhide HK1).trans hkB (fun x hx => Or.inr (by simp at hx; omega)), Nat.lt_of_lt_of_le hN1 hkB.size, (unhide HB1).set 4 _, (hkB.cell (p := ⟨_, 5, none⟩) hlW1 hnF).trans p5, (hkB.cell (p := ⟨_, 6, none⟩) hlW1 hnF).trans p6⟩ ?_
      clear hkB p3 p4 p5 p6 HB1 v4 fz
      rintro W2 ⟨hk2, hN2, hb2, p5, p6⟩
      clear HK1 hN1 hlW1
      have HK2 := hide hk2
      have HB2 := hide hb2
      have hb256 : ∀ x ∈ text, x < 256 := by obtain ⟨_, _, _, _, _, h, _⟩ := unhide HT; exact h
      have HLE := hide (lent_any ((unhide HT).kept hk2 (Or.inr (by simp))) (by rw [unhide HTL]; omega))
      rw [unhide HTL] at HLE
      have HOKH := hide hok
      have hcp : cnt p ≤ 262144 := by omega
      have HRB : Hid (∀ x, (Value.slice va vn vc).ownBlock = some x → w.heap.size ≤ x ∧ x < wr.heap.size) := fun x hx => (unhide HOW).1.lt x hx
      have hww := (unhide HK).size
      have HVN : Hid (vn ≤ 1099511627776) := by unfold Hid; omega
      clear hk2 hb2 hok hb256
      go_wp2_with (first
        | (go_at_call 29; refine (unhide HLE).mono ?_; rintro e w3 ⟨g, gc, rfl, hln, hk3⟩; have hb3 := (unhide HB2).kept hk3 (by simp); have v5 := (blk7 hb3).2.2.2.2.2.1; have f3 := blk7f hb3; have p6' := (hk3.cell (p := ⟨wr.heap.size, 6, none⟩) (show wr.heap.size < W2.heap.size by omega) (by simp)).trans p6; have hk3s : Kept [wr.heap.size + 1] w3 (w3.setCell ⟨wr.heap.size + 1, 5, none⟩ (.slice (some ⟨g, 0, none⟩) TL gc)) := (Kept.refl _ w3).setCell (p := ⟨wr.heap.size + 1, 5, none⟩) (Or.inl (by simp)) _; have hkr3 : Kept [] wr (w3.setCell ⟨wr.heap.size + 1, 5, none⟩ (.slice (some ⟨g, 0, none⟩) TL gc)) := ((unhide HK2).trans hk3 (by simp)).trans hk3s (fun x hx => Or.inr (by simp at hx; omega)); have HVC := hide (unhide HC1 _ _ ((unhide HP).kept hkr3) hcp); have HB3 : Hid (Blk (w3.setCell ⟨wr.heap.size + 1, 5, none⟩ (.slice (some ⟨g, 0, none⟩) TL gc)) (wr.heap.size + 1) #[.int .i64 kind, .bool bb, .int .i64 nn, .float .f64 prr, .complex .f64 prr im, .slice (some ⟨g, 0, none⟩) TL gc, .slice none 0 0] 48) := hb3.set 5 _; have HLN3 := hide hln; have HK3S := hide hk3s; have HKR3 := hide hkr3; have hs3 := hk3.size; rw [unhide HPL] at HVC; clear hb3 hk3 hk3s hkr3 hln HLE)
        | (go_at_call 11; refine (unhide HVC).mono ?_; rintro e w4 ⟨⟨qa, qc, rfl, hrv⟩, hk4⟩; have hb4 := (unhide HB3).kept hk4 (by simp); obtain ⟨z0, z1, z2, z3, z4, z5, z6⟩ := blk7 hb4; have f4 := blk7f hb4; have HRV := hide hrv; have HK4 := hide hk4; clear hb4 hrv hk4 HVC p5 p6 p6' v5 f3)
        | (at_builtin; have hvo := val_ok (h := ⟨kind, bb, nn, prr, prr, im, text⟩) (y := .slice qa PL qc) (o := .cells #[.int .i64 kind, .bool bb, .int .i64 nn, .float .f64 prr, .complex .f64 prr im, .slice (some ⟨g, 0, none⟩) TL gc, .slice qa PL qc] 48) (unhide HK) (unhide HOW) (unhide HRB) hN2 (unhide HLN3) hs3 (unhide HK3S) (unhide HKR3) (unhide HRV) (unhide HK4) (unhide HOKH) rfl; have hce := cells_seven_new (w4.setCell ⟨wr.heap.size + 1, 6, none⟩ (.slice qa PL qc)) (.int .i64 kind) (.bool bb) (.int .i64 nn) (.float .f64 prr) (.complex .f64 prr im) (.slice (some ⟨g, 0, none⟩) TL gc) (.slice qa PL qc) 48; rw [show (w4.setCell ⟨wr.heap.size + 1, 6, none⟩ (.slice qa PL qc)).heap.size = w4.heap.size by simp [World.setCell]] at hce; refine wpList_append_val (e := ⟨⟨kind, bb, nn, prr, prr, im, text⟩, .slice (some ⟨g, 0, none⟩) TL gc, .slice qa PL qc, p⟩) _ rfl _ _ rfl rfl (hide hvo.1) HLN rfl (hide hce) (by intro u hu; simp [cellsV] at hu; rcases hu with rfl | rfl | rfl | rfl | rfl | rfl | rfl <;> rfl) (hide hvo.2.1) HVN (hide hvo.2.2.2) ?_; have HVO := hide hvo.2.2.1; clear hvo hce))
      intro va' vc' w6 HO6 HK6'
      have HK6 : Hid (Kept [] w w6) := (unhide HVO).trans (unhide HK6') (fun x hx => Or.inr (unhide HRB x (by simpa using hx)).1)
      go_wp2
      refine ⟨⟨vn + 1, s, _, va', vn + 1, vc', by simp, rfl, by omega, rfl, ?_, ?_, by omega, unhide HC2, unhide HAT, unhide HO6, unhide HK6⟩, by simp [intOf]; omega⟩
      · rw [List.length_append, unhide HLN]; rfl
      · rw [rowE_app, Row.app_assoc]; exact unhide HRS
theorem values_any (r : Row) (w : World) (v : Value) (h : RowP w v r) (hc : cnt r ≤ 131072) : Calls Try.prog 11 #[v] w fun e w' => (∃ va cap, e = .returned (.slice va r.len cap) ∧ RowV (New w.heap.size) w' (.slice va r.len cap) r) ∧ Kept [] w w' :=
  values_any2 r w v h (by omega)
end Go.Proofs.Ytigmofbammofbab
