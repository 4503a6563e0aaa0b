/- The document's code of a row. -/
import Derived.Test.YtigmofbammofbaaKRefC
import Derived.Deep.DeepCutAuto
import Derived.Test.YtigmofbammofbaaKSort
namespace Go.Proofs.Ytigmofbammofbaa
open Go.RowKit

theorem LayS.then_new {B : Nat} {w w1 w2 : World} {v v1 v2 : Value} {bs1 bs2 : List Nat} (h : LayS B w v w1 v1 bs1) (k : LayS w1.heap.size w1 (.slice none 0 0) w2 v2 bs2) (_hB : B ≤ w.heap.size) : LayS B w v w2 v1 bs1 :=
  ⟨own_kept h.own k.kept (by simp [Value.ownBlock]), h.kept.trans k.kept (by simp [Value.ownBlock]), h.place⟩
theorem sees_of_own {w : World} {B : Nat} {v : Value} {bs : List Nat} (h : w.ownsRow B 5 1 v bs.length (u8s bs)) (hb : ∀ x ∈ bs, x < 256) : Sees w v bs := by
  exact Sees.of_own h hb

theorem xor_place {n : Int} (h1 : -9223372036854775808 ≤ n) (h2 : n ≤ 9223372036854775807) : bits .xor .u64 (IntKind.u64.wrap n) 9223372036854775808 = (placeI n : Int) := by
  have e1 : IntKind.u64.wrap n = (((n % 18446744073709551616).toNat : Nat) : Int) := by rw [IntKind.wrap_u64]; omega
  have e2 : bits .xor .u64 (((n % 18446744073709551616).toNat : Nat) : Int) 9223372036854775808 = (((n % 18446744073709551616).toNat ^^^ 9223372036854775808 : Nat) : Int) := u64_xor_nat (n % 18446744073709551616).toNat 9223372036854775808 (by omega) (by omega)
  have e3 : (n % 18446744073709551616).toNat ^^^ 9223372036854775808 = placeI n := by
    unfold placeI
    by_cases h : 0 ≤ n
    · rw [xor_top (by omega)]; omega
    · rw [xor_top2 (by omega) (by omega)]; omega
  rw [e3] at e2
  rw [e1, e2]
theorem AtP.okR {w : World} {r : Row} : ∀ {b off : Nat}, AtP w r b off → okR r := by
  induction r with
  | nil => intro b off _; trivial
  | cons x p r ihp ihr =>
    intro b off h
    rw [AtP_cons] at h
    obtain ⟨⟨h1, tv, pv, _, _, hp⟩, hr⟩ := h
    refine ⟨h1.1, ?_, ihr hr⟩
    obtain ⟨_, _, _, _, _, hp⟩ := hp
    rcases hp with rfl | ⟨b', off', _, _, hp⟩
    · trivial
    · exact ihp hp
theorem RowP.okR {r : Row} {w : World} {v : Value} (h : RowP w v r) : okR r := by
  obtain ⟨_, _, _, _, _, h⟩ := h
  rcases h with rfl | ⟨b', off', _, _, h⟩
  · trivial
  · exact h.okR

theorem esc_take_le (t : List Nat) (j : Nat) : (esc (t.take j)).length ≤ (esc t).length := by
  have h := congrArg (fun l => (esc l).length) (List.take_append_drop j t)
  simp only [esc_append, List.length_append] at h
  omega

def RCodeC (r : Row) : Prop := ∀ (w : World) (v : Value), RowP w v r → fine r → (codeR r).length ≤ 140737488355328 →
    Calls Try.prog 29 #[v] w fun e w' => ∃ a n cap, e = .returned (.slice a n cap) ∧ n = (codeR r).length ∧ LayS w.heap.size w (.slice none 0 0) w' (.slice a n cap) (codeR r)

set_option maxRecDepth 100000 in
set_option maxHeartbeats 8000000 in
theorem rcode_any (r : Row) : RCodeC r := by
  refine Row.parts_ind (fun r hC => ?_) r
  rintro w v ⟨a, cap, rfl, h1, h2, h3⟩ hfine hlen
  have hB : w.heap.size ≤ w.heap.size := Nat.le_refl _
  have hml : r.len ≤ 9223372036854775807 := by unfold maxLen at h2; omega
  have H3 := hide h3
  have HC := hide hC
  have HF := hide hfine
  have HLEN := hide hlen
  clear h3 hC hfine hlen
  generalize hL : r.len = L at *
  have HL := hide hL
  clear hL
  go_enter Try.func29, Try.ntmps29
  go_wp2_with fail
  go_loopw [3, 4] (fun p i wr => ∃ (k : Nat) (s : Row) (bs : List Nat) (a' : Option Addr) (n' cap' : Nat), i = .int .i64 k ∧ p = .slice a' n' cap' ∧ k + s.len = L ∧ codeR r = bs ++ codeR s ∧ bs.length = n' ∧ fine s ∧ PartsOk RCodeC s ∧ (s = .nil ∨ ∃ b off, a = some ⟨b, off, none⟩ ∧ b < w.heap.size ∧ AtP w s b (off + k * 7)) ∧ LayS w.heap.size w (.slice none 0 0) wr (.slice a' n' cap') bs) (fun _ i _ => L - (intOf i).toNat)
  case atStart => exact ⟨0, r, [], none, 0, 0, rfl, rfl, by rw [unhide HL]; omega, rfl, rfl, unhide HF, unhide HC, by
      rcases unhide H3 with h | ⟨b, off, q1, q2, q3⟩
      · exact Or.inl h
      · exact Or.inr ⟨b, off, q1, q2, by simpa using q3⟩, LayS.refl (own_none w)⟩
  case round =>
    obtain ⟨k, s, bs, a', n', cap', rfl, rfl, hk, hcd, hbl, hfs, hps, hat, hls⟩ := hrel
    have HLS := hide hls
    have HCD := hide hcd
    have HBL := hide hbl
    clear hls hcd hbl
    cases s with
    | nil =>
      simp only [Row.len, Nat.add_zero] at hk
      subst hk
      have t1 : ((k : Int) < (k : Int)) = False := by simp
      go_wp2
      go_ret
      refine ⟨a', n', cap', rfl, ?_, ?_⟩
      · rw [unhide HCD, List.length_append, unhide HBL]; rfl
      · rw [unhide HCD]; simpa [codeR] using unhide HLS
    | cons h p s =>
      simp only [Row.len] at hk
      obtain ⟨hC1, hC2⟩ := hps
      obtain ⟨hf1, hf2, hf3, hf4⟩ := hfs
      have HK : Hid (Kept [] w wr) := (unhide HLS).kept
      rcases hat with hat | ⟨b, off, hra, hb, hat⟩
      · cases hat
      subst hra
      rw [AtP_cons] at hat
      obtain ⟨⟨⟨hok, hpr⟩, tv, pv, hc, ht, hpv⟩, hrest⟩ := hat
      have hc' := hc.kept (unhide HK) hb
      obtain ⟨c0, c1, c2, c3, c4, c5, c6⟩ := hc'
      have HAT : Hid (s = .nil ∨ ∃ b' off', (some ⟨b, off, none⟩ : Option Addr) = some ⟨b', off', none⟩ ∧ b' < w.heap.size ∧ AtP w s b' (off' + (k + 1) * 7)) := Or.inr ⟨b, off, rfl, hb, by rw [show off + (k + 1) * 7 = off + k * 7 + 7 by omega]; exact hrest⟩
      have HEND := hide (fun (a2 : Option Addr) (n2 c2 : Nat) (w2 : World) (X : List Nat) (e1 : X = bs ++ (h.kind.toNat :: body h (codeR p))) (e2 : X.length = n2) (e3 : LayS w.heap.size w (.slice none 0 0) w2 (.slice a2 n2 c2) X) => (⟨k + 1, s, X, a2, n2, c2, by simp, rfl, by omega, by rw [unhide HCD, codeR_cons, e1, List.append_assoc], e2, hf4, hC2, unhide HAT, e3⟩ : ∃ (k' : Nat) (s : Row) (bs : List Nat) (a' : Option Addr) (n' cap' : Nat), Value.int .i64 ((k : Int) + 1) = .int .i64 k' ∧ Value.slice a2 n2 c2 = .slice a' n' cap' ∧ k' + s.len = L ∧ codeR r = bs ++ codeR s ∧ bs.length = n' ∧ fine s ∧ PartsOk RCodeC s ∧ (s = .nil ∨ ∃ b' off', (some ⟨b, off, none⟩ : Option Addr) = some ⟨b', off', none⟩ ∧ b' < w.heap.size ∧ AtP w s b' (off' + k' * 7)) ∧ LayS w.heap.size w (.slice none 0 0) w2 (.slice a' n' cap') bs))
      have HB47 : Hid (bs.length + (1 + (body h (codeR p)).length) ≤ 140737488355328) := by
        have := unhide HLEN
        rw [unhide HCD, codeR_cons] at this
        simp only [List.length_append, List.length_cons] at this
        unfold Hid
        omega
      have HC1 := hide hC1
      have HP0 := hide hpv
      have HT0 := hide ht
      have HOKR := hide hpv.okR
      have HF3 := hide hf3
      have HT := hide (ht.kept (unhide HK) (Or.inr (by simp)))
      have HP := hide (hpv.kept (unhide HK))
      obtain ⟨pa, pc, hpv1, -⟩ := hpv
      obtain ⟨ta, tc, htv1, -⟩ := ht
      clear hrest hC1 hC2 hc hf3 hf4
      subst hpv1 htv1
      obtain ⟨kind, bb, nn, re, prr, im, text⟩ := h
      simp only at *
      subst hpr
      generalize hTL : text.length = TL at *
      generalize hPL : p.len = PL at *
      have HTL := hide hTL
      have HPL := hide hPL
      clear hTL hPL
      have t1 : (k : Int) < (L : Int) := by omega
      go_upto_region 6 with fail
      have HOB : Hid (∀ x, (Value.slice a' n' cap').ownBlock = some x → x < wr.heap.size) := fun x hx => ((unhide HLS).own.lt x hx).2
      refine world_at (R := fun W => LayS w.heap.size w (.slice none 0 0) W (.slice a' n' cap') bs ∧ W.heap.size = wr.heap.size + 1 ∧ W.cell? ⟨wr.heap.size, 0, none⟩ = some (.int .i64 kind) ∧ W.cell? ⟨wr.heap.size, 1, none⟩ = some (.bool bb) ∧ W.cell? ⟨wr.heap.size, 2, none⟩ = some (.int .i64 nn) ∧ W.cell? ⟨wr.heap.size, 3, none⟩ = some (.int .u64 (prr : Int)) ∧ W.cell? ⟨wr.heap.size, 4, none⟩ = some (.int .u64 (im : Int)) ∧ W.cell? ⟨wr.heap.size, 5, none⟩ = some (.slice ta TL tc) ∧ W.cell? ⟨wr.heap.size, 6, none⟩ = some (.slice pa PL pc) ∧ Sees W (.slice ta TL tc) text ∧ RowP W (.slice pa PL pc) p) ⟨(unhide HLS).alloc _, by simp, (Blk.new wr #[.int .i64 kind, .bool bb, .int .i64 nn, .int .u64 (prr : Int), .int .u64 (im : Int), .slice ta TL tc, .slice pa PL pc] 62).cell 0, (Blk.new wr #[.int .i64 kind, .bool bb, .int .i64 nn, .int .u64 (prr : Int), .int .u64 (im : Int), .slice ta TL tc, .slice pa PL pc] 62).cell 1, (Blk.new wr #[.int .i64 kind, .bool bb, .int .i64 nn, .int .u64 (prr : Int), .int .u64 (im : Int), .slice ta TL tc, .slice pa PL pc] 62).cell 2, (Blk.new wr #[.int .i64 kind, .bool bb, .int .i64 nn, .int .u64 (prr : Int), .int .u64 (im : Int), .slice ta TL tc, .slice pa PL pc] 62).cell 3, (Blk.new wr #[.int .i64 kind, .bool bb, .int .i64 nn, .int .u64 (prr : Int), .int .u64 (im : Int), .slice ta TL tc, .slice pa PL pc] 62).cell 4, (Blk.new wr #[.int .i64 kind, .bool bb, .int .i64 nn, .int .u64 (prr : Int), .int .u64 (im : Int), .slice ta TL tc, .slice pa PL pc] 62).cell 5, (Blk.new wr #[.int .i64 kind, .bool bb, .int .i64 nn, .int .u64 (prr : Int), .int .u64 (im : Int), .slice ta TL tc, .slice pa PL pc] 62).cell 6, (unhide HT).kept (F := []) ((Kept.refl [] wr).alloc _) (Or.inr (by simp)), (unhide HP).kept ((Kept.refl [] wr).alloc _)⟩ ?_
      rintro W ⟨hlw, hsz, d0, d1, d2, d3, d4, d5, d6, htw, hpw⟩
      have HLW0 := hide hlw
      have hBW : w.heap.size ≤ W.heap.size := hlw.kept.size
      have HLW : Hid (LayS w.heap.size W (.slice a' n' cap') W (.slice a' n' cap') bs) := LayS.refl hlw.own
      have HTW := hide htw
      have HPW := hide hpw
      have HD : Hid (∀ (w2 : World) (v2 : Value) (X : List Nat), LayS w.heap.size W (.slice a' n' cap') w2 v2 X → w2.cell? ⟨wr.heap.size, 0, none⟩ = some (.int .i64 kind) ∧ w2.cell? ⟨wr.heap.size, 1, none⟩ = some (.bool bb) ∧ w2.cell? ⟨wr.heap.size, 2, none⟩ = some (.int .i64 nn) ∧ w2.cell? ⟨wr.heap.size, 3, none⟩ = some (.int .u64 (prr : Int)) ∧ w2.cell? ⟨wr.heap.size, 4, none⟩ = some (.int .u64 (im : Int)) ∧ w2.cell? ⟨wr.heap.size, 5, none⟩ = some (.slice ta TL tc) ∧ w2.cell? ⟨wr.heap.size, 6, none⟩ = some (.slice pa PL pc)) := by
        intro w2 v2 X h
        have hx : ∀ j c, W.cell? ⟨wr.heap.size, j, none⟩ = some c → w2.cell? ⟨wr.heap.size, j, none⟩ = some c := fun j c hc => (h.kept.cell (p := ⟨wr.heap.size, j, none⟩) (by rw [hsz]; exact Nat.lt_succ_self _) (fun hm => Nat.lt_irrefl _ (unhide HOB _ (by simpa using hm)))).trans hc
        exact ⟨hx 0 _ d0, hx 1 _ d1, hx 2 _ d2, hx 3 _ d3, hx 4 _ d4, hx 5 _ d5, hx 6 _ d6⟩
      clear hlw htw hpw hsz c0 c1 c2 c3 c4 c5 c6 d1 d2 d3 d4 d5 d6
      have HOK := hide hok
      clear hok
      have hkk : kind = 1 ∨ kind = 2 ∨ kind = 3 ∨ kind = 4 ∨ kind = 5 ∨ kind = 6 ∨ kind = 7 := by omega
      clear hf1 hf2
      rcases hkk with rfl | rfl | rfl | rfl | rfl | rfl | rfl
      · have HLA2 := hide ((unhide HLW).alloc (.cells #[.int .u8 1] 5))
        have HS2 : Hid (Sees (W.alloc (.cells #[.int .u8 1] 5)) (.slice (some ⟨W.heap.size, 0, none⟩) 1 1) [1]) := sees_one W 1 (by omega)
        obtain ⟨X2, hX2⟩ : ∃ X, bs ++ [1] = X := ⟨_, rfl⟩
        have HX2 := hide hX2
        have HX2l : Hid (X2.length = n' + 1) := (by unfold Hid; rw [← hX2, List.length_append, unhide HBL]; rfl)
        have HX2b : Hid (bs.length + [1].length ≤ 140737488355328) := (by have := unhide HB47; unfold Hid; simp; omega)
        clear hX2
        go_wp2_with (at_builtin; refine wpList_append_lay _ rfl _ _ rfl rfl HLA2 rfl HS2 HX2b ((unhide HLA2).hb hBW) (n' + 1) X2 HX2 HX2l ?_)
        intro a2 c2 w2 HL2
        obtain ⟨d0, d1, d2, d3, d4, d5, d6⟩ := unhide HD _ _ _ (unhide HL2)
        go_wp2
        exact ⟨unhide HEND a2 (n' + 1) c2 w2 X2 (by rw [← unhide HX2]; simp [body]) (unhide HX2l) ((unhide HLW0).trans (unhide HL2)), by simp [intOf]; omega⟩
      · have HLA2 := hide ((unhide HLW).alloc (.cells #[.int .u8 2] 5))
        have HS2 : Hid (Sees (W.alloc (.cells #[.int .u8 2] 5)) (.slice (some ⟨W.heap.size, 0, none⟩) 1 1) [2]) := sees_one W 2 (by omega)
        obtain ⟨X2, hX2⟩ : ∃ X, bs ++ [2] = X := ⟨_, rfl⟩
        have HX2 := hide hX2
        have HX2l : Hid (X2.length = n' + 1) := (by unfold Hid; rw [← hX2, List.length_append, unhide HBL]; rfl)
        have HX2b : Hid (bs.length + [2].length ≤ 140737488355328) := (by have := unhide HB47; unfold Hid; simp; omega)
        clear hX2
        go_wp2_with (at_builtin; refine wpList_append_lay _ rfl _ _ rfl rfl HLA2 rfl HS2 HX2b ((unhide HLA2).hb hBW) (n' + 1) X2 HX2 HX2l ?_)
        intro a2 c2 w2 HL2
        obtain ⟨d0, d1, d2, d3, d4, d5, d6⟩ := unhide HD _ _ _ (unhide HL2)
        have HBL2 := hide (unhide HX2l)
        clear HLA2 HS2 HX2b
        cases bb
        · have HLA3 := hide ((unhide HL2).alloc (.cells #[.int .u8 0] 5))
          have HS3 : Hid (Sees (w2.alloc (.cells #[.int .u8 0] 5)) (.slice (some ⟨w2.heap.size, 0, none⟩) 1 1) [0]) := sees_one w2 0 (by omega)
          obtain ⟨X3, hX3⟩ : ∃ X, X2 ++ [0] = X := ⟨_, rfl⟩
          have HX3 := hide hX3
          have HX3l : Hid (X3.length = (n' + 1) + 1) := (by unfold Hid; rw [← hX3, List.length_append, unhide HBL2]; rfl)
          have HX3b : Hid (X2.length + [0].length ≤ 140737488355328) := (by have := unhide HB47; have := unhide HX2l; have := unhide HBL; simp [body] at *; unfold Hid; omega)
          clear hX3
          go_wp2_with (at_builtin; refine wpList_append_lay _ rfl _ _ rfl rfl HLA3 rfl HS3 HX3b ((unhide HLA3).hb hBW) ((n' + 1) + 1) X3 HX3 HX3l ?_)
          intro a3 c3 w3 HL3
          obtain ⟨d0, d1, d2, d3, d4, d5, d6⟩ := unhide HD _ _ _ (unhide HL3)
          go_wp2
          exact ⟨unhide HEND a3 (n' + 1 + 1) c3 w3 X3 (by rw [← unhide HX3, ← unhide HX2]; simp [body, bitOf]) (unhide HX3l) ((unhide HLW0).trans (unhide HL3)), by simp [intOf]; omega⟩
        · have HLA3 := hide ((unhide HL2).alloc (.cells #[.int .u8 1] 5))
          have HS3 : Hid (Sees (w2.alloc (.cells #[.int .u8 1] 5)) (.slice (some ⟨w2.heap.size, 0, none⟩) 1 1) [1]) := sees_one w2 1 (by omega)
          obtain ⟨X3, hX3⟩ : ∃ X, X2 ++ [1] = X := ⟨_, rfl⟩
          have HX3 := hide hX3
          have HX3l : Hid (X3.length = (n' + 1) + 1) := (by unfold Hid; rw [← hX3, List.length_append, unhide HBL2]; rfl)
          have HX3b : Hid (X2.length + [1].length ≤ 140737488355328) := (by have := unhide HB47; have := unhide HX2l; have := unhide HBL; simp [body] at *; unfold Hid; omega)
          clear hX3
          go_wp2_with (at_builtin; refine wpList_append_lay _ rfl _ _ rfl rfl HLA3 rfl HS3 HX3b ((unhide HLA3).hb hBW) ((n' + 1) + 1) X3 HX3 HX3l ?_)
          intro a3 c3 w3 HL3
          obtain ⟨d0, d1, d2, d3, d4, d5, d6⟩ := unhide HD _ _ _ (unhide HL3)
          go_wp2
          exact ⟨unhide HEND a3 (n' + 1 + 1) c3 w3 X3 (by rw [← unhide HX3, ← unhide HX2]; simp [body, bitOf]) (unhide HX3l) ((unhide HLW0).trans (unhide HL3)), by simp [intOf]; omega⟩
      · have HLA2 := hide ((unhide HLW).alloc (.cells #[.int .u8 3] 5))
        have HS2 : Hid (Sees (W.alloc (.cells #[.int .u8 3] 5)) (.slice (some ⟨W.heap.size, 0, none⟩) 1 1) [3]) := sees_one W 3 (by omega)
        obtain ⟨X2, hX2⟩ : ∃ X, bs ++ [3] = X := ⟨_, rfl⟩
        have HX2 := hide hX2
        have HX2l : Hid (X2.length = n' + 1) := (by unfold Hid; rw [← hX2, List.length_append, unhide HBL]; rfl)
        have HX2b : Hid (bs.length + [3].length ≤ 140737488355328) := (by have := unhide HB47; unfold Hid; simp; omega)
        clear hX2
        go_wp2_with (at_builtin; refine wpList_append_lay _ rfl _ _ rfl rfl HLA2 rfl HS2 HX2b ((unhide HLA2).hb hBW) (n' + 1) X2 HX2 HX2l ?_)
        intro a2 c2 w2 HL2
        obtain ⟨d0, d1, d2, d3, d4, d5, d6⟩ := unhide HD _ _ _ (unhide HL2)
        have HBL2 := hide (unhide HX2l)
        clear HLA2 HS2 HX2b
        have HXP := hide (xor_place (unhide HOK).2.2.1 (unhide HOK).2.2.2.1)
        have HE3 := hide (eight_any (placeI nn) w2)
        obtain ⟨X3, hX3⟩ : ∃ X, X2 ++ be8 (placeI nn) = X := ⟨_, rfl⟩
        have HX3 := hide hX3
        have HX3l : Hid (X3.length = (n' + 1) + 8) := (by unfold Hid; rw [← hX3, List.length_append, be8_length, unhide HBL2])
        have HX3b : Hid (X2.length + (be8 (placeI nn)).length ≤ 140737488355328) := (by have := unhide HB47; have := unhide HX2l; have := unhide HBL; simp [body, be8_length] at *; unfold Hid; omega)
        clear hX3
        go_wp2_with (first
          | fail
          | (go_at_call 38; rw [unhide HXP]; refine (unhide HE3).mono ?_; rintro e w3' ⟨a3', c3', rfl, hl3⟩; have HLA3 := hide ((unhide HL2).then_new hl3 hBW); have HS3 := hide (sees_of_own hl3.own (be8_lt _)); clear hl3 HE3)
          | (at_builtin; refine wpList_append_lay _ rfl _ _ rfl rfl HLA3 rfl HS3 HX3b ((unhide HLA3).hb hBW) ((n' + 1) + 8) X3 HX3 HX3l ?_))
        intro a3 c3 w3 HL3
        obtain ⟨d0, d1, d2, d3, d4, d5, d6⟩ := unhide HD _ _ _ (unhide HL3)
        go_wp2
        exact ⟨unhide HEND a3 (n' + 1 + 8) c3 w3 X3 (by rw [← unhide HX3, ← unhide HX2]; simp [body]) (unhide HX3l) ((unhide HLW0).trans (unhide HL3)), by simp [intOf]; omega⟩
      · have HLA2 := hide ((unhide HLW).alloc (.cells #[.int .u8 4] 5))
        have HS2 : Hid (Sees (W.alloc (.cells #[.int .u8 4] 5)) (.slice (some ⟨W.heap.size, 0, none⟩) 1 1) [4]) := sees_one W 4 (by omega)
        obtain ⟨X2, hX2⟩ : ∃ X, bs ++ [4] = X := ⟨_, rfl⟩
        have HX2 := hide hX2
        have HX2l : Hid (X2.length = n' + 1) := (by unfold Hid; rw [← hX2, List.length_append, unhide HBL]; rfl)
        have HX2b : Hid (bs.length + [4].length ≤ 140737488355328) := (by have := unhide HB47; unfold Hid; simp; omega)
        clear hX2
        go_wp2_with (at_builtin; refine wpList_append_lay _ rfl _ _ rfl rfl HLA2 rfl HS2 HX2b ((unhide HLA2).hb hBW) (n' + 1) X2 HX2 HX2l ?_)
        intro a2 c2 w2 HL2
        obtain ⟨d0, d1, d2, d3, d4, d5, d6⟩ := unhide HD _ _ _ (unhide HL2)
        have HBL2 := hide (unhide HX2l)
        clear HLA2 HS2 HX2b
        have HE3 := hide (eight_any (placeR prr) w2)
        obtain ⟨X3, hX3⟩ : ∃ X, X2 ++ be8 (placeR prr) = X := ⟨_, rfl⟩
        have HX3 := hide hX3
        have HX3l : Hid (X3.length = (n' + 1) + 8) := (by unfold Hid; rw [← hX3, List.length_append, be8_length, unhide HBL2])
        have HX3b : Hid (X2.length + (be8 (placeR prr)).length ≤ 140737488355328) := (by have := unhide HB47; have := unhide HX2l; have := unhide HBL; simp [body, be8_length] at *; unfold Hid; omega)
        clear hX3
        go_wp2_with (first
          | (go_at_call 39; refine (rturned_any prr (unhide HOK).2.2.2.2.1 w2).mono ?_; rintro e w' ⟨rfl, hq⟩; have hq' := hq.symm; subst hq')
          | (go_at_call 38; refine (unhide HE3).mono ?_; rintro e w3' ⟨a3', c3', rfl, hl3⟩; have HLA3 := hide ((unhide HL2).then_new hl3 hBW); have HS3 := hide (sees_of_own hl3.own (be8_lt _)); clear hl3 HE3)
          | (at_builtin; refine wpList_append_lay _ rfl _ _ rfl rfl HLA3 rfl HS3 HX3b ((unhide HLA3).hb hBW) ((n' + 1) + 8) X3 HX3 HX3l ?_))
        intro a3 c3 w3 HL3
        obtain ⟨d0, d1, d2, d3, d4, d5, d6⟩ := unhide HD _ _ _ (unhide HL3)
        go_wp2
        exact ⟨unhide HEND a3 (n' + 1 + 8) c3 w3 X3 (by rw [← unhide HX3, ← unhide HX2]; simp [body]) (unhide HX3l) ((unhide HLW0).trans (unhide HL3)), by simp [intOf]; omega⟩
      · have HLA2 := hide ((unhide HLW).alloc (.cells #[.int .u8 5] 5))
        have HS2 : Hid (Sees (W.alloc (.cells #[.int .u8 5] 5)) (.slice (some ⟨W.heap.size, 0, none⟩) 1 1) [5]) := sees_one W 5 (by omega)
        obtain ⟨X2, hX2⟩ : ∃ X, bs ++ [5] = X := ⟨_, rfl⟩
        have HX2 := hide hX2
        have HX2l : Hid (X2.length = n' + 1) := (by unfold Hid; rw [← hX2, List.length_append, unhide HBL]; rfl)
        have HX2b : Hid (bs.length + [5].length ≤ 140737488355328) := (by have := unhide HB47; unfold Hid; simp; omega)
        clear hX2
        go_wp2_with (at_builtin; refine wpList_append_lay _ rfl _ _ rfl rfl HLA2 rfl HS2 HX2b ((unhide HLA2).hb hBW) (n' + 1) X2 HX2 HX2l ?_)
        intro a2 c2 w2 HL2
        obtain ⟨d0, d1, d2, d3, d4, d5, d6⟩ := unhide HD _ _ _ (unhide HL2)
        have HBL2 := hide (unhide HX2l)
        clear HLA2 HS2 HX2b
        have HE3 := hide (eight_any (placeR prr) w2)
        obtain ⟨X3, hX3⟩ : ∃ X, X2 ++ be8 (placeR prr) = X := ⟨_, rfl⟩
        have HX3 := hide hX3
        have HX3l : Hid (X3.length = (n' + 1) + 8) := (by unfold Hid; rw [← hX3, List.length_append, be8_length, unhide HBL2])
        have HX3b : Hid (X2.length + (be8 (placeR prr)).length ≤ 140737488355328) := (by have := unhide HB47; have := unhide HX2l; have := unhide HBL; simp [body, be8_length] at *; unfold Hid; omega)
        clear hX3
        go_wp2_with (first
          | (go_at_call 39; refine (rturned_any prr (unhide HOK).2.2.2.2.1 w2).mono ?_; rintro e w' ⟨rfl, hq⟩; have hq' := hq.symm; subst hq')
          | (go_at_call 38; refine (unhide HE3).mono ?_; rintro e w3' ⟨a3', c3', rfl, hl3⟩; have HLA3 := hide ((unhide HL2).then_new hl3 hBW); have HS3 := hide (sees_of_own hl3.own (be8_lt _)); clear hl3 HE3)
          | (at_builtin; refine wpList_append_lay _ rfl _ _ rfl rfl HLA3 rfl HS3 HX3b ((unhide HLA3).hb hBW) ((n' + 1) + 8) X3 HX3 HX3l ?_))
        intro a3 c3 w3 HL3
        obtain ⟨d0, d1, d2, d3, d4, d5, d6⟩ := unhide HD _ _ _ (unhide HL3)
        have HBL3 := hide (unhide HX3l)
        clear HLA3 HS3 HX3b
        have HE4 := hide (eight_any (placeR im) w3)
        obtain ⟨X4, hX4⟩ : ∃ X, X3 ++ be8 (placeR im) = X := ⟨_, rfl⟩
        have HX4 := hide hX4
        have HX4l : Hid (X4.length = (n' + 1 + 8) + 8) := (by unfold Hid; rw [← hX4, List.length_append, be8_length, unhide HBL3])
        have HX4b : Hid (X3.length + (be8 (placeR im)).length ≤ 140737488355328) := (by have := unhide HB47; have := unhide HX3l; have := unhide HBL; simp [body, be8_length] at *; unfold Hid; omega)
        clear hX4
        go_wp2_with (first
          | (go_at_call 39; refine (rturned_any im (unhide HOK).2.2.2.2.2.2.1 w3).mono ?_; rintro e w' ⟨rfl, hq⟩; have hq' := hq.symm; subst hq')
          | (go_at_call 38; refine (unhide HE4).mono ?_; rintro e w4' ⟨a4', c4', rfl, hl4⟩; have HLA4 := hide ((unhide HL3).then_new hl4 hBW); have HS4 := hide (sees_of_own hl4.own (be8_lt _)); clear hl4 HE4)
          | (at_builtin; refine wpList_append_lay _ rfl _ _ rfl rfl HLA4 rfl HS4 HX4b ((unhide HLA4).hb hBW) ((n' + 1 + 8) + 8) X4 HX4 HX4l ?_))
        intro a4 c4 w4 HL4
        obtain ⟨d0, d1, d2, d3, d4, d5, d6⟩ := unhide HD _ _ _ (unhide HL4)
        go_wp2
        exact ⟨unhide HEND a4 (n' + 1 + 8 + 8) c4 w4 X4 (by rw [← unhide HX4, ← unhide HX3, ← unhide HX2]; simp [body]) (unhide HX4l) ((unhide HLW0).trans (unhide HL4)), by simp [intOf]; omega⟩
      · have HLA2 := hide ((unhide HLW).alloc (.cells #[.int .u8 6] 5))
        have HS2 : Hid (Sees (W.alloc (.cells #[.int .u8 6] 5)) (.slice (some ⟨W.heap.size, 0, none⟩) 1 1) [6]) := sees_one W 6 (by omega)
        obtain ⟨X2, hX2⟩ : ∃ X, bs ++ [6] = X := ⟨_, rfl⟩
        have HX2 := hide hX2
        have HX2l : Hid (X2.length = n' + 1) := (by unfold Hid; rw [← hX2, List.length_append, unhide HBL]; rfl)
        have HX2b : Hid (bs.length + [6].length ≤ 140737488355328) := (by have := unhide HB47; unfold Hid; simp; omega)
        clear hX2
        go_wp2_with (at_builtin; refine wpList_append_lay _ rfl _ _ rfl rfl HLA2 rfl HS2 HX2b ((unhide HLA2).hb hBW) (n' + 1) X2 HX2 HX2l ?_)
        intro a2 c2 w2 HL2
        obtain ⟨d0, d1, d2, d3, d4, d5, d6⟩ := unhide HD _ _ _ (unhide HL2)
        have HBL2 := hide (unhide HX2l)
        clear HLA2 HS2 HX2b
        have hEL : n' + 1 + (esc text).length + 1 ≤ 140737488355328 := (by have := unhide HB47; have := unhide HBL; simp [body] at *; omega)
        have HEL := hide hEL
        clear hEL
        go_wp2_with fail
        go_loopw [3, 6] (fun p i wr => ∃ (j : Nat) (a'' : Option Addr) (m'' cap'' : Nat), j ≤ TL ∧ i = .int .i64 j ∧ p = .slice a'' m'' cap'' ∧ (X2 ++ esc (text.take j)).length = m'' ∧ LayS w.heap.size W (.slice a' n' cap') wr (.slice a'' m'' cap'') (X2 ++ esc (text.take j))) (fun _ i _ => TL - (intOf i).toNat)
        case atStart => exact ⟨0, a2, n' + 1, c2, by omega, rfl, rfl, by simp [esc]; exact unhide HX2l, by simpa [esc] using unhide HL2⟩
        case round =>
          obtain ⟨j, a5, m5, cap5, hj, rfl, rfl, hm5, hl5⟩ := hrel
          have HL5 := hide hl5
          have HM5 := hide hm5
          clear d0 d1 d2 d3 d4 d5 d6
          obtain ⟨d0, d1, d2, d3, d4, d5, d6⟩ := unhide HD _ _ _ hl5
          clear hl5
          by_cases hjl : j < TL
          · have hs5 := (unhide HT0).kept ((unhide HLW0).trans (unhide HL5)).kept (Or.inr (by simp [Value.ownBlock]))
            obtain ⟨ta', tc', hv, g1, g2, h3', h4⟩ := hs5
            have hTLm : TL ≤ 9223372036854775807 := by rw [unhide HTL] at g1; unfold maxLen at g2; omega
            clear g1 g2
            have hv1 : ta' = ta := by cases hv; rfl
            subst hv1
            have hx := getD_lt h3' (show j < text.length by rw [unhide HTL]; exact hjl)
            obtain ⟨tb, tz, hpa, hc⟩ := at_sees (k := j) (unhide HTL) h4 hjl
            subst hpa
            clear hv h4 h3'
            have HE : Hid (esc (text.take (j + 1)) = esc (text.take j) ++ esc [text.getD j 0]) := by
              unfold Hid
              rw [← esc_append, List.take_add_one, List.getD, List.getElem?_eq_getElem (show j < text.length by rw [unhide HTL]; exact hjl)]; rfl
            have HLE := hide (esc_take_le text (j + 1))
            have HTC2 : Hid (∀ (w6 : World) (v6 : Value) (X6 : List Nat), LayS w.heap.size W (.slice a' n' cap') w6 v6 X6 → w6.cell? ⟨tb, tz + j, none⟩ = some (.int .u8 (text.getD j 0 : Nat))) := by
              intro w6 v6 X6 h6
              have hs6 := (unhide HT0).kept ((unhide HLW0).trans h6).kept (Or.inr (by simp [Value.ownBlock]))
              obtain ⟨ta', tc', hv, -, -, h3', h4⟩ := hs6
              obtain ⟨b7, o7, e7, h7⟩ := at_sees (k := j) (unhide HTL) h4 hjl
              have : ta' = some ⟨tb, tz, none⟩ := by cases hv; rfl
              rw [this] at e7
              cases e7
              exact h7
            generalize text.getD j 0 = x at *
            have HLA := hide ((unhide HL5).alloc (.cells #[.int .u8 (x : Int)] 5))
            have HS1 := hide (sees_one wr x hx)
            have hlx : (esc [x]).length = if x = 0 then 2 else 1 := by unfold esc; split <;> rfl
            have HY0 : Hid (m5 + (esc [x]).length ≤ 140737488355327) := by
              have q1 := unhide HLE
              have q2 := unhide HEL
              have q3 := unhide HX2l
              rw [unhide HE, List.length_append] at q1
              rw [List.length_append] at hm5
              unfold Hid
              omega
            clear hm5
            have HY1 : Hid ((X2 ++ esc (text.take j)).length + [x].length ≤ 140737488355328) := by
              have q := unhide HY0
              unfold Hid; rw [unhide HM5]; rw [hlx] at q; simp; split at q <;> omega
            have HY2 : Hid ((X2 ++ esc (text.take j) ++ [x]).length = m5 + 1) := by unfold Hid; rw [List.length_append, unhide HM5]; rfl
            have t1 : (j : Int) < (TL : Int) := by omega
            by_cases hx0 : x = 0
            · have hE2 : X2 ++ esc (text.take j) ++ [x] ++ [255] = X2 ++ esc (text.take (j + 1)) := by rw [unhide HE, hx0]; simp [esc]
              have HE2 := hide hE2
              have HZ3 : Hid ((X2 ++ esc (text.take (j + 1))).length = m5 + 2) := by unfold Hid; rw [← hE2, List.length_append, unhide HY2]; rfl
              have HY3 : Hid ((X2 ++ esc (text.take j) ++ [x]).length + [255].length ≤ 140737488355328) := by
                have q := unhide HY0
                unfold Hid; rw [unhide HY2]; rw [hlx, if_pos hx0] at q; simp; omega
              have t2 : ((x : Int) == 0) = true := by rw [hx0]; rfl
              clear hE2 hx0 hlx
              obtain ⟨X1, hX1⟩ : ∃ X1, X2 ++ esc (text.take j) ++ [x] = X1 := ⟨_, rfl⟩
              have HX1 := hide hX1
              rw [hX1] at HE2 HY3 HY2
              clear hX1
              go_wp2_with (at_builtin; refine wpList_append_lay _ rfl _ _ rfl rfl HLA rfl HS1 HY1 ((unhide HLA).hb hBW) (m5 + 1) X1 HX1 HY2 ?_)
              intro a6 c6 w6 HL6
              clear d0 d1 d2 d3 d4 d5 d6 hc
              obtain ⟨d0, d1, d2, d3, d4, d5, d6⟩ := unhide HD _ _ _ (unhide HL6)
              have hc := unhide HTC2 _ _ _ (unhide HL6)
              have HLA2 := hide ((unhide HL6).alloc (.cells #[.int .u8 255] 5))
              have HS2 : Hid (Sees (w6.alloc (.cells #[.int .u8 255] 5)) (.slice (some ⟨w6.heap.size, 0, none⟩) 1 1) [255]) := sees_one w6 255 (by omega)
              go_wp2_with (at_builtin; refine wpList_append_lay _ rfl _ _ rfl rfl HLA2 rfl HS2 HY3 ((unhide HLA2).hb hBW) (m5 + 2) _ HE2 HZ3 ?_)
              intro a7 c7 w7 HL7
              go_wp2
              exact ⟨⟨j + 1, a7, m5 + 2, c7, by omega, by simp, rfl, unhide HZ3, unhide HL7⟩, by simp [intOf]; omega⟩
            · have hE2 : X2 ++ esc (text.take j) ++ [x] = X2 ++ esc (text.take (j + 1)) := by rw [unhide HE]; simp [esc, hx0]
              have HE2 := hide hE2
              rw [hE2] at HY2
              have t2 : ((x : Int) == 0) = false := by simp; omega
              clear hE2 hlx
              go_wp2_with (at_builtin; refine wpList_append_lay _ rfl _ _ rfl rfl HLA rfl HS1 HY1 ((unhide HLA).hb hBW) (m5 + 1) _ HE2 HY2 ?_)
              intro a6 c6 w6 HL6
              clear d0 d1 d2 d3 d4 d5 d6 hc
              obtain ⟨d0, d1, d2, d3, d4, d5, d6⟩ := unhide HD _ _ _ (unhide HL6)
              have hc := unhide HTC2 _ _ _ (unhide HL6)
              go_wp2
              exact ⟨⟨j + 1, a6, m5 + 1, c6, by omega, by simp, rfl, unhide HY2, unhide HL6⟩, by simp [intOf]; omega⟩
          · obtain rfl : j = TL := by omega
            have hfull : text.take j = text := by rw [← unhide HTL, List.take_length]
            rw [hfull] at HL5 HM5 hm5
            have t1 : ((j : Int) < (j : Int)) = False := by simp
            have HLA := hide ((unhide HL5).alloc (.cells #[.int .u8 0] 5))
            have HS1 : Hid (Sees (wr.alloc (.cells #[.int .u8 0] 5)) (.slice (some ⟨wr.heap.size, 0, none⟩) 1 1) [0]) := sees_one wr 0 (by omega)
            have HY1 : Hid ((X2 ++ esc text).length + [0].length ≤ 140737488355328) := by
              have q2 := unhide HEL
              have q3 := unhide HX2l
              unfold Hid; rw [List.length_append]; simp; omega
            clear hm5
            obtain ⟨X6, hX6⟩ : ∃ X, X2 ++ esc text ++ [0] = X := ⟨_, rfl⟩
            have HX6 := hide hX6
            have HX6l : Hid (X6.length = m5 + 1) := by unfold Hid; rw [← hX6, List.length_append, unhide HM5]; rfl
            clear hX6
            go_wp2_with (at_builtin; refine wpList_append_lay _ rfl _ _ rfl rfl HLA rfl HS1 HY1 ((unhide HLA).hb hBW) (m5 + 1) X6 HX6 HX6l ?_)
            intro a6 c6 w6 HL6
            go_wp2
            exact ⟨unhide HEND a6 (m5 + 1) c6 w6 X6 (by rw [← unhide HX6, ← unhide HX2]; simp [body]) (unhide HX6l) ((unhide HLW0).trans (unhide HL6)), by simp [intOf]; omega⟩
      · have HLA2 := hide ((unhide HLW).alloc (.cells #[.int .u8 7] 5))
        have HS2 : Hid (Sees (W.alloc (.cells #[.int .u8 7] 5)) (.slice (some ⟨W.heap.size, 0, none⟩) 1 1) [7]) := sees_one W 7 (by omega)
        obtain ⟨X2, hX2⟩ : ∃ X, bs ++ [7] = X := ⟨_, rfl⟩
        have HX2 := hide hX2
        have HX2l : Hid (X2.length = n' + 1) := (by unfold Hid; rw [← hX2, List.length_append, unhide HBL]; rfl)
        have HX2b : Hid (bs.length + [7].length ≤ 140737488355328) := (by have := unhide HB47; unfold Hid; simp; omega)
        clear hX2
        go_wp2_with (at_builtin; refine wpList_append_lay _ rfl _ _ rfl rfl HLA2 rfl HS2 HX2b ((unhide HLA2).hb hBW) (n' + 1) X2 HX2 HX2l ?_)
        intro a2 c2 w2 HL2
        obtain ⟨d0, d1, d2, d3, d4, d5, d6⟩ := unhide HD _ _ _ (unhide HL2)
        have HBL2 := hide (unhide HX2l)
        clear HLA2 HS2 HX2b
        have hbp : (codeR p).length ≤ 140737488355328 := (by have := unhide HB47; simp [body] at this; omega)
        have HE3 := hide (unhide HC1 w2 (.slice pa PL pc) ((unhide HP0).kept ((unhide HLW0).trans (unhide HL2)).kept) (unhide HF3 (by simp)) hbp)
        have HLT := hide (code_lt (unhide HOKR) (unhide HF3 (by simp)))
        obtain ⟨X3, hX3⟩ : ∃ X, X2 ++ codeR p = X := ⟨_, rfl⟩
        have HX3 := hide hX3
        obtain ⟨CL, hCL⟩ : ∃ n, (codeR p).length = n := ⟨_, rfl⟩
        have HCL := hide hCL
        have HX3l : Hid (X3.length = n' + 1 + CL) := (by unfold Hid; rw [← hX3, List.length_append, unhide HBL2, hCL])
        have HX3b : Hid (X2.length + (codeR p).length ≤ 140737488355328) := (by have := unhide HB47; have := unhide HX2l; have := unhide HBL; simp [body] at *; unfold Hid; omega)
        clear hX3 hbp hCL
        go_wp2_with (first
          | (go_at_call 29; refine (unhide HE3).mono ?_; rintro e w3' ⟨a3', n3', c3', rfl, hn3, hl3⟩; rw [unhide HCL] at hn3; have hn3' := hn3.symm; clear hn3; subst hn3'; have HLA3 := hide ((unhide HL2).then_new hl3 hBW); have HS3 := hide (sees_of_own hl3.own (unhide HLT)); clear hl3 HE3)
          | (at_builtin; refine wpList_append_lay _ rfl _ _ rfl rfl HLA3 rfl HS3 HX3b ((unhide HLA3).hb hBW) (n' + 1 + CL) X3 HX3 HX3l ?_))
        intro a3 c3 w3 HL3
        obtain ⟨d0, d1, d2, d3, d4, d5, d6⟩ := unhide HD _ _ _ (unhide HL3)
        have HBL3 := hide (unhide HX3l)
        clear HLA3 HS3 HX3b
        have HLA4 := hide ((unhide HL3).alloc (.cells #[.int .u8 0] 5))
        have HS4 : Hid (Sees (w3.alloc (.cells #[.int .u8 0] 5)) (.slice (some ⟨w3.heap.size, 0, none⟩) 1 1) [0]) := sees_one w3 0 (by omega)
        obtain ⟨X4, hX4⟩ : ∃ X, X3 ++ [0] = X := ⟨_, rfl⟩
        have HX4 := hide hX4
        have HX4l : Hid (X4.length = (n' + 1 + CL) + 1) := (by unfold Hid; rw [← hX4, List.length_append, unhide HBL3]; rfl)
        have HX4b : Hid (X3.length + [0].length ≤ 140737488355328) := (by have := unhide HB47; have := unhide HX3l; have := unhide HBL; have := unhide HCL; simp [body] at *; unfold Hid; omega)
        clear hX4
        go_wp2_with (at_builtin; refine wpList_append_lay _ rfl _ _ rfl rfl HLA4 rfl HS4 HX4b ((unhide HLA4).hb hBW) ((n' + 1 + CL) + 1) X4 HX4 HX4l ?_)
        intro a4 c4 w4 HL4
        obtain ⟨d0, d1, d2, d3, d4, d5, d6⟩ := unhide HD _ _ _ (unhide HL4)
        go_wp2
        exact ⟨unhide HEND a4 (n' + 1 + CL + 1) c4 w4 X4 (by rw [← unhide HX4, ← unhide HX3, ← unhide HX2]; simp [body]) (unhide HX4l) ((unhide HLW0).trans (unhide HL4)), by simp [intOf]; omega⟩
end Go.Proofs.Ytigmofbammofbaa
