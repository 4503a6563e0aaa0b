/- TableMade: the walk. -/
import Derived.Test.YtkejpbfbpomjfabCRdRZ
import Derived.Test.YtkejpbfbpomjfabCMadPZ
import Derived.Test.YtkejpbfbpomjfabCSrwZ
import Derived.Deep.RegionHeld3
namespace Go.Proofs.Ytkejpbfbpomjfab.tre
open Go.RowKit
set_option linter.unusedVariables false

theorem made8 (n : Nat) : madeCells #[.int .u8 0] n = Array.replicate n (.int .u8 0) := by
  apply Array.ext_getElem?
  intro i
  by_cases hi : i < n
  · simp [madeCells, hi, Nat.mod_one]
  · rw [Array.getElem?_eq_none (by rw [size_madeCells]; omega), Array.getElem?_eq_none (by simp; omega)]
theorem sees_zero8 (w : World) (n : Nat) (hn : n ≤ 1000) : Sees (w.alloc (.cells (Array.replicate n (.int .u8 0)) 5)) (.slice (some ⟨w.heap.size, 0, none⟩) n n) (List.replicate n 0) := by
  refine Or.inr ⟨w.heap.size, 0, n, by simp, by simp, by unfold maxLen; omega, by simp, fun j hj => ?_⟩
  rw [(Blk.new w _ _).cell]
  simp at hj
  simp [hj]
theorem wpList_make8 (w : World) {ops : Array Oper} {rest : List Oper} {o : Oper} {a : Act} {Q : Exit → Act → World → Prop} (hg : o.guard = none) (l c : Operand) (hop : o.op = Op.makeSlice 22 l c) (n : Nat) (hn : n ≤ 1000)
    (hl : a.eval l = .int .i64 (n : Int)) (hc : a.eval c = .int .i64 (n : Int))
    (hK : wpList Try.prog ops Q rest (a.put o.dst (.slice (some ⟨w.heap.size, 0, none⟩) n n)) (w.alloc (.cells (Array.replicate n (.int .u8 0)) 5))) : wpList Try.prog ops Q (o :: rest) a w := by
  obtain ⟨i0, hi, hz0, hz1, hz2⟩ := info_parts Try.info5
  refine wpList_plain hg fun K hK' => ?_
  have hr := run_make (P := Try.prog) w 22 5 i0 _ Try.underlying22 hi hz0 .i64 .i64 n n (by omega) (by omega) (by rw [hz2]; omega) (by omega)
  simp only [Int.toNat_natCast, hz1, Nat.mul_one] at hr
  rw [show (Value.int .u8 0).cells = #[.int .u8 0] from rfl, made8] at hr
  unfold Oper.wp
  simp [execOp, hop, hl, hc, hr, Result.andThen]
  exact hK' _ _ hK
theorem sees_take {w : World} {b off n cap : Nat} {bs : List Nat} (h : Sees w (.slice (some ⟨b, off, none⟩) n cap) bs) {k : Nat} (hk : k ≤ n) : Sees w (.slice (some ⟨b, off, none⟩) k cap) (bs.take k) := by
  rcases h with ⟨h, -⟩ | ⟨b', off', cap', h, h1, h2, h3, h4⟩
  · cases h
  · cases h
    have hl : (bs.take k).length = k := by rw [List.length_take]; omega
    refine Or.inr ⟨b, off, cap, by rw [hl], by omega, h2, h3, fun j hj => ?_⟩
    rw [hl] at hj
    rw [h4 j (by omega), List.getD_eq_getElem?_getD, List.getD_eq_getElem?_getD, List.getElem?_take_of_lt hj]
theorem sees_n {w : World} {base : Nat} {a : Option Addr} {n cap : Nat} {bs : List Nat} (hn : bs.length = n) (h : w.ownsRow base 5 1 (.slice a n cap) n (u8s bs)) : Sees w (.slice a n cap) bs := by
  subst hn
  exact Sees.of_own h
theorem lit9 (w : World) : Sees (w.alloc (.cells #[.int .u8 1, .int .u8 2, .int .u8 3, .int .u8 4, .int .u8 5, .int .u8 6, .int .u8 7, .int .u8 8, .int .u8 9] 5)) (.slice (some ⟨w.heap.size, 0, none⟩) 9 9) [1, 2, 3, 4, 5, 6, 7, 8, 9] := by
  refine Or.inr ⟨w.heap.size, 0, 9, rfl, by simp, by simp [maxLen], by simp, fun j hj => ?_⟩
  have hb := (Blk.new w #[.int .u8 1, .int .u8 2, .int .u8 3, .int .u8 4, .int .u8 5, .int .u8 6, .int .u8 7, .int .u8 8, .int .u8 9] 5).cell j
  rw [Nat.zero_add, hb]
  simp only [List.length_cons, List.length_nil] at hj
  rcases (by omega : j = 0 ∨ j = 1 ∨ j = 2 ∨ j = 3 ∨ j = 4 ∨ j = 5 ∨ j = 6 ∨ j = 7 ∨ j = 8) with rfl | rfl | rfl | rfl | rfl | rfl | rfl | rfl | rfl <;> rfl
theorem op_turn {w6 X : World} {n bu : Nat} {V : Tb} {c0 c1 c2 c3 : Value} (hb : Blk X n #[c0, c1, c2, c3] 36) (ht : Tab X bu V) (hk : Kept [] w6 X) (hn : w6.heap.size ≤ n) (hne : n ≠ bu) (y0 y1 y2 y3 : Value) :
    Blk ((((X.setCell ⟨n, 0, none⟩ y0).setCell ⟨n, 1, none⟩ y1).setCell ⟨n, 2, none⟩ y2).setCell ⟨n, 3, none⟩ y3) n #[y0, y1, y2, y3] 36 ∧ Tab ((((X.setCell ⟨n, 0, none⟩ y0).setCell ⟨n, 1, none⟩ y1).setCell ⟨n, 2, none⟩ y2).setCell ⟨n, 3, none⟩ y3) bu V ∧ Kept [] w6 ((((X.setCell ⟨n, 0, none⟩ y0).setCell ⟨n, 1, none⟩ y1).setCell ⟨n, 2, none⟩ y2).setCell ⟨n, 3, none⟩ y3) := by
  have hk4 : Kept [n] X ((((X.setCell ⟨n, 0, none⟩ y0).setCell ⟨n, 1, none⟩ y1).setCell ⟨n, 2, none⟩ y2).setCell ⟨n, 3, none⟩ y3) := ((((Kept.refl [n] X).setCell (p := ⟨n, 0, none⟩) (Or.inl (by simp)) _).setCell (p := ⟨n, 1, none⟩) (Or.inl (by simp)) _).setCell (p := ⟨n, 2, none⟩) (Or.inl (by simp)) _).setCell (p := ⟨n, 3, none⟩) (Or.inl (by simp)) _
  refine ⟨?_, ht.keep hk4 (by simpa using hne.symm) (off_ty hb (by decide) (by decide)), hk.trans hk4 (by simp; exact hn)⟩
  have h1 := (((hb.set 0 y0).set 1 y1).set 2 y2).set 3 y3
  simpa using h1
/-- the op of a round -/
def OpC (l : List Re) (r j : Nat) (fv c0 c1 c2 c3 : Value) : Prop :=
  (c0 = .int .i64 3 ∧ c1 = fv ∧ c2 = .slice none 0 0 ∧ c3 = .int .i64 0 ∧ ∀ (m : Nat) (a : Re), m < j → l[m]? = some a → a.e.2.2 ≠ (r : Int) + 1) ∨ ∃ (m : Nat) (a : Re), l[m]? = some a ∧ a.e.2.2 = (r : Int) + 1 ∧ c0 = .int .i64 2 ∧ c1 = a.ks ∧ c2 = a.vs ∧ c3 = .int .i64 0
set_option maxRecDepth 100000 in
set_option maxHeartbeats 8000000 in
theorem tmade_any {w : World} {a : Option Addr} {cap : Nat} {ps : List Nat} (h : Wide w (.slice a ps.length cap) ps) (hb : ∀ x ∈ ps, x < 256) (hl : ps.length ≤ 1048576) :
    Calls Try.prog 3 #[.slice a ps.length cap] w fun e w' => e = .returned (.bool true) ∧ Kept [] w w' := by
  have HAW := hide (awake_any w)
  have HRD := fun W (hk : Kept [] w W) => hide (tread_any (h.kept hk) (by omega) hb)
  have HW := hide h
  obtain ⟨PL, hPL⟩ : ∃ n, ps.length = n := ⟨_, rfl⟩
  rw [hPL] at HRD HW hl ⊢
  have HPL := hide hPL
  have HBB := hide hb
  clear h hb hPL
  cases hT : rdT ps with
  | none =>
    rw [hT] at HRD
    clear hT
    go_enter Try.func3, Try.ntmps3
    go_wp2_with (first
      | (go_at_call 8; refine (unhide HAW).mono ?_; rintro e w1 ⟨rfl, hk1⟩; have HK1 := hide hk1; clear hk1)
      | (go_at_call 9; refine (unhide (HRD _ (unhide HK1))).mono ?_; rintro e w2 ⟨hk2, ho2⟩
         have he2 : e = .returned (.tuple #[.pointer none, .int .i64 130]) := by
           rcases ho2 with ⟨-, h4⟩ | ⟨T, b, h4, -⟩
           · exact h4
           · cases h4
         subst he2
         have HK2 := hide ((unhide HK1).step hk2)
         clear hk2 ho2)
      | fail)
    go_ret
    exact ⟨rfl, unhide HK2⟩
  | some T =>
    obtain ⟨hsnd, hform⟩ := rd_form (unhide HBB) hT
    rw [hT] at HRD
    have htr := hsnd.tok.rev
    have hszr := hsnd.tok.size
    have HSND := hide hsnd
    have HFORM := hide hform
    obtain ⟨tr, hTR⟩ : ∃ n, T.rev = n := ⟨_, rfl⟩
    rw [hTR] at htr hszr
    have HTR := hide hTR
    have HRV := fun W b (hT : Tab W b T) => hide (trev_any hT)
    rw [hTR] at HRV
    clear hform hT hTR
    by_cases hbig : 300 < tr
    · have t1 : ((300 : Int) < (tr : Int)) = True := by simp; omega
      have u1 : (300 < tr) = True := by simp; omega
      clear hsnd hbig
      go_enter Try.func3, Try.ntmps3
      go_wp2_with (first
        | (go_at_call 8; refine (unhide HAW).mono ?_; rintro e w1 ⟨rfl, hk1⟩; have HK1 := hide hk1; clear hk1)
        | (go_at_call 9; refine (unhide (HRD _ (unhide HK1))).mono ?_; rintro e w2 ⟨hk2, ho2⟩
           have he2 : ∃ b, e = .returned (.tuple #[.pointer (some ⟨b, 0, none⟩), .int .i64 0]) ∧ Tab w2 b T := by
             rcases ho2 with ⟨h4, -⟩ | ⟨T', b, h4, h5, h6, -⟩
             · cases h4
             · cases h4; exact ⟨b, h5, h6⟩
           obtain ⟨b, rfl, ht2⟩ := he2
           have HT2 := hide ht2
           have HK2 := hide ((unhide HK1).step hk2)
           clear hk2 ho2 ht2)
        | (go_at_call 10; refine (unhide (HRV _ _ (unhide HT2))).mono ?_; rintro e w3 ⟨rfl, hq⟩; have hq2 := hq.symm; subst hq2)
        | fail)
      go_ret
      exact ⟨rfl, unhide HK2⟩
    · have t1 : ((300 : Int) < (tr : Int)) = False := by simp; omega
      have u1 : (300 < tr) = False := by simp; omega
      have HRW := fun W b (hT : Tab W b T) => hide (rows_any hT hsnd.tok (by omega))
      clear hsnd
      go_enter Try.func3, Try.ntmps3
      go_wp2_with (first
        | (go_at_call 8; refine (unhide HAW).mono ?_; rintro e w1 ⟨rfl, hk1⟩; have HK1 := hide hk1; clear hk1)
        | (go_at_call 9; refine (unhide (HRD _ (unhide HK1))).mono ?_; rintro e w2 ⟨hk2, ho2⟩
           have he2 : ∃ b, e = .returned (.tuple #[.pointer (some ⟨b, 0, none⟩), .int .i64 0]) ∧ Tab w2 b T := by
             rcases ho2 with ⟨h4, -⟩ | ⟨T', b, h4, h5, h6, -⟩
             · cases h4
             · cases h4; exact ⟨b, h5, h6⟩
           obtain ⟨b, rfl, ht2⟩ := he2
           have HT2 := hide ht2
           have HK2 := hide ((unhide HK1).step hk2)
           clear hk2 ho2 ht2)
        | (go_at_call 10; refine (unhide (HRV _ _ (unhide HT2))).mono ?_; rintro e w3 ⟨rfl, hq⟩; have hq2 := hq.symm; subst hq2)
        | (go_at_call 11; refine (unhide (HRW _ _ (unhide HT2))).mono ?_; rintro e w5 ⟨v, l, rfl, hl1, hl2, hl3, hk5⟩
           obtain ⟨la, lc, rfl⟩ := own_len hl2
           have HL1 := hide hl1
           have HL2 := hide hl2
           have HL3 := hide hl3
           have HT5 := hide ((unhide HT2).kept hk5)
           have HK5 := hide ((unhide HK2).step hk5)
           clear HRW hl1 hl2 hl3 hk5)
        | fail)
      obtain ⟨N, hN⟩ : ∃ N, l.length = N := ⟨_, rfl⟩
      rw [hN] at HL2 ⊢
      have hN20 : N ≤ 1048576 := by rw [← hN, ← List.length_map (f := fun r : Re => r.e), unhide HL1, Tr.list_length]; omega
      have HN2 := hide hN
      clear hN
      have HROW : ∀ W k, Kept [] w5 W → k < N → Hid (∃ (x : Re) (g : Nat) (ka : Option Addr) (n1 kc : Nat) (va : Option Addr) (n2 vc : Nat), l[k]? = some x ∧ la = some ⟨g, 0, none⟩ ∧ x.ks = .slice ka n1 kc ∧ x.vs = .slice va n2 vc ∧ W.cell? ⟨g, k * 3, none⟩ = some (.slice ka n1 kc) ∧ W.cell? ⟨g, k * 3 + 1, none⟩ = some (.slice va n2 vc) ∧ W.cell? ⟨g, k * 3 + 2, none⟩ = some (.int .i64 x.e.2.2) ∧ Sees W (.slice ka n1 kc) (byts x.e.1) ∧ Sees W (.slice va n2 vc) (byts x.e.2.1) ∧ (byts x.e.1).length = n1 ∧ (byts x.e.2.1).length = n2 ∧ n1 ≤ 64 ∧ n2 ≤ 256 ∧ x.e ∈ T.t.list) := fun W k hW hk => by
        obtain ⟨x, hx⟩ : ∃ x, l[k]? = some x := ⟨l[k]'(by rw [unhide HN2]; exact hk), List.getElem?_eq_getElem _⟩
        have hxm := List.mem_of_getElem? hx
        obtain ⟨g, hg, s0, s1, s2⟩ := rrow_at (own_kept (unhide HL2) hW (by simp)) hx
        have sk := ((unhide HL3) x hxm).1.1.kept hW (by simp)
        have sv := ((unhide HL3) x hxm).2.1.kept hW (by simp)
        obtain ⟨ka, kc, hka⟩ := sees_len sk
        obtain ⟨va, vc, hva⟩ := sees_len sv
        have hxe : x.e ∈ T.t.list := by rw [← unhide HL1]; exact List.mem_map.2 ⟨x, hxm, rfl⟩
        obtain ⟨r1, r2, r3, r4, r5⟩ := (unhide HSND).row hxe
        rw [hka] at s0 sk
        rw [hva] at s1 sv
        exact hide ⟨x, g, ka, _, kc, va, _, vc, hx, hg, hka, hva, s0, s1, s2, sk, sv, rfl, rfl, by rw [byts_len]; exact r2, by rw [byts_len]; exact r3, hxe⟩
      go_loopw [6, 7] (fun f i X => ∃ (k : Nat) (fa : Option Addr) (fn fc : Nat) (fb : List Nat), k ≤ N ∧ f = .slice fa fn fc ∧ i = .int .i64 (k : Int) ∧ 1 ≤ fn ∧ fn ≤ 65 ∧ Hid (fb.length = fn ∧ Sees X (.slice fa fn fc) fb ∧ ∀ x ∈ fb, x < 256) ∧ Kept [] w5 X) (fun _ i _ => N - (intOf i).toNat)
      case atStart => exact ⟨0, _, 1, 1, [0], by omega, rfl, rfl, by omega, by omega, ⟨rfl, lit1 w5 0, by simp⟩, (Kept.refl [] w5).alloc _⟩
      case round =>
        obtain ⟨k, fa, fn, fc, fb, hkN, rfl, rfl, hf1, hf2, HF, hkX⟩ := hrel
        have HKX := hide hkX
        by_cases hk : k < N
        · have t2 : ((k : Int) < (N : Int)) = True := by simp [hk]
          obtain ⟨x, g, ka, n1, kc, va, n2, vc, hx, hg, hks, hvs, s0, s1, s2, sk, sv, hn1, hn2, z1, z2, hxe⟩ := unhide (HROW _ k hkX hk)
          subst hg
          clear hx hks hvs s1 s2 sk sv hn1 hn2 z2 hxe hkX
          by_cases hc1 : fn ≤ n1
          · have t3 : ((fn : Int) ≤ (n1 : Int)) = True := by simp; omega
            have u3 : (fn ≤ n1) = True := by simp; omega
            by_cases hc2 : fn < 64
            · have t4 : ((fn : Int) < 64) = True := by simp; omega
              have u4 : (fn < 64) = True := by simp; omega
              have hw1 : IntKind.i64.wrap ((n1 : Int) + 1) = (n1 : Int) + 1 := by rw [IntKind.wrap_i64]; omega
              have HK2' := hide ((Kept.refl [] wr).alloc (.cells (Array.replicate (n1 + 1) (.int .u8 0)) 5))
              go_wp2_with (first
                | (refine wpList_make8 _ rfl (.tmp 69) (.tmp 69) rfl (n1 + 1) (by omega) rfl rfl ?_)
                | fail)
              refine ⟨⟨k + 1, _, n1 + 1, n1 + 1, List.replicate (n1 + 1) 0, by omega, rfl, by simp, by omega, by omega, ⟨by simp, sees_zero8 wr (n1 + 1) (by omega), by simp⟩, (unhide HKX).step (unhide HK2')⟩, by simp [intOf]; omega⟩
            · have t4 : ((fn : Int) < 64) = False := by simp; omega
              have u4 : (fn < 64) = False := by simp; omega
              go_wp2_with fail
              refine ⟨⟨k + 1, fa, fn, fc, fb, by omega, rfl, by simp, hf1, hf2, HF, unhide HKX⟩, by simp [intOf]; omega⟩
          · have t3 : ((fn : Int) ≤ (n1 : Int)) = False := by simp; omega
            have u3 : (fn ≤ n1) = False := by simp; omega
            go_wp2_with fail
            refine ⟨⟨k + 1, fa, fn, fc, fb, by omega, rfl, by simp, hf1, hf2, HF, unhide HKX⟩, by simp [intOf]; omega⟩
        · obtain rfl : N = k := by omega
          have t2 : ((N : Int) < (N : Int)) = False := by simp
          clear hkX
          go_upto_if 73 with fail
          go_cut [6] (fun f wc => ∃ (fa : Option Addr) (fn fc : Nat) (fb : List Nat), f = .slice fa fn fc ∧ 1 ≤ fn ∧ fn ≤ 64 ∧ Hid (fb.length = fn ∧ Sees wc (.slice fa fn fc) fb ∧ ∀ x ∈ fb, x < 256) ∧ Hid (wc = wr))
          case first =>
            by_cases hc : 64 < fn
            · have t3 : ((64 : Int) < (fn : Int)) = True := by simp; omega
              have b3 : decide ((64 : Int) < (fn : Int)) = true := by simp; omega
              have b4 : decide (64 < fn) = true := by simp; omega
              have u3 : (64 < fn) = True := by simp; omega
              obtain ⟨h1, h2, h3⟩ := unhide HF
              rcases h2 with ⟨h2, -⟩ | ⟨fb0, off, cap0, h4, h5, h6, h7, h8⟩
              · cases h2; omega
              · have h9 := h4
                simp only [Value.slice.injEq] at h9
                obtain ⟨rfl, -, rfl⟩ := h9
                have v1 : (64 : Int) ≤ (fc : Int) := by omega
                have HS := hide (sees_take (show Sees wr (.slice (some ⟨fb0, off, none⟩) fn fc) fb from (unhide HF).2.1) (k := 64) (by omega))
                have HLN : Hid ((fb.take 64).length = 64) := by show (fb.take 64).length = 64; rw [List.length_take]; omega
                have HBL : Hid (∀ x ∈ fb.take 64, x < 256) := fun x hx => h3 x (List.mem_of_mem_take hx)
                clear h1 h3 h4 h5 h6 h7 h8
                go_wp2_with fail
                all_goals first
                  | (exfalso; omega)
                  | (go_meet; exact ⟨_, 64, fc, fb.take 64, rfl, by omega, by omega, ⟨unhide HLN, unhide HS, unhide HBL⟩, rfl⟩)
            · have t3 : ((64 : Int) < (fn : Int)) = False := by simp; omega
              have b3 : decide ((64 : Int) < (fn : Int)) = false := by simp; omega
              have b4 : decide (64 < fn) = false := by simp; omega
              have u3 : (64 < fn) = False := by simp; omega
              go_wp2_with fail
              all_goals first
                | (exfalso; omega)
                | (go_meet; exact ⟨fa, fn, fc, fb, rfl, hf1, by omega, ⟨(unhide HF).1, (unhide HF).2.1, (unhide HF).2.2⟩, rfl⟩)
          case rest =>
          clear HF hf1 hf2
          obtain ⟨fa, fn, fc, fb, rfl, hf1, hf2, HF, HWC⟩ := hcut
          obtain rfl : wc = wr := unhide HWC
          clear HWC
          go_wp2_with fail
          go_loopw [6, 8] (fun f i X => ∃ (k : Nat) (fa : Option Addr) (fn fc : Nat) (fb : List Nat), k ≤ N ∧ f = .slice fa fn fc ∧ i = .int .i64 (k : Int) ∧ 1 ≤ fn ∧ fn ≤ 64 ∧ Hid (fb.length = fn ∧ Sees X (.slice fa fn fc) fb ∧ ∀ x ∈ fb, x < 256) ∧ Kept [] w5 X) (fun _ i _ => N - (intOf i).toNat)
          case atStart => exact ⟨0, fa, fn, fc, fb, by omega, rfl, rfl, hf1, hf2, HF, unhide HKX⟩
          case round =>
            obtain ⟨k, fa, fn, fc, fb, hkN, rfl, rfl, hf1, hf2, HF, hkX⟩ := hrel
            have HKX := hide hkX
            by_cases hk : k < N
            · have t2 : ((k : Int) < (N : Int)) = True := by simp [hk]
              obtain ⟨x, g, ka, n1, kc, va, n2, vc, hx, hg, hks, hvs, s0, s1, s2, sk, sv, hn1, hn2, z1, z2, hxe⟩ := unhide (HROW _ k hkX hk)
              subst hg
              have HSM := hide (same_full (Or.inl sk) (Or.inl (unhide HF).2.1) (by omega))
              clear hx hks hvs s1 s2 sk sv hn1 hn2 z2 hxe hkX
              by_cases he : byts x.e.1 = fb
              · rw [decide_eq_true he] at HSM
                clear he
                go_wp2_with (first
                  | (go_at_call 12; refine (unhide HSM).mono ?_; rintro e w8 ⟨rfl, hk8⟩; have HK8 := hide hk8; clear hk8 HSM)
                  | fail)
                refine ⟨⟨k + 1, _, 9, 9, [1, 2, 3, 4, 5, 6, 7, 8, 9], by omega, rfl, by simp, by omega, by omega, ⟨rfl, lit9 w8, by simp⟩, ((unhide HKX).step (unhide HK8)).alloc _⟩, by simp [intOf]; omega⟩
              · rw [decide_eq_false he] at HSM
                clear he
                go_wp2_with (first
                  | (go_at_call 12; refine (unhide HSM).mono ?_; rintro e w8 ⟨rfl, hk8⟩; have HK8 := hide hk8; clear hk8 HSM)
                  | fail)
                refine ⟨⟨k + 1, fa, fn, fc, fb, by omega, rfl, by simp, hf1, hf2, ⟨(unhide HF).1, (unhide HF).2.1.kept (unhide HK8) (by simp), (unhide HF).2.2⟩, (unhide HKX).step (unhide HK8)⟩, by simp [intOf]; omega⟩
            · obtain rfl : N = k := by omega
              have t2 : ((N : Int) < (N : Int)) = False := by simp
              clear hkX
              have HF7 := HF
              have HK7 := HKX
              obtain ⟨w7, hw7⟩ : ∃ W, wr = W := ⟨_, rfl⟩
              rw [hw7] at HF7 HK7
              go_wp2_with fail
              go_loopw [9] (fun i X => ∃ (j : Nat), j ≤ N ∧ i = .int .i64 (j : Int) ∧ Kept [] w7 X ∧ Hid (∀ (m : Nat) (a : Re), m < j → l[m]? = some a → byts a.e.1 ≠ fb)) (fun i _ => N - (intOf i).toNat)
              case atStart => exact ⟨0, by omega, rfl, Kept.refl _ _, fun m a h => by omega⟩
              case round =>
                obtain ⟨j, hjN, rfl, hkX, HNE⟩ := hrel
                have HKX := hide hkX
                by_cases hj : j < N
                · have t3 : ((j : Int) < (N : Int)) = True := by simp [hj]
                  obtain ⟨x, g, ka, n1, kc, va, n2, vc, hx, hg, hks, hvs, s0, s1, s2, sk, sv, hn1, hn2, z1, z2, hxe⟩ := unhide (HROW _ j ((unhide HK7).step hkX) hj)
                  subst hg
                  have HSM := hide (same_full (Or.inl sk) (Or.inl ((unhide HF7).2.1.kept hkX (by simp))) (by omega))
                  have HX := hide hx
                  clear hx hks hvs s1 s2 sk sv hn1 hn2 z2 hxe hkX
                  by_cases he : byts x.e.1 = fb
                  · rw [decide_eq_true he] at HSM
                    clear he
                    go_wp2_with (first
                      | (go_at_call 12; refine (unhide HSM).mono ?_; rintro e w8 ⟨rfl, hk8⟩; have HK8 := hide hk8; clear hk8 HSM)
                      | fail)
                    go_ret
                    exact ⟨rfl, (((unhide HK5).step (unhide HK7)).step (unhide HKX)).step (unhide HK8)⟩
                  · rw [decide_eq_false he] at HSM
                    have HE := hide he
                    clear he
                    go_wp2_with (first
                      | (go_at_call 12; refine (unhide HSM).mono ?_; rintro e w8 ⟨rfl, hk8⟩; have HK8 := hide hk8; clear hk8 HSM)
                      | fail)
                    refine ⟨⟨j + 1, by omega, by simp, (unhide HKX).step (unhide HK8), fun m a h1 h2 => ?_⟩, by simp [intOf]; omega⟩
                    rcases Nat.lt_or_ge m j with h3 | h3
                    · exact unhide HNE m a h3 h2
                    · obtain rfl : m = j := by omega
                      rw [unhide HX] at h2
                      cases h2
                      exact unhide HE
                · obtain rfl : N = j := by omega
                  have t3 : ((N : Int) < (N : Int)) = False := by simp
                  have HLT7 := hide (unhide HF7).2.1
                  have HN0 := fun W => hide (new_any W)
                  clear hkX
                  obtain ⟨w9, hw9⟩ : ∃ W, W = wr := ⟨_, rfl⟩
                  subst hw9
                  have HT9 : Hid (Tab w9 b T) := (unhide HT5).kept ((unhide HK7).step (unhide HKX))
                  have HK9 : Hid (Kept [] w5 w9) := (unhide HK7).step (unhide HKX)
                  have HF9 : Hid (Sees w9 (.slice fa fn fc) fb) := (unhide HLT7).kept (unhide HKX) (by simp)
                  have HFL : Hid (∀ y, (Value.slice fa fn fc).ownBlock = some y → y < w9.heap.size) := fun y hy => (unhide HF9).lt hy
                  go_wp2_with (first
                    | (go_at_call 13; refine (unhide (HN0 _)).mono ?_; rintro e w10 ⟨bu, rfl, ht10, hb10, hk10⟩
                       have HT10 := hide ht10
                       have HB10 := hide hb10
                       have HK10 := hide hk10
                       clear ht10 hb10 hk10 HN0)
                    | fail)
                  go_loopw [11] (fun i X => ∃ (r : Nat) (V : Tb), r ≤ tr ∧ i = .int .i64 ((r : Int) + 1) ∧ Hid (Tab X bu V ∧ MdI T V r) ∧ Kept [] w9 X) (fun i _ => tr + 1 - (intOf i).toNat)
                  case atStart => exact ⟨0, ⟨.nil, 0⟩, by omega, rfl, ⟨unhide HT10, MdI.zero (unhide HSND)⟩, unhide HK10⟩
                  case round =>
                    obtain ⟨r, V, hr1, rfl, HV, hkY⟩ := hrel
                    have HKY := hide hkY
                    have HTW := hide ((unhide HT9).kept hkY)
                    clear hkY
                    by_cases hrt : r < tr
                    · have t4 : ((r : Int) + 1 ≤ (tr : Int)) = True := by simp; omega
                      have u4 : (r + 1 ≤ tr) = True := by simp; omega
                      go_wp2_with (first
                        | (go_at_call 10; refine (unhide (HRV _ _ (unhide HTW))).mono ?_; rintro e w11 ⟨rfl, hq⟩; have hq2 := hq.symm; subst hq2)
                        | fail)
                      have hle : w9.heap.size ≤ wr.heap.size := (unhide HKY).size
                      have hbl : bu < wr.heap.size := by obtain ⟨q0, hbb, -⟩ := (unhide HV).1; exact hbb.lt
                      have HB12 := hide (Blk.new wr #[.int .i64 3, .slice fa fn fc, .slice none 0 0, .int .i64 0] 36)
                      have HT12 := hide ((unhide HV).1.kept ((Kept.refl [] wr).alloc (.cells #[.int .i64 3, .slice fa fn fc, .slice none 0 0, .int .i64 0] 36)))
                      have HK12 := hide ((unhide HKY).alloc (.cells #[.int .i64 3, .slice fa fn fc, .slice none 0 0, .int .i64 0] 36))
                      obtain ⟨n12, hn12⟩ : ∃ n, wr.heap.size = n := ⟨_, rfl⟩
                      rw [hn12] at HB12 hle hbl ⊢
                      have hne12 : n12 ≠ bu := by omega
                      clear hn12
                      go_wp2_with fail
                      go_loopw [13] (fun i X => ∃ (j : Nat) (c0 c1 c2 c3 : Value), j ≤ N ∧ i = .int .i64 (j : Int) ∧ Hid (Blk X n12 #[c0, c1, c2, c3] 36 ∧ Tab X bu V ∧ OpC l r j (.slice fa fn fc) c0 c1 c2 c3) ∧ Kept [] w9 X) (fun i _ => N - (intOf i).toNat)
                      case atStart => exact ⟨0, _, _, _, _, by omega, rfl, ⟨unhide HB12, unhide HT12, Or.inl ⟨rfl, rfl, rfl, rfl, fun m a h => by omega⟩⟩, unhide HK12⟩
                      case round =>
                        obtain ⟨j, c0, c1, c2, c3, hjN, rfl, HO, hkZ⟩ := hrel
                        have HKZ := hide hkZ
                        by_cases hj : j < N
                        · have t5 : ((j : Int) < (N : Int)) = True := by simp [hj]
                          obtain ⟨x, g, ka, n1, kc, va, n2, vc, hx, hg, hks, hvs, s0, s1, s2, sk, sv, hn1, hn2, z1, z2, hxe⟩ := unhide (HROW _ j ((unhide HK9).step hkZ) hj)
                          subst hg
                          have HX := hide hx
                          have HKS := hide hks
                          have HVS := hide hvs
                          obtain ⟨xr, hxr⟩ : ∃ n, x.e.2.2 = n := ⟨_, rfl⟩
                          rw [hxr] at s2
                          have HXR := hide hxr
                          clear hx hks hvs sk sv hn1 hn2 z1 z2 hxe hkZ hxr
                          by_cases he : xr = (r : Int) + 1
                          · have t6 : (xr == (r : Int) + 1) = true := by simpa using he
                            have HE := hide he
                            have HP := fun W => hide (lput_any W ka n1 kc va n2 vc)
                            have hbx := (unhide HO).1
                            have z0 := hbx.frozen 0
                            have z1 := hbx.frozen 1
                            have z2 := hbx.frozen 2
                            have z3 := hbx.frozen 3
                            have hgn : g ≠ n12 := fun e => by
                              subst e
                              have h1 := (unhide HL2).lt g rfl
                              have h2 := (unhide HK9).size
                              omega
                            clear he hbx
                            go_wp2_with fail
                            go_region_with (first
                              | (go_at_call 14; refine (unhide (HP _)).mono ?_; rintro e' w14 ⟨rfl, hk14⟩; have HK14 : Hid (Kept [] wr w14) := (by first | exact hk14 | exact ((Kept.refl [] wr).drew).step hk14); have HB14 := hide ((unhide HO).1.kept (unhide HK14) (by simp)); have y0 := (unhide HB14).frozen 0; have y1 := (unhide HB14).frozen 1; have y2 := (unhide HB14).frozen 2; have y3 := (unhide HB14).frozen 3; obtain ⟨x0, x1, x2, x3⟩ := box4 (unhide HB14); clear hk14))
                            all_goals
                              go_wp2_with fail
                              have hop := op_turn (unhide HB14) ((unhide HO).2.1.kept (unhide HK14)) ((unhide HKZ).step (unhide HK14)) hle hne12 (.int .i64 2) (.slice ka n1 kc) (.slice va n2 vc) (.int .i64 0)
                              refine ⟨⟨j + 1, _, _, _, _, by omega, by simp, ⟨hop.1, hop.2.1, Or.inr ⟨j, x, unhide HX, by rw [unhide HXR]; exact unhide HE, rfl, (unhide HKS).symm, (unhide HVS).symm, rfl⟩⟩, hop.2.2⟩, by simp [intOf]; omega⟩
                          · have t6 : (xr == (r : Int) + 1) = false := by simpa using he
                            have HE := hide he
                            clear he
                            go_wp2_with fail
                            refine ⟨⟨j + 1, c0, c1, c2, c3, by omega, by simp, ⟨(unhide HO).1, (unhide HO).2.1, ?_⟩, unhide HKZ⟩, by simp [intOf]; omega⟩
                            rcases (unhide HO).2.2 with ⟨o1, o2, o3, o4, o5⟩ | h5
                            · refine Or.inl ⟨o1, o2, o3, o4, fun m a h1 h2 => ?_⟩
                              rcases Nat.lt_or_ge m j with h3 | h3
                              · exact o5 m a h3 h2
                              · obtain rfl : m = j := by omega
                                rw [unhide HX] at h2
                                cases h2
                                rw [unhide HXR]
                                exact unhide HE
                            · exact Or.inr h5
                        · obtain rfl : N = j := by omega
                          have t5 : ((N : Int) < (N : Int)) = False := by simp
                          have hfl := (unhide HF7).1
                          have hfb := (unhide HF7).2.2
                          have HZ9 : Hid (∀ y, y < w9.heap.size → y ≠ bu) := fun y hy => by have := unhide HB10; omega
                          have HW16 : ∀ (W : World) (o : Opm), Kept [bu] wr W → Hid (Kept [] w9 W) := fun W o hk => (unhide HKZ).trans hk (fun y hy => by simp at hy; subst hy; exact Or.inr (unhide HB10))
                          rcases (unhide HO).2.2 with ⟨rfl, rfl, rfl, rfl, hno⟩ | ⟨m, x, hx, hxr, rfl, rfl, rfl, rfl⟩
                          · have hnr : ∀ e ∈ T.t.list, e.2.2 ≠ (r : Int) + 1 := fun e he => by
                              rw [← unhide HL1] at he
                              obtain ⟨y, hy, rfl⟩ := List.mem_map.1 he
                              obtain ⟨q, hq⟩ := List.mem_iff_getElem?.1 hy
                              exact hno q y (by have := (List.getElem?_eq_some_iff.1 hq).1; rw [unhide HN2] at this; exact this) hq
                            have hnk : ∀ e ∈ T.t.list, byts e.1 ≠ fb := fun e he => by
                              rw [← unhide HL1] at he
                              obtain ⟨y, hy, rfl⟩ := List.mem_map.1 he
                              obtain ⟨q, hq⟩ := List.mem_iff_getElem?.1 hy
                              exact unhide HNE q y (by have := (List.getElem?_eq_some_iff.1 hq).1; rw [unhide HN2] at this; exact this) hq
                            obtain ⟨hr0, hMd⟩ := (unhide HV).2.del (unhide HSND) (by rw [unhide HTR]; omega) (fb := fb) (by omega) (by omega) hfb hnk hnr
                            have hoa : OpAt wr ⟨3, fb, [], 0⟩ (.slice fa fn fc) (.slice none 0 0) := ⟨Or.inl ((unhide HF9).kept hkZ (by simp)), Or.inl (Or.inl ⟨rfl, rfl⟩), hfb, by simp⟩
                            have HD := hide (Do_yes (unhide HO).2.1 (unhide HV).2.s.tok hoa (Or.inr fun y hy => unhide HZ9 y (unhide HFL y hy)) (Or.inr fun y hy => by cases hy) hr0)
                            unfold opv at HD
                            have HMD2 := hide hMd
                            generalize dn V ⟨3, fb, [], 0⟩ = dd at HD
                            generalize (if (fnd V ⟨3, fb, [], 0⟩).isSome = true then (fv (fnd V ⟨3, fb, [], 0⟩)).2 else 0) = ar at HD
                            generalize ((rvn V ⟨3, fb, [], 0⟩ : Nat) : Int) = rv at HD
                            obtain ⟨o0, o1, o2, o3⟩ := box4 (unhide HO).1
                            clear hno hnr hnk hr0 hMd hoa hkZ hfl hfb
                            go_wp2_with (first
                              | (go_at_call 15; refine (unhide HD).mono ?_; rintro e w15 ⟨ka, kn, kc, va, vn, vc, rfl, hA⟩
                                 have HT15 := hide (hA.t.kept ((Kept.refl [] w15).alloc (.cells #[.bool dd, .slice ka kn kc, .slice va vn vc, .int .i64 ar, .int .i64 rv] 39)))
                                 have HK15 := hide ((unhide (HW16 _ ⟨0, [], [], 0⟩ hA.kp)).alloc (.cells #[.bool dd, .slice ka kn kc, .slice va vn vc, .int .i64 ar, .int .i64 rv] 39))
                                 clear hA HD)
                              | fail)
                            refine ⟨⟨r + 1, _, by omega, by simp, ⟨unhide HT15, unhide HMD2⟩, unhide HK15⟩, by simp [intOf]; omega⟩
                          · have hmN : m < N := by have := (List.getElem?_eq_some_iff.1 hx).1; rw [unhide HN2] at this; exact this
                            obtain ⟨x', g, ka, n1, kc, va, n2, vc, hx', hg, hks, hvs, s0, s1, s2, sk, sv, hn1, hn2, z1, z2, hxe⟩ := unhide (HROW w9 m (unhide HK9) hmN)
                            rw [hx] at hx'
                            cases hx'
                            obtain ⟨hr0, hMd⟩ := (unhide HV).2.put (unhide HSND) hxe hxr
                            have hoa : OpAt wr ⟨2, byts x.e.1, byts x.e.2.1, 0⟩ (.slice ka n1 kc) (.slice va n2 vc) := ⟨Or.inl (sk.kept hkZ (by simp)), Or.inl (sv.kept hkZ (by simp)), byts_lt _, byts_lt _⟩
                            have HD := hide (Do_yes (unhide HO).2.1 (unhide HV).2.s.tok hoa (Or.inr fun y hy => unhide HZ9 y (sk.lt hy)) (Or.inr fun y hy => unhide HZ9 y (sv.lt hy)) hr0)
                            unfold opv at HD
                            have HMD2 := hide hMd
                            have hbx := (unhide HO).1
                            rw [hks, hvs] at hbx
                            generalize dn V ⟨2, byts x.e.1, byts x.e.2.1, 0⟩ = dd at HD
                            generalize (if (fnd V ⟨2, byts x.e.1, byts x.e.2.1, 0⟩).isSome = true then (fv (fnd V ⟨2, byts x.e.1, byts x.e.2.1, 0⟩)).2 else 0) = ar at HD
                            generalize ((rvn V ⟨2, byts x.e.1, byts x.e.2.1, 0⟩ : Nat) : Int) = rv at HD
                            obtain ⟨o0, o1, o2, o3⟩ := box4 hbx
                            clear hg hr0 hMd hoa hkZ hfl hfb hbx hx hxr hks hvs s0 s1 s2 sk sv hn1 hn2 z1 z2 hxe
                            go_wp2_with (first
                              | (go_at_call 15; refine (unhide HD).mono ?_; rintro e w15 ⟨ka', kn, kc', va', vn, vc', rfl, hA⟩
                                 have HT15 := hide (hA.t.kept ((Kept.refl [] w15).alloc (.cells #[.bool dd, .slice ka' kn kc', .slice va' vn vc', .int .i64 ar, .int .i64 rv] 39)))
                                 have HK15 := hide ((unhide (HW16 _ ⟨0, [], [], 0⟩ hA.kp)).alloc (.cells #[.bool dd, .slice ka' kn kc', .slice va' vn vc', .int .i64 ar, .int .i64 rv] 39))
                                 clear hA HD)
                              | fail)
                            refine ⟨⟨r + 1, _, by omega, by simp, ⟨unhide HT15, unhide HMD2⟩, unhide HK15⟩, by simp [intOf]; omega⟩
                    · obtain rfl : r = tr := by omega
                      have t4 : ((r : Int) + 1 ≤ (r : Int)) = False := by simp; omega
                      have u4 : (r + 1 ≤ r) = False := by simp
                      have hal := MdI.last (T := T) (V := V) (by rw [unhide HTR]; exact (unhide HV).2) (unhide HSND)
                      have hfm : tblF V = ps := by rw [hal.form]; exact unhide HFORM
                      have HBY := hide (bytes_any (unhide HV).1 (unhide HV).2.s.tok (by rw [← tblF_len, hfm, unhide HPL]; omega))
                      rw [show (tblF V).length = PL by rw [hfm, unhide HPL]] at HBY
                      have HSM := fun W p (hk : Kept [] w9 W) (hp : Sees W p (tblF V)) => hide (same_full (Or.inl hp) ((unhide HW).kept (((unhide HK5).step (unhide HK9)).step hk)) (by rw [hfm, unhide HPL]; omega))
                      rw [decide_eq_true hfm] at HSM
                      have HLN : Hid ((tblF V).length = PL) := by show (tblF V).length = PL; rw [hfm, unhide HPL]
                      clear hal hfm
                      go_wp2_with (first
                        | (go_at_call 10; refine (unhide (HRV _ _ (unhide HTW))).mono ?_; rintro e w11 ⟨rfl, hq⟩; have hq2 := hq.symm; subst hq2)
                        | (go_at_call 16; refine (unhide HBY).mono ?_; rintro e w12 ⟨pa, pc, rfl, hown, hk12⟩
                           have HS12 := hide (sees_n (unhide HLN) hown)
                           have HK12 := hide ((unhide HKY).step hk12)
                           clear hown hk12 HBY)
                        | (go_at_call 12; refine (unhide (HSM _ _ (unhide HK12) (unhide HS12))).mono ?_; rintro e w13 ⟨rfl, hk13⟩
                           have HK13 := hide ((unhide HK12).step hk13)
                           clear hk13)
                        | fail)
                      go_ret
                      exact ⟨rfl, ((unhide HK5).step (unhide HK9)).step (unhide HK13)⟩
end Go.Proofs.Ytkejpbfbpomjfab.tre
