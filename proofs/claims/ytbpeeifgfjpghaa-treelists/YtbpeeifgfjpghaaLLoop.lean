/- TreeLists: what a value points to is handed on. -/
import Derived.Test.YtbpeeifgfjpghaaLApp
namespace Go.Proofs.Ytbpeeifgfjpghaa
open Go.RowKit
set_option linter.unusedVariables false

/-- lists of bytes that came in -/
def ListsA (w : World) (v : Value) (ps : List (Value × List Nat)) : Prop := ∃ a cap, v = .slice a ps.length cap ∧ ps.length ≤ cap ∧ cap ≤ maxLen ∧ (∀ p ∈ ps, Sees w p.1 p.2 ∧ p.2.length ≤ 140737488351232) ∧
  (ps = [] ∨ ∃ b off, a = some ⟨b, off, none⟩ ∧ b < w.heap.size ∧ ∀ (j : Nat) (p : Value × List Nat), ps[j]? = some p → w.cell? ⟨b, off + j, none⟩ = some p.1)

def in64 (x : Int) : Prop := -9223372036854775808 ≤ x ∧ x ≤ 9223372036854775807
set_option maxRecDepth 100000 in
theorem round_any {w : World} (x : Int) (n : Nat) (hx : in64 x) (hn : 1 ≤ n) (hn2 : n ≤ 4611686018427387904) : Calls Try.prog 15 #[.int .i64 x, .int .i64 (n : Int)] w fun e w' => (∃ r : Nat, r < n ∧ e = .returned (.int .i64 (r : Int))) ∧ w' = w := by
  obtain ⟨hx1, hx2⟩ := hx
  have h1 := Int.tmod_lt_of_pos x (show (0 : Int) < (n : Int) by omega)
  have h2 : -(n : Int) < x.tmod n := by
    have := Int.tmod_lt_of_pos (-x) (show (0 : Int) < (n : Int) by omega)
    rw [Int.neg_tmod] at this
    omega
  have h0 : ¬ (n : Int) = 0 := by omega
  by_cases hk : x.tmod n < 0
  · go_enter Try.func15, Try.ntmps15
    go_wp2
    go_ret
    refine ⟨⟨(x.tmod n + n).toNat, by omega, ?_⟩, rfl⟩
    show Ending.returned (Value.int .i64 _) = Ending.returned (Value.int .i64 _)
    congr 2; omega
  · go_enter Try.func15, Try.ntmps15
    go_wp2
    go_ret
    refine ⟨⟨(x.tmod n).toNat, by omega, ?_⟩, rfl⟩
    show Ending.returned (Value.int .i64 _) = Ending.returned (Value.int .i64 _)
    congr 2; omega
/-- behind k steps -/
def LoopL (w : World) (KL PL : Nat) (q vo vk : Value) (k : Nat) (wr : World) : Prop := ∃ q' ao no co ak nk ck ks vs t, q = .pointer q' ∧ vo = .slice ao no co ∧ vk = .slice ak nk ck ∧ no = vs.length ∧ nk = ks.length ∧ Sta w.heap.size wr q' (.slice ao no co) (.slice ak nk ck) ks vs t ∧ vs.length = k ∧ k ≤ KL ∧ k ≤ PL ∧ Kept [] w wr
theorem world_at {R C : World → Prop} {x : World} (h : R x) (H : ∀ wr, R wr → C wr) : C x := H x h

set_option maxRecDepth 100000 in
set_option maxHeartbeats 4000000 in
theorem lists_walk {w : World} {kv lv : Value} {ks0 : List Int} {ps : List (Value × List Nat)} {at0 mk : Int} (hk : SeesI w kv ks0) (hp : ListsA w lv ps) (hpl : ps.length ≤ 5864062014805) (hat : -9223372036854775808 ≤ at0 ∧ at0 ≤ 9223372036854775807) :
    Calls Try.prog 5 #[kv, lv, .int .i64 at0, .int .u8 mk] w fun e w' => e = .returned (.bool true) ∧ Below w.heap.size w w' := by
  obtain ⟨ka, kcap, rfl, k1, k2, k3⟩ := hk
  obtain ⟨la, lcap, rfl, l1, l2, l3, l4⟩ := hp
  have hkc : kcap ≤ 9223372036854775807 := by unfold maxLen at k2; omega
  have hlc : lcap ≤ 9223372036854775807 := by unfold maxLen at l2; omega
  have HK3 := hide k3
  have HL3 := hide l3
  have HL4 := hide l4
  have hkl : ks0.length ≤ 9223372036854775807 := by omega
  generalize hKL : ks0.length = KL at *
  have HKL := hide hKL
  generalize hPL : ps.length = PL at *
  have HPL := hide hPL
  clear k1 k2 k3 l1 l2 l3 l4 hKL hPL
  go_enter Try.func5, Try.ntmps5
  go_wp2_with fail
  have HS : Hid (LoopL w KL PL (.pointer none) (.slice none 0 0) (.slice none 0 0) 0 w) :=
    ⟨none, none, 0, 0, none, 0, 0, [], [], .nil, rfl, rfl, rfl, rfl, rfl, ⟨Tt.of_nil, ⟨by simp, Or.inl ⟨rfl, rfl⟩⟩, ⟨by simp [ints], Or.inl ⟨rfl, rfl⟩⟩, by simp, rfl, LastP.nil, List.Pairwise.nil, by simp [Tr.size]⟩, rfl, by omega, by omega, Kept.refl _ _⟩
  go_loopw [9, 10, 11, 12] (fun q vo vk i wr => ∃ k : Nat, i = .int .i64 (k : Int) ∧ LoopL w KL PL q vo vk k wr) (fun _ _ _ i _ => KL - (intOf i).toNat)
  case atStart => exact ⟨0, rfl, unhide HS⟩
  case round =>
    clear HS
    obtain ⟨k, rfl, q, ao, no, co, ak, nk, ck, ks, vs, t, rfl, rfl, rfl, hno, hnk, hsta, hvk, hkKL, hkPL, hkp⟩ := hrel
    by_cases hend : k < KL ∧ k < PL
    · obtain ⟨hk1, hk2⟩ := hend
      have t1 : ((k : Int) < (KL : Int)) = True := by simp only [eq_iff_iff, iff_true]; omega
      have t2 : ((k : Int) < (PL : Int)) = True := by simp only [eq_iff_iff, iff_true]; omega
      obtain ⟨kb, koff, rfl, hkb, hkc0⟩ : ∃ b off, ka = some ⟨b, off, none⟩ ∧ b < w.heap.size ∧ ∀ j, j < KL → w.cell? ⟨b, off + j, none⟩ = some (.int .i64 (ks0.getD j 0)) := by
        rcases unhide HK3 with h | h
        · have := unhide HKL; rw [h] at this; simp at this; omega
        · exact h
      have ck00 := hkc0 k hk1
      have ckk := hkp.cell' ck00
      generalize ks0.getD k 0 = key at ckk ck00
      have CK0 := hide ck00
      clear ck00
      obtain ⟨lb, loff, rfl, hlb, hlc0⟩ : ∃ b off, la = some ⟨b, off, none⟩ ∧ b < w.heap.size ∧ ∀ (j : Nat) (p : Value × List Nat), ps[j]? = some p → w.cell? ⟨b, off + j, none⟩ = some p.1 := by
        rcases unhide HL4 with h | h
        · have := unhide HPL; rw [h] at this; simp at this; omega
        · exact h
      obtain ⟨p, hp⟩ : ∃ p, ps[k]? = some p := ⟨ps[k]'(by rw [unhide HPL]; exact hk2), List.getElem?_eq_getElem _⟩
      have clk := hkp.cell' (hlc0 k p hp)
      obtain ⟨hsees, hplen⟩ := unhide HL3 p (List.mem_of_getElem? hp)
      obtain ⟨pv, pys⟩ := p
      simp only at clk hsees hplen
      have HSEE := hide (hsees.kept hkp (Or.inr (by simp)))
      obtain ⟨xa, xc, rfl, -, -, -, -⟩ := hsees
      have clk' : (wr.alloc (.cells #[.int .u8 1] 5)).cell? ⟨lb, loff + k, none⟩ = some (.slice xa pys.length xc) := ((Kept.refl [] wr).alloc _).cell' clk
      have HYL : Hid (pys.length ≤ 140737488351232) := hplen
      have HST := hide hsta
      have HKP := hide hkp
      have hvl : vs.length + 1 ≤ 5864062014805 := by omega
      have HVL : Hid (vs.length + 1 ≤ 5864062014805) := hvl
      have HVL2 : Hid (ks.length + 1 ≤ 5864062014805) := by have := hsta.len; show ks.length + 1 ≤ 5864062014805; omega
      have htz : t.size < 4611686018427384000 := by have := hsta.size; omega
      obtain ⟨YL, hYL⟩ : ∃ YL, pys.length = YL := ⟨_, rfl⟩
      rw [hYL] at clk clk' HSEE
      clear hYL
      have HNO := hide hno
      have HNK := hide hnk
      have HVK := hide hvk
      clear hkc0 hlc0 hp hsta hkp hplen hno hnk hvk
      go_wp2_with (first
        | (at_builtin; refine wpList_append_new wr rfl _ _ rfl rfl HKP rfl HSEE HYL ?_; intro g n c w2 HBY HK2; have ckk2 := (unhide HK2).cell' ckk; have hput := Put_any key (some ⟨g, 0, none⟩, n, c) ((unhide HST).tr.kept (unhide HK2)) htz; have HPU := hide hput; clear hput)
        | (go_at_call 17; refine (unhide HPU).mono ?_; rintro e w3 ⟨q3, rfl, ht3, hk3⟩; have ckk3 := hk3.cell' ckk2; have hm3 : Mem w.heap.size w3 q3 (.slice ao no co) (.slice ak nk ck) ks vs (vs ++ [(some ⟨g, 0, none⟩, n, c)]) (t.put key (some ⟨g, 0, none⟩, n, c)) := (by
            have h1 := (unhide HST).mem.kept ((unhide HK2).trans hk3 (by simp))
            refine ⟨ht3, h1.own, h1.of, fun x hx => ?_⟩
            rcases List.mem_append.1 hx with hx | hx
            · exact h1.byt x hx
            · simp at hx; subst hx; exact (unhide HBY).touch (Touch.of_kept (T := 0) hk3) (by decide)); have hka3 : Kept [] w3 (w3.alloc (.cells #[.slice (some ⟨g, 0, none⟩) n c] 48)) := (Kept.refl [] w3).alloc _; have HM3 := hide (hm3.kept hka3); have HK3W := hide ((((unhide HKP).trans (unhide HK2) (by simp)).trans hk3 (by simp)).trans hka3 (by simp)); have HB3 : Hid (Blk (w3.alloc (.cells #[.slice (some ⟨g, 0, none⟩) n c] 48)) w3.heap.size #[encS (some ⟨g, 0, none⟩, n, c)] 48) := Blk.new _ _ _; clear ht3 hk3 hm3 HPU hka3)
        | (at_builtin; refine wpList_append_lists _ rfl _ _ rfl rfl HK3W HM3 (some ⟨g, 0, none⟩, n, c) rfl HB3 HVL ?_; intro va4 n4 vc4 w4 HN4 HM4 HK4; have ckk4 := (unhide HK4).cell' (unhide CK0); have hka4 : Kept [] w4 (w4.alloc (.cells #[.int .i64 key] 3)) := (Kept.refl [] w4).alloc _; have HM5 := hide ((unhide HM4).kept hka4); have HK5 := hide ((unhide HK4).trans hka4 (by simp)); have HB5 : Hid (Blk (w4.alloc (.cells #[.int .i64 key] 3)) w4.heap.size #[.int .i64 key] 3) := Blk.new _ _ _; clear hka4 HK3W)
        | (at_builtin; refine wpList_append_keys _ rfl _ _ rfl rfl HK5 HM5 key rfl HB5 HVL2 ?_; intro va6 n6 vc6 w6 HN6 HM6 HK6))
      have hst := unhide HST
      have hfin : LoopL w KL PL (.pointer q3) (.slice va4 n4 vc4) (.slice va6 n6 vc6) (k + 1) w6 :=
        ⟨q3, va4, n4, vc4, va6, n6, vc6, ks ++ [key], vs ++ [(some ⟨g, 0, none⟩, n, c)], t.put key (some ⟨g, 0, none⟩, n, c), rfl, rfl, rfl, by have := unhide HN4; simpa using this, by have := unhide HN6; simpa using this,
          ⟨(unhide HM6).tr, (unhide HM6).own, (unhide HM6).of, (unhide HM6).byt, by simp [hst.len], hst.last.put hst.rise hst.len key _, Tr.rise_put t key _ hst.rise, by have := t.put_size key (some ⟨g, 0, none⟩, n, c); have := hst.size; simp; omega⟩, by have := unhide HVK; simp; omega, by omega, by omega, unhide HK6⟩
      refine ⟨⟨k + 1, by simp, hfin⟩, ?_⟩
      simp [intOf]; omega
    · have HST := hide hsta
      have HKP := hide hkp
      have HNO := hide hno
      have HNK := hide hnk
      have HVK := hide hvk
      have hvl : vs.length ≤ 5864062014805 := by omega
      clear hsta hkp hno hnk hvk
      have hnk2 : k ≤ 5864062014805 := by omega
      have hex : (((k : Int) < (KL : Int)) = False) ∨ ((((k : Int) < (KL : Int)) = True) ∧ (((k : Int) < (PL : Int)) = False)) := by
        by_cases h1 : k < KL
        · right; exact ⟨by simp only [eq_iff_iff, iff_true]; omega, by simp only [eq_iff_iff, iff_false]; omega⟩
        · left; simp only [eq_iff_iff, iff_false]; omega
      clear hend hkKL hkPL
      by_cases hv0 : vs.length = 0
      · have ht0 : t = .nil := by
          have := (unhide HST).size
          cases t with
          | nil => rfl
          | node l k x r => simp only [Tr.size] at this; omega
        subst ht0
        have hno0 : no = 0 := by rw [unhide HNO, hv0]
        subst hno0
        have HG := hide (Get_any 0 (unhide HST).tr)
        simp only [Tr.find, fv, Option.getD_none, Option.isSome_none] at HG
        clear hv0
        rcases hex with t1 | ⟨t1, t2⟩
        all_goals
          go_wp2_with (first
            | (go_at_call 18; refine (unhide HG).mono ?_; rintro e w3 ⟨rfl, hq⟩; have hq' := hq.symm; subst hq'))
          go_ret
          exact ⟨rfl, (unhide HKP).below _ (Nat.le_refl _) (by simp)⟩
      · have hst := unhide HST
        obtain ⟨hno1, go, rfl, -⟩ := hst.at_own (j := 0) (by omega)
        obtain ⟨hnk1, gk, rfl, -⟩ := hst.at_of (j := 0) (by rw [hst.len]; omega)
        have hnn : nk = no := by rw [hno1, hnk1, hst.len]
        subst hnn
        have hpos : 0 < nk := by omega
        have hn2 : nk ≤ 5864062014805 := by omega
        have z1 : ((nk : Int) = 0) = False := by simp only [eq_iff_iff, iff_false]; omega
        have z2 : (nk = 0) = False := by simp only [eq_iff_iff, iff_false]; omega
        have HRD := hide (round_any (w := wr) at0 nk hat hpos (by omega))
        have HBE := hide ((unhide HKP).below w.heap.size (Nat.le_refl _) (by simp))
        have HLEN := hide hno1
        clear hno1 hnk1 hst hv0 hvl
        rcases hex with t1 | ⟨t1, t2⟩
        all_goals
          go_wp2_with (first
            | (go_at_call 15; refine (unhide HRD).mono ?_; rintro e w3 ⟨⟨r, hr, rfl⟩, hq⟩; have hq' := hq.symm; subst hq'; obtain ⟨-, go', hga, hcell⟩ := (unhide HST).at_own (j := r) (by rw [← unhide HLEN]; exact hr); obtain rfl : go = go' := (by simpa using hga); clear hga; obtain ⟨g, n1, c1, hx, hn1, hn1b, hgb, cs, b0, hh, hc0⟩ := (unhide HST).byt _ (List.getElem_mem (by rw [← unhide HLEN]; exact hr)); rw [hx] at hcell; simp only [encS] at hcell; have hcb := (Blk.cell (show Blk wr g cs 5 from hh) 0).trans hc0; have hfz := Blk.frozen (show Blk wr g cs 5 from hh) 0; have hr1 : (0 : Int) ≤ (r : Int) := (by omega); have hr2 : (r : Int) < (nk : Int) := (by omega); have hn1' : (0 : Int) < (n1 : Int) := (by omega); have HS2 := hide ((unhide HST).set hh 0 mk); have HB2 := hide ((unhide HBE).setCell (p := ⟨g, 0, none⟩) hgb (.int .u8 mk)); clear HRD hx hh hc0))
          refine world_at (R := fun W => Sta w.heap.size W q (.slice (some ⟨go, 0, none⟩) nk co) (.slice (some ⟨gk, 0, none⟩) nk ck) ks vs t ∧ Below w.heap.size w W) ⟨unhide HS2, unhide HB2⟩ ?_
          rintro w4 ⟨hs4, hb4⟩
          have HS4 := hide hs4
          have HB4 := hide hb4
          clear hs4 hb4 HS2 HB2 hcell hcb hfz HKP HST HBE
          go_loopw [17] (fun i wr => ∃ m : Nat, i = .int .i64 (m : Int) ∧ m ≤ nk ∧ Sta w.heap.size wr q (.slice (some ⟨go, 0, none⟩) nk co) (.slice (some ⟨gk, 0, none⟩) nk ck) ks vs t ∧ Below w.heap.size w wr) (fun i _ => nk - (intOf i).toNat)
          case atStart => exact ⟨0, rfl, by omega, unhide HS4, unhide HB4⟩
          case round =>
            clear HS4 HB4 w4
            obtain ⟨m, rfl, hm, hs5, hb5⟩ := hrel
            have HS5 := hide hs5
            have HB5 := hide hb5
            clear hs5 hb5
            by_cases hme : m = nk
            · subst hme
              have t3 : ((m : Int) < (m : Int)) = False := by simp
              go_wp2
              go_ret
              exact ⟨rfl, unhide HB5⟩
            have hml : m < nk := by omega
            have t3 : ((m : Int) < (nk : Int)) = True := by simp only [eq_iff_iff, iff_true]; omega
            have hkl2 : ks.length = nk := by rw [(unhide HS5).len]; exact (unhide HLEN).symm
            have HKL2 := hide hkl2
            obtain ⟨key, hkey⟩ : ∃ key, ks[m]? = some key := ⟨ks[m]'(by omega), List.getElem?_eq_getElem _⟩
            have HKEY := hide hkey
            clear hkl2 hkey
            go_wp2_with fail
            go_loopw [18, 19] (fun la jv w' => ∃ l j : Nat, la = .int .i64 (l : Int) ∧ jv = .int .i64 (j : Int) ∧ l < nk ∧ j ≤ nk ∧ ks[l]? = some key ∧ (∀ (x : Nat) (k' : Int), l < x → x < j → ks[x]? = some k' → k' ≠ key) ∧ Sta w.heap.size w' q (.slice (some ⟨go, 0, none⟩) nk co) (.slice (some ⟨gk, 0, none⟩) nk ck) ks vs t ∧ Below w.heap.size w w') (fun _ jv _ => nk - (intOf jv).toNat)
            case atStart => exact ⟨m, m, rfl, rfl, hml, by omega, unhide HKEY, by intro x k' h1 h2; omega, unhide HS5, unhide HB5⟩
            case round =>
              clear HS5 HB5
              obtain ⟨l, j, rfl, rfl, hl, hj, hkl, hbt, hs6, hb6⟩ := hrel
              have HS6 := hide hs6
              have HB6 := hide hb6
              have HKLL := hide hkl
              have HBT := hide hbt
              clear hkl hbt
              obtain ⟨-, gk1, ea1, cm⟩ := hs6.at_of (j := m) (by rw [unhide HKL2]; exact hml)
              obtain rfl : gk = gk1 := by simpa using ea1
              have ekm : ks[m]'(by rw [unhide HKL2]; exact hml) = key := by have := unhide HKEY; rw [List.getElem?_eq_getElem (by rw [unhide HKL2]; exact hml)] at this; exact Option.some.inj this
              rw [ekm] at cm
              clear ekm ea1
              have hm1 : (0 : Int) ≤ (m : Int) := by omega
              by_cases hje : j = nk
              · have hlast : t.find key = some (key, vs[l]'(by rw [← unhide HLEN]; exact hl)) := hs6.last l key _ (unhide HKLL) (List.getElem?_eq_getElem _) (fun x k' h1 h2 => unhide HBT x k' h1 (by have := (List.getElem?_eq_some_iff.1 h2).1; rw [unhide HKL2] at this; omega) h2)
                have HG := hide (Get_any key hs6.tr)
                rw [hlast] at HG
                obtain ⟨-, go1, ea2, cl⟩ := hs6.at_own (j := l) (by rw [← unhide HLEN]; exact hl)
                obtain rfl : go = go1 := by simpa using ea2
                obtain ⟨g2, n2, c2, hx2, hn2a, hn2b, hg2b, cs2, b2, hh2, hc2⟩ := hs6.byt _ (List.getElem_mem (show l < vs.length by rw [← unhide HLEN]; exact hl))
                rw [hx2] at cl HG
                simp only [encS, fv, Option.getD_some, Option.isSome_some] at cl HG
                have cb := (Blk.cell (show Blk wr g2 cs2 5 from hh2) 0).trans hc2
                have fz := Blk.frozen (show Blk wr g2 cs2 5 from hh2) 0
                have HH2 := hide hh2
                have hn2' : (0 : Int) < (n2 : Int) := by omega
                have hn2n : 0 < n2 := by omega
                have t4 : ((j : Int) < (nk : Int)) = False := by simp only [eq_iff_iff, iff_false]; omega
                have l1 : (0 : Int) ≤ (l : Int) := by omega
                have l2 : (l : Int) < (nk : Int) := by omega
                subst hje
                have hs7 : Sta w.heap.size (wr.setCell ⟨g2, 0, none⟩ (.int .u8 ((l : Int) % 256))).drew q (.slice (some ⟨go, 0, none⟩) j co) (.slice (some ⟨gk, 0, none⟩) j ck) ks vs t := (hs6.set hh2 0 ((l : Int) % 256)).kept (Kept.refl _ _).drew
                have hb7 : Below w.heap.size w (wr.setCell ⟨g2, 0, none⟩ (.int .u8 ((l : Int) % 256))).drew := by
                  have h1 := hb6.setCell (p := ⟨g2, 0, none⟩) hg2b (.int .u8 ((l : Int) % 256))
                  exact h1.trans (((Kept.refl [] _).drew).below _ h1.size (by simp))
                have HS7 := hide (show _ ∧ _ from ⟨hs7, hb7⟩)
                obtain ⟨-, go2, ea4, cl7⟩ := hs7.at_own (j := l) (by rw [← unhide HLEN]; exact hl)
                obtain rfl : go = go2 := by simpa using ea4
                rw [hx2] at cl7
                simp only [encS] at cl7
                have cb7 : (wr.setCell ⟨g2, 0, none⟩ (.int .u8 ((l : Int) % 256))).drew.cell? ⟨g2, 0, none⟩ = some (.int .u8 ((l : Int) % 256)) := World.cell?_setCell_same' _ _ _ (by rw [cb]; rfl)
                clear hs6 hb6 hx2 hh2 hc2 hlast ea2 ea4 hs7 hb7
                go_wp2_with (first
                  | (go_at_call 18; refine (unhide HG).mono ?_; rintro e w7 ⟨rfl, hq⟩; have hq' := hq.symm; subst hq')
                  | fail)
                go_region_held3 (fun w' => w'.cell? ⟨go, l, none⟩ = some (.slice (some ⟨g2, 0, none⟩) n2 c2) ∧ w'.cell? ⟨g2, 0, none⟩ = some (.int .u8 b2)) (go_keep) (fail)
                all_goals go_wp2
                all_goals
                  refine ⟨⟨m + 1, by simp, by omega, (unhide HS7).1, (unhide HS7).2⟩, ?_⟩
                  simp [intOf]; omega
              · have hjl : j < nk := by omega
                have t4 : ((j : Int) < (nk : Int)) = True := by simp only [eq_iff_iff, iff_true]; omega
                obtain ⟨kj, hkj⟩ : ∃ kj, ks[j]? = some kj := ⟨ks[j]'(by rw [unhide HKL2]; exact hjl), List.getElem?_eq_getElem _⟩
                obtain ⟨-, gk2, ea3, cj⟩ := hs6.at_of (j := j) (by rw [unhide HKL2]; exact hjl)
                obtain rfl : gk = gk2 := by simpa using ea3
                have ekj : ks[j]'(by rw [unhide HKL2]; exact hjl) = kj := by rw [List.getElem?_eq_getElem (by rw [unhide HKL2]; exact hjl)] at hkj; exact Option.some.inj hkj
                rw [ekj] at cj
                have HSD : Hid (Sta w.heap.size wr.drew q (.slice (some ⟨go, 0, none⟩) nk co) (.slice (some ⟨gk, 0, none⟩) nk ck) ks vs t ∧ Below w.heap.size w wr.drew) := ⟨hs6.kept (Kept.refl _ _).drew, hb6.trans (((Kept.refl [] wr).drew).below _ hb6.size (by simp))⟩
                have HKJ := hide hkj
                have j1 : (0 : Int) ≤ (j : Int) := by omega
                clear hs6 hb6 ekj ea3 hkj
                by_cases hkk : kj = key
                · subst hkk
                  go_wp2_with fail
                  go_region_held3 (fun w' => w'.cell? ⟨gk, j, none⟩ = some (.int .i64 kj) ∧ w'.cell? ⟨gk, m, none⟩ = some (.int .i64 kj)) (go_keep) (fail)
                  all_goals go_wp2
                  all_goals
                    refine ⟨⟨j, j + 1, rfl, by simp, hjl, by omega, unhide HKJ, ?_, (unhide HSD).1, (unhide HSD).2⟩, ?_⟩
                    · intro x k' h1 h2; omega
                    · simp [intOf]; omega
                · have t5 : (kj = key) = False := by simp only [eq_iff_iff, iff_false]; exact hkk
                  go_wp2_with fail
                  go_region_held3 (fun w' => w'.cell? ⟨gk, j, none⟩ = some (.int .i64 kj) ∧ w'.cell? ⟨gk, m, none⟩ = some (.int .i64 key)) (go_keep) (fail)
                  all_goals go_wp2
                  all_goals
                    refine ⟨⟨l, j + 1, rfl, by simp, hl, by omega, unhide HKLL, ?_, (unhide HSD).1, (unhide HSD).2⟩, ?_⟩
                    · intro x k' h1 h2 h3
                      by_cases hxj : x = j
                      · subst hxj; rw [unhide HKJ] at h3; cases h3; exact hkk
                      · exact unhide HBT x k' h1 (by omega) h3
                    · simp [intOf]; omega
end Go.Proofs.Ytbpeeifgfjpghaa
