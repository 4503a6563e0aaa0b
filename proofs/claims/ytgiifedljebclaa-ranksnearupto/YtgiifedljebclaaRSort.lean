/- sorted: numbers by rising size. -/
import Derived.Test.YtgiifedljebclaaRGk2
import Derived.Test.YtgiifedljebclaaRApp
namespace Go.Proofs.Ytgiifedljebclaa
open Go.RowKit

theorem own_set {w : World} {base n cap g k : Nat} {c : List Int} {x : Int} (ho : w.ownsRow base 3 1 (.slice (some ⟨g, 0, none⟩) n cap) n (ints c)) :
    (w.setCell ⟨g, k, none⟩ (.int .i64 x)).ownsRow base 3 1 (.slice (some ⟨g, 0, none⟩) n cap) n (ints (c.set k x)) := by
  rcases ho.2 with ⟨h1, _⟩ | ⟨g', cap', cur, hv, hb, hg, hc, hm, hs, ht⟩
  · cases h1
  · cases hv
    have hlen := ho.1
    refine ⟨by simpa [ints] using hlen, Or.inr ⟨g, cap, _, rfl, hb, Blk.set hg k (.int .i64 x), hc, hm, by simpa using hs, ?_⟩⟩
    rw [Nat.mul_one] at ht ⊢
    have e : ints (c.set k x) = (ints c).set k (.int .i64 x) := by simp [ints, List.map_set]
    rw [e, ← ht]
    simp [List.take_set]
theorem own_get {w : World} {base n cap g : Nat} {c : List Int} (ho : w.ownsRow base 3 1 (.slice (some ⟨g, 0, none⟩) n cap) n (ints c)) {k : Nat} (hk : k < n) : w.cell? ⟨g, k, none⟩ = some (.int .i64 (c.getD k 0)) ∧ w.frozen? ⟨g, k, none⟩ = false := by
  have hl : c.length = n := by have := ho.1; simpa [ints] using this
  have h1 := ho.cells (g := g) rfl k _ (ints_at c (by omega))
  have hadd : (⟨g, 0, none⟩ : Addr).add k = ⟨g, k, none⟩ := by unfold Addr.add; split <;> simp_all
  rw [hadd] at h1
  refine ⟨h1, ?_⟩
  rcases ho.2 with ⟨h2, _⟩ | ⟨g', cap', cur, hv, hb, hg, _⟩
  · cases h2
  · cases hv; exact Blk.frozen hg k

/-- a row with a number in place k of it -/
def mid3 (R : List Int) (k : Nat) (c : Int) : List Int := R.take k ++ c :: R.drop k
theorem mid3_len {R : List Int} {k : Nat} {c : Int} (hk : k ≤ R.length) : (mid3 R k c).length = R.length + 1 := by simp [mid3]; omega
theorem mid3_at {R : List Int} {k : Nat} {c : Int} (hk : k + 1 ≤ R.length) : (mid3 R (k + 1) c).getD k 0 = R.getD k 0 := by
  unfold mid3
  simp only [List.getD]
  rw [List.getElem?_append_left (by simp; omega), List.getElem?_take, if_pos (by omega)]
theorem mid3_set {R : List Int} {k : Nat} {c x : Int} (hk : k ≤ R.length) : (mid3 R k c).set k x = mid3 R k x := by
  unfold mid3
  rw [List.set_append_right _ _ (by simp; omega)]
  simp [show k - min k R.length = 0 by omega]
theorem mid3_shift {R : List Int} {k : Nat} (hk : k + 1 ≤ R.length) : mid3 R (k + 1) (R.getD k 0) = mid3 R k (R.getD k 0) := by
  unfold mid3
  have hg : R[k]? = some (R.getD k 0) := by simp [List.getD, List.getElem?_eq_getElem (show k < R.length by omega)]
  rw [List.take_add_one, hg, List.append_assoc]
  congr 1
  have : R.drop k = R.getD k 0 :: R.drop (k + 1) := by
    rw [List.drop_eq_getElem_cons (by omega)]
    simp [List.getD, List.getElem?_eq_getElem (show k < R.length by omega)]
  rw [this]
  rfl

structure Srt (l R : List Int) : Prop where
  perm : R.Perm l
  rise : R.Pairwise (· ≤ ·)
theorem srt_mid {l R : List Int} {x : Int} {k : Nat} (h : Srt l R) (hk : k ≤ R.length) (hlo : k = 0 ∨ R.getD (k - 1) 0 ≤ x) (hhi : ∀ z ∈ R.drop k, x < z) : Srt (l ++ [x]) (mid3 R k x) := by
  have e := List.take_append_drop k R
  refine ⟨?_, ?_⟩
  · unfold mid3
    refine List.perm_middle.trans ?_
    rw [e]
    exact (List.Perm.cons x h.perm).trans (List.perm_append_comm (l₁ := [x]) (l₂ := l))
  · have hr := h.rise
    rw [← e] at hr
    obtain ⟨p1, p2, p3⟩ := List.pairwise_append.1 hr
    unfold mid3
    refine List.pairwise_append.2 ⟨p1, List.pairwise_cons.2 ⟨fun z hz => Int.le_of_lt (hhi z hz), p2⟩, fun a ha b hb => ?_⟩
    rcases List.mem_cons.1 hb with rfl | hb
    · rcases hlo with rfl | hlo
      · simp at ha
      · obtain ⟨j, hj, rfl⟩ := List.getElem_of_mem ha
        rw [List.length_take] at hj
        rw [List.getElem_take]
        have hk1 : k - 1 < R.length := by omega
        have h2 : R.getD (k - 1) 0 = R[k - 1] := by simp [List.getD, List.getElem?_eq_getElem hk1]
        rw [h2] at hlo
        rcases Nat.lt_or_ge j (k - 1) with h3 | h3
        · have := List.pairwise_iff_getElem.1 h.rise j (k - 1) (by omega) hk1 h3
          omega
        · have : j = k - 1 := by omega
          subst this; exact hlo
    · exact p3 a ha b hb

set_option maxHeartbeats 1000000 in
set_option maxRecDepth 100000 in
theorem sorted_any {w : World} {v : Value} {l : List Int} (hs : SeesI w v l) (hl : l.length ≤ 549755813888) :
    Calls Try.prog 41 #[v] w fun e w' => ∃ a c R, e = .returned (.slice a R.length c) ∧ Srt l R ∧ w'.ownsRow w.heap.size 3 1 (.slice a R.length c) R.length (ints R) ∧ Kept [] w w' := by
  have HS := hide hs
  obtain ⟨p, pc, rfl, hc1, hc2, -⟩ := hs
  generalize hL : l.length = L at *
  have HL := hide hL
  clear hL
  obtain ⟨i0, hi, hz0, hz1, hz2⟩ := info_parts info3p
  go_enter Try.func41, Try.ntmps41
  go_wp2_with fail
  have HI := hide (show Try.prog.info? 3 = some i0 ∧ i0.zero = some (Value.int .i64 0) ∧ i0.size = 1 ∧ i0.bytes = 8 from ⟨hi, hz0, hz1, hz2⟩)
  clear hi hz0 hz1 hz2
  go_loopw [3, 4] (fun s3 s4 wr => ∃ (k : Nat) (a : Option Addr) (c : Nat) (R : List Int), k ≤ L ∧ s4 = .int .i64 k ∧ s3 = .slice a R.length c ∧ R.length = k ∧ Srt (l.take k) R ∧ wr.ownsRow w.heap.size 3 1 (.slice a R.length c) R.length (ints R) ∧ Kept [] w wr) (fun _ s4 _ => L - (intOf s4).toNat)
  case atStart => exact ⟨0, none, 0, [], by omega, rfl, rfl, rfl, ⟨by simp, List.Pairwise.nil⟩, World.ownsRow_nil _ _ _ _, Kept.refl _ _⟩
  case round =>
    obtain ⟨k, a, c, R, hk, rfl, rfl, hRk, hsr, ho, hkp⟩ := hrel
    have HO := hide ho
    have HK := hide hkp
    have HSR := hide hsr
    clear ho hkp hsr
    by_cases hkl : k < L
    · have t1 : ((k : Int) < (L : Int)) = True := by simp; omega
      obtain ⟨a', c', hv, -, -, h4⟩ := (unhide HS).kept (unhide HK) (Or.inr (by simp))
      have hv1 : a' = p := by injection hv with h1; exact h1.symm
      subst hv1
      obtain ⟨bv, ov, hpv, hcv⟩ := at_int (k := k) (unhide HL) h4 hkl
      subst hpv
      clear hv h4
      have HTK : Hid (l.take (k + 1) = l.take k ++ [l.getD k 0]) := by
        have hk' : k < l.length := by rw [unhide HL]; exact hkl
        exact (show _ = _ by
          rw [List.take_add_one, List.getElem?_eq_getElem hk', Option.toList_some]
          simp [List.getD, List.getElem?_eq_getElem hk'])
      have HCV : Hid (∀ W, Kept [] w W → W.cell? ⟨bv, ov + k, none⟩ = some (.int .i64 (l.getD k 0))) := by
        intro W hk2
        obtain ⟨a', c', hv, -, -, h4⟩ := (unhide HS).kept hk2 (Or.inr (by simp))
        have hv1 : a' = some ⟨bv, ov, none⟩ := by injection hv with h1; exact h1.symm
        subst hv1
        obtain ⟨bv', ov', hpv, hcv'⟩ := at_int (k := k) (unhide HL) h4 hkl
        cases hpv
        exact hcv'
      generalize l.getD k 0 = x at *
      rw [hRk] at HO ⊢
      have HRK := hide hRk
      clear hRk
      go_wp2_with (at_builtin; refine wpList_append_own_at _ rfl _ _ 22 rfl w.heap.size 3 i0 _ 1 8 Try.underlying22 (unhide HI).1 (unhide HI).2.1 (unhide HI).2.2.1 (unhide HI).2.2.2 rfl (by decide) (.slice a k c) k (ints R) rfl ((unhide HO).alloc _) ⟨wr.heap.size, 0, none⟩ 1 1 [.int .i64 x] rfl rfl (cell_one_new _ _ _) (by simp [Value.oneCell']) (by unfold maxLen; omega) (by omega) (by have := (unhide HK).size; simp; omega) ?_; intro v' w2 hown' hgrow hnil hloc; obtain ⟨va, vc, hvv⟩ := own_len hown'; subst hvv)
      obtain ⟨g, hg⟩ : ∃ g, va = some ⟨g, 0, none⟩ := by
        rcases hown'.2 with ⟨h1, h2⟩ | ⟨g, cap, cur, hv, _⟩
        · omega
        · cases hv; exact ⟨g, rfl⟩
      subst hg
      have HR : Hid (R.length = k) := HRK
      have HO1 : Hid (w2.ownsRow w.heap.size 3 1 (.slice (some ⟨g, 0, none⟩) (k + 1) vc) (k + 1) (ints (mid3 R k x))) := by
        have e : ints (mid3 R k x) = ints R ++ [.int .i64 x] := by
          have := unhide HR
          unfold mid3
          rw [List.take_of_length_le (by omega), List.drop_of_length_le (by omega)]
          simp [ints]
        exact (show w2.ownsRow w.heap.size 3 1 (.slice (some ⟨g, 0, none⟩) (k + 1) vc) (k + 1) (ints (mid3 R k x)) by rw [e]; exact hown')
      have HK1 : Hid (Kept [] w w2) := ((unhide HK).alloc _).grown hgrow (fun k hk => Or.inr ((unhide HO).lt k hk).1)
      have HGW : Hid (w.heap.size ≤ g) := (hown'.lt g rfl).1
      clear hown' hgrow hnil hloc hcv
      generalize hm : k + 1 = m at *
      have HMK := hide hm
      have hkm : k < m := by omega
      clear hm
      go_loopw [5] (fun s5 wi => ∃ (j : Nat) (y : Int), j ≤ k ∧ s5 = .int .i64 j ∧ wi.ownsRow w.heap.size 3 1 (.slice (some ⟨g, 0, none⟩) m vc) m (ints (mid3 R j y)) ∧ Kept [] w wi ∧ ∀ z ∈ R.drop j, x < z) (fun s5 _ => (intOf s5).toNat)
      case atStart => exact ⟨k, x, Nat.le_refl _, rfl, unhide HO1, unhide HK1, by intro z hz; have := unhide HR; rw [List.drop_of_length_le (by omega)] at hz; cases hz⟩
      case round =>
        rename_i wi _
        obtain ⟨j, y, hj, rfl, hoj, hkj, hdj⟩ := hrel
        have hRl := unhide HR
        have HOJ := hide hoj
        have HKJ := hide hkj
        have HDJ := hide hdj
        have hcx := unhide HCV _ hkj
        by_cases hj0 : j = 0
        · subst hj0
          have s0 := own_get hoj (k := 0) (by omega)
          obtain ⟨s1, s2⟩ := s0
          clear hoj hkj hdj hRl
          go_wp2_with fail
          go_region
          all_goals go_wp2_with fail
          all_goals (
            have hRl := unhide HR
            refine ⟨⟨k + 1, _, _, mid3 R 0 x, by omega, by simp, by rw [mid3_len (by omega), hRl, unhide HMK], by rw [mid3_len (by omega), hRl], ?_, ?_, ?_⟩, by simp [intOf]; omega⟩
            · rw [unhide HMK, unhide HTK]; exact srt_mid (unhide HSR) (by omega) (Or.inl rfl) (unhide HDJ)
            · rw [mid3_len (by omega), hRl, unhide HMK]
              have := own_set (x := x) (k := 0) (unhide HOJ)
              rw [mid3_set (by omega)] at this
              exact this
            · exact ((unhide HKJ).setCell (p := ⟨g, 0, none⟩) (Or.inr (unhide HGW)) _).drew)
        · obtain ⟨i, rfl⟩ : ∃ i, j = i + 1 := ⟨j - 1, by omega⟩
          have s0 := own_get hoj (k := i) (by omega)
          rw [mid3_at (by omega)] at s0
          obtain ⟨s1, s2⟩ := s0
          obtain ⟨s3, s4⟩ := own_get hoj (k := i + 1) (by omega)
          generalize (mid3 R (i + 1) y).getD (i + 1) 0 = y2 at *
          obtain ⟨z, hz⟩ : ∃ z, R.getD i 0 = z := ⟨_, rfl⟩
          rw [hz] at s1
          have HZ := hide hz
          clear hoj hkj hdj hRl hz
          generalize hJ : i + 1 = j at *
          have hji : (j : Int) - 1 = (i : Int) := by omega
          have hik : i < m := by omega
          have hjk : j < m := by omega
          have HJ := hide hJ
          clear hJ
          have t2 : ((0 : Int) < (j : Int)) = True := by simp; omega
          have t2n : 0 < j := by omega
          have hwi : IntKind.i64.wrap (i : Int) = (i : Int) := by rw [IntKind.wrap_i64]; omega
          have hib : (i : Int) < (m : Int) := by omega
          by_cases hzx : x < z
          · have t3 : (x < z) = True := eq_true hzx
            go_wp2_with fail
            go_region_held3 (fun w' => w'.cell? ⟨g, i, none⟩ = some (.int .i64 z) ∧ w'.cell? ⟨bv, ov + k, none⟩ = some (.int .i64 x)) (go_keep) (fail)
            all_goals go_wp2_with fail
            all_goals (
              have hRl := unhide HR
              have hj' := unhide HJ
              subst hj'
              refine ⟨⟨i, z, by omega, rfl, ?_, ((unhide HKJ).setCell (p := ⟨g, i + 1, none⟩) (Or.inr (unhide HGW)) _).drew, fun u hu => ?_⟩, by simp [intOf]⟩
              · have := own_set (x := z) (k := i + 1) (unhide HOJ)
                rw [mid3_set (by omega)] at this
                rw [← unhide HZ] at this ⊢
                rw [mid3_shift (by omega)] at this
                exact this
              · rw [List.drop_eq_getElem_cons (by omega)] at hu
                rcases List.mem_cons.1 hu with rfl | hu
                · have := unhide HZ
                  simp [List.getD, List.getElem?_eq_getElem (show i < R.length by omega)] at this
                  rw [this]; exact hzx
                · exact unhide HDJ u hu)
          · have t3 : (x < z) = False := eq_false hzx
            go_wp2_with fail
            go_region_held3 (fun w' => w'.cell? ⟨g, i, none⟩ = some (.int .i64 z) ∧ w'.cell? ⟨bv, ov + k, none⟩ = some (.int .i64 x)) (go_keep) (fail)
            all_goals go_wp2_with fail
            all_goals (
              have hRl := unhide HR
              have hj' := unhide HJ
              subst hj'
              refine ⟨⟨k + 1, _, _, mid3 R (i + 1) x, by omega, by simp, by rw [mid3_len (by omega), hRl, unhide HMK], by rw [mid3_len (by omega), hRl], ?_, ?_, ?_⟩, by simp [intOf]; omega⟩
              · rw [unhide HMK, unhide HTK]
                exact srt_mid (unhide HSR) (by omega) (Or.inr (by rw [Nat.add_sub_cancel, unhide HZ]; omega)) (unhide HDJ)
              · rw [mid3_len (by omega), hRl, unhide HMK]
                have := own_set (x := x) (k := i + 1) (unhide HOJ)
                rw [mid3_set (by omega)] at this
                exact this
              · exact ((unhide HKJ).setCell (p := ⟨g, i + 1, none⟩) (Or.inr (unhide HGW)) _).drew)
    · obtain rfl : k = L := by omega
      have t1 : ((k : Int) < (k : Int)) = False := by simp
      have he : l.take k = l := List.take_of_length_le (by rw [unhide HL]; omega)
      rw [he] at HSR
      clear he
      go_wp2
      go_ret
      exact ⟨a, c, R, rfl, unhide HSR, unhide HO, unhide HK⟩
end Go.Proofs.Ytgiifedljebclaa
