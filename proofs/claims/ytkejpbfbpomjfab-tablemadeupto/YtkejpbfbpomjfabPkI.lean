/- Texts laid one behind the other: CFind CLeanL CLeanH CEven CJoin CPut CCut CWith. -/
import Derived.Test.YtkejpbfbpomjfabPkG
import Derived.Test.YtkejpbfbpomjfabPkH
/- An entry found, a rank, a place. -/
namespace Go.Proofs.Ytkejpbfbpomjfab.tre
open Go.RowKit

theorem Nd.one {w : World} {t : TI} : ∀ {p : Option Addr} {s : TI}, Nd w p t → Nd w p s → t = s := by
  induction t with
  | nil => intro p s h1 h2; have h1 : p = none := h1; subst h1; exact h2.is_none.symm
  | node l k x r ihl ihr =>
    intro p s h1 h2
    obtain ⟨b, pl, pr, rfl, hb, hl, hr⟩ := h1
    cases s with
    | nil => cases h2
    | node l2 k2 x2 r2 =>
      obtain ⟨b', pl', pr', e, hb', hl', hr'⟩ := h2
      cases e
      unfold Blk at hb hb'
      rw [hb] at hb'
      simp only [Option.some.injEq, Obj.cells.injEq, Array.mk.injEq, List.cons.injEq, Value.int.injEq, Value.string.injEq, Value.pointer.injEq, true_and, and_true] at hb'
      obtain ⟨rfl, e1, e2, rfl, rfl, _⟩ := hb'
      obtain rfl : x = x2 := Prod.ext e1 e2
      rw [ihl hl hl', ihr hr hr']
open Classical in
/-- how many entries the tree at this pointer has -/
noncomputable def szOf (w : World) (i : Value) : Nat := if h : ∃ s : TI, ∃ p, i = .pointer p ∧ Nd w p s then (Classical.choose h).size else 0
theorem szOf_eq {w : World} {p : Option Addr} {s : TI} (h : Nd w p s) : szOf w (.pointer p) = s.size := by
  have hx : ∃ s : TI, ∃ q, Value.pointer p = .pointer q ∧ Nd w q s := ⟨s, p, rfl, h⟩
  unfold szOf
  rw [dif_pos hx]
  obtain ⟨q, e, hq⟩ := Classical.choose_spec hx
  cases e
  rw [hq.one h]

set_option maxRecDepth 100000 in
set_option maxHeartbeats 4000000 in
theorem find_any {w : World} {p : Option Addr} {t : TI} (k : ByteArray) (h : Nd w p t) :
    Calls Try.prog 89 #[.pointer p, .string k] w fun e w' => (∃ p, e = .returned (.pointer p) ∧ ((t.find k = none ∧ p = none) ∨ ∃ k' x, t.find k = some (k', x) ∧ Mid w p k' x)) ∧ w' = w := by
  have H := hide h
  clear h
  go_enter Try.func89, Try.ntmps89
  go_wp2_with fail
  go_loopw [0] (fun i wr => ∃ p s, i = .pointer p ∧ Nd w p s ∧ t.find k = s.find k ∧ wr = w) (fun i _ => szOf w i)
  case atStart => exact ⟨p, t, rfl, unhide H, rfl, rfl⟩
  case round =>
    clear H p
    obtain ⟨p, s, rfl, hs, hf, rfl⟩ := hrel
    have HZ := hide (szOf_eq hs)
    cases s with
    | nil =>
      have hs : p = none := hs
      subst hs
      go_wp2
      go_ret
      exact ⟨⟨none, rfl, Or.inl ⟨hf, rfl⟩⟩, rfl⟩
    | node l k' x' r =>
      have HM := hide hs.mid
      have HF := hide hf
      obtain ⟨g, pa, pb, rfl, hb, hl, hr⟩ := hs
      obtain ⟨c0, -, -, c2, c3, -, -⟩ := seven hb
      have HB := hide hb
      have HL := hide hl
      have HR := hide hr
      clear hb hl hr hf
      rcases Bool.eq_false_or_eq_true (KOrd.lt k k') with h1 | h1
      · have hR : (Tr.node l k' x' r).find k = l.find k := by simp only [Tr.find, h1, if_true]
        rw [hR] at HF
        have HC := hide (cmp_lt (w := wr) h1)
        have HS := hide (side_low rfl (unhide HB))
        clear hR HB
        go_wp2_with (first
          | (go_at_call 92; refine (unhide HC).mono ?_; rintro e w3 ⟨rfl, hq⟩; have hq' := hq.symm; subst hq')
          | (go_at_call 77; refine (unhide HS).mono ?_; rintro e w3 ⟨rfl, hq⟩; have hq' := hq.symm; subst hq'))
        refine ⟨⟨_, l, rfl, unhide HL, unhide HF, by first | rfl | trivial⟩, ?_⟩
        rw [szOf_eq (unhide HL), unhide HZ]; simp only [Tr.size]; omega
      rcases Bool.eq_false_or_eq_true (KOrd.lt k' k) with h2 | h2
      · have hR : (Tr.node l k' x' r).find k = r.find k := by simp only [Tr.find, h1, h2, if_true, Bool.false_eq_true, if_false]
        rw [hR] at HF
        have HC := hide (cmp_gt (w := wr) h2)
        have HS := hide (side_high rfl (unhide HB))
        clear hR HB
        go_wp2_with (first
          | (go_at_call 92; refine (unhide HC).mono ?_; rintro e w3 ⟨rfl, hq⟩; have hq' := hq.symm; subst hq')
          | (go_at_call 77; refine (unhide HS).mono ?_; rintro e w3 ⟨rfl, hq⟩; have hq' := hq.symm; subst hq'))
        refine ⟨⟨_, r, rfl, unhide HR, unhide HF, by first | rfl | trivial⟩, ?_⟩
        rw [szOf_eq (unhide HR), unhide HZ]; simp only [Tr.size]; omega
      · have hR : (Tr.node l k' x' r).find k = some (k', x') := by simp only [Tr.find, h1, h2, Bool.false_eq_true, if_false]
        rw [hR] at HF
        have HC := hide (cmp_eq (w := wr) (klt_tri h2 h1))
        clear hR HB
        go_wp2_with (first
          | (go_at_call 92; refine (unhide HC).mono ?_; rintro e w3 ⟨rfl, hq⟩; have hq' := hq.symm; subst hq'))
        go_ret
        exact ⟨⟨_, rfl, Or.inr ⟨k', x', unhide HF, unhide HM⟩⟩, rfl⟩

set_option maxRecDepth 100000 in
set_option maxHeartbeats 4000000 in
theorem rank_any {w : World} {p : Option Addr} {t : TI} (k : ByteArray) (h : Nd w p t) (hz : t.size < 4611686018427387000) :
    Calls Try.prog 95 #[.pointer p, .string k] w fun e w' => e = .returned (.int .i64 (t.rank k : Nat)) ∧ w' = w := by
  have H := hide h
  have hrk := t.rank_size k
  clear h
  go_enter Try.func95, Try.ntmps95
  go_wp2_with fail
  go_loopw [0, 5] (fun i j wr => ∃ p s, ∃ m : Nat, i = .pointer p ∧ j = .int .i64 (m : Int) ∧ Nd w p s ∧ t.rank k = m + s.rank k ∧ m + s.size ≤ t.size ∧ wr = w) (fun i _ _ => szOf w i)
  case atStart => exact ⟨p, t, 0, rfl, rfl, unhide H, by omega, by omega, rfl⟩
  case round =>
    clear H p
    obtain ⟨p, s, m, rfl, rfl, hs, hf, hm, rfl⟩ := hrel
    have HZ := hide (szOf_eq hs)
    cases s with
    | nil =>
      have hs : p = none := hs
      subst hs
      simp only [Tr.rank, Nat.add_zero] at hf
      go_wp2
      go_ret
      exact ⟨by rw [hf]; rfl, rfl⟩
    | node l k' x' r =>
      have HF := hide hf
      obtain ⟨g, pa, pb, rfl, hb, hl, hr⟩ := hs
      obtain ⟨c0, -, -, c2, c3, -, -⟩ := seven hb
      have HB := hide hb
      have HL := hide hl
      have HR := hide hr
      have HN := hide (count_any hl)
      simp only [Tr.size] at hm
      clear hb hl hr hf
      rcases Bool.eq_false_or_eq_true (KOrd.lt k' k) with h1 | h1
      · have hR : (Tr.node l k' x' r).rank k = l.size + 1 + r.rank k := by simp only [Tr.rank, h1, if_true]
        rw [hR] at HF
        have HC := hide (less_any (w := wr) k' k)
        rw [h1] at HC
        have HS := hide (side_high rfl (unhide HB))
        clear hR HB
        generalize hls : l.size = ls at *
        have HLS := hide hls
        clear hls
        go_wp2_with (first
          | (go_at_call 100; refine (unhide HC).mono ?_; rintro e w3 ⟨rfl, hq⟩; have hq' := hq.symm; subst hq')
          | (go_at_call 64; refine (unhide HN).mono ?_; rintro e w3 ⟨rfl, hq⟩; have hq' := hq.symm; subst hq')
          | (go_at_call 77; refine (unhide HS).mono ?_; rintro e w3 ⟨rfl, hq⟩; have hq' := hq.symm; subst hq'))
        refine ⟨⟨_, r, m + ls + 1, rfl, by first | rfl | (congr 1; omega), unhide HR, ?_, by omega, by first | rfl | trivial⟩, ?_⟩
        · have := unhide HF; omega
        · rw [szOf_eq (unhide HR), unhide HZ]; simp only [Tr.size]; omega
      · have hR : (Tr.node l k' x' r).rank k = l.rank k := by simp only [Tr.rank, h1, Bool.false_eq_true, if_false]
        rw [hR] at HF
        have HC := hide (less_any (w := wr) k' k)
        rw [h1] at HC
        have HS := hide (side_low rfl (unhide HB))
        clear hR HB
        go_wp2_with (first
          | (go_at_call 100; refine (unhide HC).mono ?_; rintro e w3 ⟨rfl, hq⟩; have hq' := hq.symm; subst hq')
          | (go_at_call 64; refine (unhide HN).mono ?_; rintro e w3 ⟨rfl, hq⟩; have hq' := hq.symm; subst hq')
          | (go_at_call 77; refine (unhide HS).mono ?_; rintro e w3 ⟨rfl, hq⟩; have hq' := hq.symm; subst hq'))
        refine ⟨⟨_, l, m, rfl, rfl, unhide HL, unhide HF, by omega, by first | rfl | trivial⟩, ?_⟩
        rw [szOf_eq (unhide HL), unhide HZ]; simp only [Tr.size]; omega
set_option maxRecDepth 100000 in
set_option maxHeartbeats 4000000 in
theorem at_any {w : World} {p : Option Addr} {t : TI} (i : Int) (h : Nd w p t) (hz : t.size < 9223372036854775807) (hi : -9223372036854775808 ≤ i ∧ i ≤ 9223372036854775807) :
    Calls Try.prog 94 #[.pointer p, .int .i64 i] w fun e w' => (∃ p, e = .returned (.pointer p) ∧ ((t.at' i = none ∧ p = none) ∨ ∃ k' x, t.at' i = some (k', x) ∧ Mid w p k' x)) ∧ w' = w := by
  have H := hide h
  clear h
  go_enter Try.func94, Try.ntmps94
  go_wp2_with fail
  go_loopw [0, 1] (fun u v wr => ∃ p s j, u = .pointer p ∧ v = .int .i64 j ∧ Nd w p s ∧ t.at' i = s.at' j ∧ j ≤ 9223372036854775807 ∧ s.size < 9223372036854775807 ∧ wr = w) (fun u _ _ => szOf w u)
  case atStart => exact ⟨p, t, i, rfl, rfl, unhide H, rfl, hi.2, by omega, rfl⟩
  case round =>
    clear H p
    obtain ⟨p, s, j, rfl, rfl, hs, hf, hj, hsz, rfl⟩ := hrel
    have HZ := hide (szOf_eq hs)
    cases s with
    | nil =>
      have hs : p = none := hs
      subst hs
      go_wp2
      go_ret
      exact ⟨⟨none, rfl, Or.inl ⟨hf, rfl⟩⟩, rfl⟩
    | node l k' x' r =>
      have HM := hide hs.mid
      have HF := hide hf
      obtain ⟨g, pa, pb, rfl, hb, hl, hr⟩ := hs
      obtain ⟨c0, -, -, c2, c3, -, -⟩ := seven hb
      have HB := hide hb
      have HL := hide hl
      have HR := hide hr
      have HN := hide (count_any hl)
      simp only [Tr.size] at hsz
      clear hb hl hr hf
      by_cases h0 : j = l.size
      · have hR : (Tr.node l k' x' r).at' j = some (k', x') := by simp only [Tr.at', h0, if_true]
        rw [hR] at HF
        clear hR HB
        generalize l.size = ls at *
        subst h0
        go_wp2_with (first
          | (go_at_call 100; refine (unhide HC).mono ?_; rintro e w3 ⟨rfl, hq⟩; have hq' := hq.symm; subst hq')
          | (go_at_call 64; refine (unhide HN).mono ?_; rintro e w3 ⟨rfl, hq⟩; have hq' := hq.symm; subst hq')
          | (go_at_call 77; refine (unhide HS).mono ?_; rintro e w3 ⟨rfl, hq⟩; have hq' := hq.symm; subst hq'))
        go_ret
        exact ⟨⟨_, rfl, Or.inr ⟨k', x', unhide HF, unhide HM⟩⟩, rfl⟩
      by_cases h1 : j > l.size
      · have hR : (Tr.node l k' x' r).at' j = r.at' (j - (l.size + 1)) := by simp only [Tr.at', h0, h1, if_true, if_false]
        rw [hR] at HF
        have HS := hide (side_high rfl (unhide HB))
        clear hR HB
        generalize hls : l.size = ls at *
        have t1 : (j = (ls : Int)) = False := by simp [h0]
        have t2 : ((ls : Int) < j) = True := by simp only [eq_iff_iff, iff_true]; omega
        go_wp2_with (first
          | (go_at_call 100; refine (unhide HC).mono ?_; rintro e w3 ⟨rfl, hq⟩; have hq' := hq.symm; subst hq')
          | (go_at_call 64; refine (unhide HN).mono ?_; rintro e w3 ⟨rfl, hq⟩; have hq' := hq.symm; subst hq')
          | (go_at_call 77; refine (unhide HS).mono ?_; rintro e w3 ⟨rfl, hq⟩; have hq' := hq.symm; subst hq'))
        refine ⟨⟨_, r, j - (ls + 1), rfl, by first | rfl | (congr 1; omega), unhide HR, unhide HF, by omega, by omega, by first | rfl | trivial⟩, ?_⟩
        rw [szOf_eq (unhide HR), unhide HZ]; simp only [Tr.size]; omega
      · have hR : (Tr.node l k' x' r).at' j = l.at' j := by simp only [Tr.at', h0, h1, if_false]
        rw [hR] at HF
        have HS := hide (side_low rfl (unhide HB))
        clear hR HB
        generalize hls : l.size = ls at *
        have t1 : (j = (ls : Int)) = False := by simp [h0]
        have t2 : ((ls : Int) < j) = False := by simp only [eq_iff_iff, iff_false]; omega
        go_wp2_with (first
          | (go_at_call 100; refine (unhide HC).mono ?_; rintro e w3 ⟨rfl, hq⟩; have hq' := hq.symm; subst hq')
          | (go_at_call 64; refine (unhide HN).mono ?_; rintro e w3 ⟨rfl, hq⟩; have hq' := hq.symm; subst hq')
          | (go_at_call 77; refine (unhide HS).mono ?_; rintro e w3 ⟨rfl, hq⟩; have hq' := hq.symm; subst hq'))
        refine ⟨⟨_, l, j, rfl, rfl, unhide HL, unhide HF, hj, by omega, by first | rfl | trivial⟩, ?_⟩
        rw [szOf_eq (unhide HL), unhide HZ]; simp only [Tr.size]; omega
end Go.Proofs.Ytkejpbfbpomjfab.tre

/- A low tree that is deeper by two. -/
namespace Go.Proofs.Ytkejpbfbpomjfab.tre
open Go.RowKit

set_option maxRecDepth 100000 in
set_option maxHeartbeats 4000000 in
theorem leanLow_1 {w : World} {pl pm ph : Option Addr} {a b h : TI} {k' k : ByteArray} {x' x : VT} (hl : Nd w pl (.node a k' x' b)) (hm : Mid w pm k x) (hh : Nd w ph h) (hz : a.size + b.size + h.size < 4611686018427387000) (hd : a.depth ≥ b.depth) :
    Calls Try.prog 102 #[.pointer pl, .pointer pm, .pointer ph] w fun e w' => ∃ p, e = .returned (.pointer p) ∧ Nd w' p (.node a k' x' (.node b k x h)) ∧ Kept [] w w' := by
  obtain ⟨g, pa, pb, rfl, hb, ha, hbb⟩ := hl
  obtain ⟨-, -, -, c2, c3, -, -⟩ := seven hb
  have HA := hide (deep_at ha)
  have HB := hide (deep_at hbb)
  have HO := hide (over_at hbb hm hh (by omega))
  have hd2 : ((b.depth : Int) ≤ (a.depth : Int)) = True := by simp; omega
  have hz2 : a.size + (Tr.node b k x h).size < 4611686018427387904 := by simp only [Tr.size]; omega
  have HP : Hid (∀ w3 p3, Nd w3 p3 (.node b k x h) → Kept [] w w3 → Made 91 #[.pointer pa, .pointer (some ⟨g, 0, none⟩), .pointer p3] w3 (.node a k' x' (.node b k x h))) :=
    fun w3 p3 hn hk => over_at (ha.kept hk) (show Mid w3 (some ⟨g, 0, none⟩) k' x' from ⟨g, _, _, _, _, rfl, hb.kept hk (by simp)⟩) hn hz2
  clear hd hm hh ha hbb hb hz hz2
  generalize a.depth = ad at *
  generalize b.depth = bd at *
  generalize Tr.node b k x h = t2 at *
  generalize Tr.node a k' x' t2 = t3 at *
  go_enter Try.func102, Try.ntmps102
  go_wp2_with (first
    | (go_at_call 97; refine (unhide HA _ (Kept.refl _ _)).mono ?_; rintro e w3 ⟨rfl, hq⟩; have hq' := hq.symm; subst hq'; clear HA)
    | (go_at_call 97; refine (unhide HB _ (Kept.refl _ _)).mono ?_; rintro e w3 ⟨rfl, hq⟩; have hq' := hq.symm; subst hq')
    | fail)
  go_region_held3 (fun w' => w'.cell? ⟨g, 3, none⟩ = some (.pointer pa)) (first | go_keep | (exact (unhide HK).cell' c2)) (first
    | (go_at_call 91; refine (unhide HO _ (by first | exact Kept.refl _ _ | exact (Kept.refl _ _).drew)).mono ?_; rintro e w3 ⟨p3, rfl, hn3, hk3⟩; have HK := hide hk3; have HP3 := hide ((unhide HP _ _ hn3 hk3).then hk3); clear hn3 hk3 HO)
    | (go_at_call 91; refine (unhide HP3 _ (by first | exact Kept.refl _ _ | exact (Kept.refl _ _).drew)).mono ?_; rintro e w4 ⟨p4, rfl, hn4, hk4⟩; have HK := hide hk4; have HN := hide hn4; clear hn4 hk4))
  all_goals go_wp2
  all_goals
    go_ret
    exact ⟨_, rfl, unhide HN, unhide HK⟩

set_option maxRecDepth 100000 in
set_option maxHeartbeats 4000000 in
theorem leanLow_2 {w : World} {pl pm ph : Option Addr} {a b1 b2 h : TI} {k' k2 k : ByteArray} {x' x2 x : VT} (hl : Nd w pl (.node a k' x' (.node b1 k2 x2 b2))) (hm : Mid w pm k x) (hh : Nd w ph h) (hz : a.size + (b1.size + 1 + b2.size) + h.size < 4611686018427387000) (hd : ¬ a.depth ≥ (Tr.node b1 k2 x2 b2).depth) :
    Calls Try.prog 102 #[.pointer pl, .pointer pm, .pointer ph] w fun e w' => ∃ p, e = .returned (.pointer p) ∧ Nd w' p (.node (.node a k' x' b1) k2 x2 (.node b2 k x h)) ∧ Kept [] w w' := by
  obtain ⟨g, pa, pb, rfl, hb, ha, hbb⟩ := hl
  obtain ⟨-, -, -, c2, c3, -, -⟩ := seven hb
  have HA := hide (deep_at ha)
  have HB := hide (deep_at hbb)
  obtain ⟨g2, q1, q2, rfl, hb2, hq1, hq2⟩ := hbb
  obtain ⟨-, -, -, d2, d3, -, -⟩ := seven hb2
  have HO := hide (over_at ha (show Mid w (some ⟨g, 0, none⟩) k' x' from ⟨g, _, _, _, _, rfl, hb⟩) hq1 (by omega))
  have hd2 : (((Tr.node b1 k2 x2 b2).depth : Int) ≤ (a.depth : Int)) = False := by simp only [eq_iff_iff, iff_false]; omega
  have HP : Hid (∀ w3, Kept [] w w3 → Made 91 #[.pointer q2, .pointer pm, .pointer ph] w3 (.node b2 k x h)) :=
    fun w3 hk => over_at (hq2.kept hk) (hm.kept hk) (hh.kept hk) (by omega)
  have HR : Hid (∀ w4 p1 p2, Nd w4 p1 (.node a k' x' b1) → Nd w4 p2 (.node b2 k x h) → Kept [] w w4 → Made 91 #[.pointer p1, .pointer (some ⟨g2, 0, none⟩), .pointer p2] w4 (.node (.node a k' x' b1) k2 x2 (.node b2 k x h))) :=
    fun w4 p1 p2 h1 h2 hk => over_at h1 (show Mid w4 (some ⟨g2, 0, none⟩) k2 x2 from ⟨g2, _, _, _, _, rfl, hb2.kept hk (by simp)⟩) h2 (by simp only [Tr.size]; omega)
  clear hd hm hh ha hb hb2 hq1 hq2 hz
  generalize a.depth = ad at *
  generalize (Tr.node b1 k2 x2 b2).depth = bd at *
  generalize Tr.node a k' x' b1 = t1 at *
  generalize Tr.node b2 k x h = t2 at *
  generalize Tr.node t1 k2 x2 t2 = t3 at *
  go_enter Try.func102, Try.ntmps102
  go_wp2_with (first
    | (go_at_call 97; refine (unhide HA _ (by first | exact Kept.refl _ _ | exact (Kept.refl _ _).drew)).mono ?_; rintro e w3 ⟨rfl, hq⟩; have hq' := hq.symm; subst hq'; clear HA)
    | (go_at_call 97; refine (unhide HB _ (by first | exact Kept.refl _ _ | exact (Kept.refl _ _).drew)).mono ?_; rintro e w3 ⟨rfl, hq⟩; have hq' := hq.symm; subst hq')
    | fail)
  go_region_held3 (fun w' => w'.cell? ⟨g, 3, none⟩ = some (.pointer pa) ∧ w'.cell? ⟨g2, 3, none⟩ = some (.pointer q1) ∧ w'.cell? ⟨g2, 4, none⟩ = some (.pointer q2)) (first | go_keep | (exact ⟨(unhide HK).cell' c2, (unhide HK).cell' d2, (unhide HK).cell' d3⟩)) (first
    | (go_at_call 91; refine (unhide HO _ (by first | exact Kept.refl _ _ | exact (Kept.refl _ _).drew)).mono ?_; rintro e w3 ⟨p3, rfl, hn3, hk3⟩; have HK := hide hk3; have HP3 := hide (unhide HP _ hk3); have HN := hide hn3; clear hn3 hk3 HO)
    | (go_at_call 91; refine (unhide HP3 _ (by first | exact Kept.refl _ _ | exact (Kept.refl _ _).drew)).mono ?_; rintro e w4 ⟨p4, rfl, hn4, hk4⟩; have HK0 := HK; clear HK; have HK := hide ((unhide HK0).trans hk4 (by simp)); have HR3 := hide ((unhide HR _ _ _ ((unhide HN).kept hk4) hn4 (unhide HK)).then (unhide HK)); clear hn4 hk4 HP3 HN HK0)
    | (go_at_call 91; refine (unhide HR3 _ (by first | exact Kept.refl _ _ | exact (Kept.refl _ _).drew)).mono ?_; rintro e w5 ⟨p5, rfl, hn5, hk5⟩; clear HK; have HK := hide hk5; have HN := hide hn5; clear hn5 hk5))
  all_goals go_wp2
  all_goals
    go_ret
    exact ⟨_, rfl, unhide HN, unhide HK⟩
theorem leanLow_any {w : World} {pl pm ph : Option Addr} {a b h : TI} {k' k : ByteArray} {x' x : VT} (hl : Nd w pl (.node a k' x' b)) (hm : Mid w pm k x) (hh : Nd w ph h) (hz : a.size + b.size + h.size < 4611686018427387000) :
    Calls Try.prog 102 #[.pointer pl, .pointer pm, .pointer ph] w fun e w' => ∃ p, e = .returned (.pointer p) ∧ Nd w' p (Tr.leanLow a k' x' b k x h) ∧ Kept [] w w' := by
  by_cases hd : a.depth ≥ b.depth
  · have hR : Tr.leanLow a k' x' b k x h = .node a k' x' (.node b k x h) := by unfold Tr.leanLow; rw [if_pos hd]
    rw [hR]
    exact leanLow_1 hl hm hh hz hd
  · cases b with
    | nil => exact absurd (Nat.zero_le _) hd
    | node b1 k2 x2 b2 =>
      have hR : Tr.leanLow a k' x' (.node b1 k2 x2 b2) k x h = .node (.node a k' x' b1) k2 x2 (.node b2 k x h) := by unfold Tr.leanLow; rw [if_neg hd]
      rw [hR]
      exact leanLow_2 hl hm hh hz hd
end Go.Proofs.Ytkejpbfbpomjfab.tre

/- A high tree that is deeper by two. -/
namespace Go.Proofs.Ytkejpbfbpomjfab.tre
open Go.RowKit

set_option maxRecDepth 100000 in
set_option maxHeartbeats 4000000 in
theorem leanHigh_1 {w : World} {pl pm ph : Option Addr} {a b l : TI} {k' k : ByteArray} {x' x : VT} (hl : Nd w pl l) (hm : Mid w pm k x) (hh : Nd w ph (.node a k' x' b)) (hz : l.size + a.size + b.size < 4611686018427387000) (hd : b.depth ≥ a.depth) :
    Calls Try.prog 103 #[.pointer pl, .pointer pm, .pointer ph] w fun e w' => ∃ p, e = .returned (.pointer p) ∧ Nd w' p (.node (.node l k x a) k' x' b) ∧ Kept [] w w' := by
  obtain ⟨g, pa, pb, rfl, hb, ha, hbb⟩ := hh
  obtain ⟨-, -, -, c2, c3, -, -⟩ := seven hb
  have HA := hide (deep_at hbb)
  have HB := hide (deep_at ha)
  have HO := hide (over_at hl hm ha (by omega))
  have hd2 : ((a.depth : Int) ≤ (b.depth : Int)) = True := by simp; omega
  have HP : Hid (∀ w3 p3, Nd w3 p3 (.node l k x a) → Kept [] w w3 → Made 91 #[.pointer p3, .pointer (some ⟨g, 0, none⟩), .pointer pb] w3 (.node (.node l k x a) k' x' b)) :=
    fun w3 p3 hn hk => over_at hn (show Mid w3 (some ⟨g, 0, none⟩) k' x' from ⟨g, _, _, _, _, rfl, hb.kept hk (by simp)⟩) (hbb.kept hk) (by simp only [Tr.size]; omega)
  clear hd hm hl ha hbb hb hz
  generalize a.depth = ad at *
  generalize b.depth = bd at *
  generalize Tr.node l k x a = t2 at *
  generalize Tr.node t2 k' x' b = t3 at *
  go_enter Try.func103, Try.ntmps103
  go_wp2_with (first
    | (go_at_call 97; refine (unhide HA _ (by first | exact Kept.refl _ _ | exact (Kept.refl _ _).drew)).mono ?_; rintro e w3 ⟨rfl, hq⟩; have hq' := hq.symm; subst hq'; clear HA)
    | (go_at_call 97; refine (unhide HB _ (by first | exact Kept.refl _ _ | exact (Kept.refl _ _).drew)).mono ?_; rintro e w3 ⟨rfl, hq⟩; have hq' := hq.symm; subst hq')
    | fail)
  go_region_held3 (fun w' => w'.cell? ⟨g, 4, none⟩ = some (.pointer pb)) (first | go_keep | (exact (unhide HK).cell' c3)) (first
    | (go_at_call 91; refine (unhide HO _ (by first | exact Kept.refl _ _ | exact (Kept.refl _ _).drew)).mono ?_; rintro e w3 ⟨p3, rfl, hn3, hk3⟩; have HK := hide hk3; have HP3 := hide ((unhide HP _ _ hn3 hk3).then hk3); clear hn3 hk3 HO)
    | (go_at_call 91; refine (unhide HP3 _ (by first | exact Kept.refl _ _ | exact (Kept.refl _ _).drew)).mono ?_; rintro e w4 ⟨p4, rfl, hn4, hk4⟩; clear HK; have HK := hide hk4; have HN := hide hn4; clear hn4 hk4))
  all_goals go_wp2
  all_goals
    go_ret
    exact ⟨_, rfl, unhide HN, unhide HK⟩
set_option maxRecDepth 100000 in
set_option maxHeartbeats 4000000 in
theorem leanHigh_2 {w : World} {pl pm ph : Option Addr} {a1 a2 b l : TI} {k' k2 k : ByteArray} {x' x2 x : VT} (hl : Nd w pl l) (hm : Mid w pm k x) (hh : Nd w ph (.node (.node a1 k2 x2 a2) k' x' b)) (hz : l.size + (a1.size + 1 + a2.size) + b.size < 4611686018427387000) (hd : ¬ b.depth ≥ (Tr.node a1 k2 x2 a2).depth) :
    Calls Try.prog 103 #[.pointer pl, .pointer pm, .pointer ph] w fun e w' => ∃ p, e = .returned (.pointer p) ∧ Nd w' p (.node (.node l k x a1) k2 x2 (.node a2 k' x' b)) ∧ Kept [] w w' := by
  obtain ⟨g, pa, pb, rfl, hb, ha, hbb⟩ := hh
  obtain ⟨-, -, -, c2, c3, -, -⟩ := seven hb
  have HA := hide (deep_at hbb)
  have HB := hide (deep_at ha)
  obtain ⟨g2, q1, q2, rfl, hb2, hq1, hq2⟩ := ha
  obtain ⟨-, -, -, d2, d3, -, -⟩ := seven hb2
  have HO := hide (over_at hl hm hq1 (by omega))
  have hd2 : (((Tr.node a1 k2 x2 a2).depth : Int) ≤ (b.depth : Int)) = False := by simp only [eq_iff_iff, iff_false]; omega
  have HP : Hid (∀ w3, Kept [] w w3 → Made 91 #[.pointer q2, .pointer (some ⟨g, 0, none⟩), .pointer pb] w3 (.node a2 k' x' b)) :=
    fun w3 hk => over_at (hq2.kept hk) (show Mid w3 (some ⟨g, 0, none⟩) k' x' from ⟨g, _, _, _, _, rfl, hb.kept hk (by simp)⟩) (hbb.kept hk) (by omega)
  have HR : Hid (∀ w4 p1 p2, Nd w4 p1 (.node l k x a1) → Nd w4 p2 (.node a2 k' x' b) → Kept [] w w4 → Made 91 #[.pointer p1, .pointer (some ⟨g2, 0, none⟩), .pointer p2] w4 (.node (.node l k x a1) k2 x2 (.node a2 k' x' b))) :=
    fun w4 p1 p2 h1 h2 hk => over_at h1 (show Mid w4 (some ⟨g2, 0, none⟩) k2 x2 from ⟨g2, _, _, _, _, rfl, hb2.kept hk (by simp)⟩) h2 (by simp only [Tr.size]; omega)
  clear hd hm hl hbb hb hb2 hq1 hq2 hz
  generalize (Tr.node a1 k2 x2 a2).depth = ad at *
  generalize b.depth = bd at *
  generalize Tr.node l k x a1 = t1 at *
  generalize Tr.node a2 k' x' b = t2 at *
  generalize Tr.node t1 k2 x2 t2 = t3 at *
  go_enter Try.func103, Try.ntmps103
  go_wp2_with (first
    | (go_at_call 97; refine (unhide HA _ (by first | exact Kept.refl _ _ | exact (Kept.refl _ _).drew)).mono ?_; rintro e w3 ⟨rfl, hq⟩; have hq' := hq.symm; subst hq'; clear HA)
    | (go_at_call 97; refine (unhide HB _ (by first | exact Kept.refl _ _ | exact (Kept.refl _ _).drew)).mono ?_; rintro e w3 ⟨rfl, hq⟩; have hq' := hq.symm; subst hq')
    | fail)
  go_region_held3 (fun w' => w'.cell? ⟨g, 4, none⟩ = some (.pointer pb) ∧ w'.cell? ⟨g2, 3, none⟩ = some (.pointer q1) ∧ w'.cell? ⟨g2, 4, none⟩ = some (.pointer q2)) (first | go_keep | (exact ⟨(unhide HK).cell' c3, (unhide HK).cell' d2, (unhide HK).cell' d3⟩)) (first
    | (go_at_call 91; refine (unhide HO _ (by first | exact Kept.refl _ _ | exact (Kept.refl _ _).drew)).mono ?_; rintro e w3 ⟨p3, rfl, hn3, hk3⟩; have HK := hide hk3; have HP3 := hide (unhide HP _ hk3); have HN := hide hn3; clear hn3 hk3 HO)
    | (go_at_call 91; refine (unhide HP3 _ (by first | exact Kept.refl _ _ | exact (Kept.refl _ _).drew)).mono ?_; rintro e w4 ⟨p4, rfl, hn4, hk4⟩; have HK0 := HK; clear HK; have HK := hide ((unhide HK0).trans hk4 (by simp)); have HR3 := hide ((unhide HR _ _ _ ((unhide HN).kept hk4) hn4 (unhide HK)).then (unhide HK)); clear hn4 hk4 HP3 HN HK0)
    | (go_at_call 91; refine (unhide HR3 _ (by first | exact Kept.refl _ _ | exact (Kept.refl _ _).drew)).mono ?_; rintro e w5 ⟨p5, rfl, hn5, hk5⟩; clear HK; have HK := hide hk5; have HN := hide hn5; clear hn5 hk5))
  all_goals go_wp2
  all_goals
    go_ret
    exact ⟨_, rfl, unhide HN, unhide HK⟩
theorem leanHigh_any {w : World} {pl pm ph : Option Addr} {a b l : TI} {k' k : ByteArray} {x' x : VT} (hl : Nd w pl l) (hm : Mid w pm k x) (hh : Nd w ph (.node a k' x' b)) (hz : l.size + a.size + b.size < 4611686018427387000) :
    Calls Try.prog 103 #[.pointer pl, .pointer pm, .pointer ph] w fun e w' => ∃ p, e = .returned (.pointer p) ∧ Nd w' p (Tr.leanHigh l k x a k' x' b) ∧ Kept [] w w' := by
  by_cases hd : b.depth ≥ a.depth
  · have hR : Tr.leanHigh l k x a k' x' b = .node (.node l k x a) k' x' b := by unfold Tr.leanHigh; rw [if_pos hd]
    rw [hR]
    exact leanHigh_1 hl hm hh hz hd
  · cases a with
    | nil => exact absurd (Nat.zero_le _) hd
    | node a1 k2 x2 a2 =>
      have hR : Tr.leanHigh l k x (.node a1 k2 x2 a2) k' x' b = .node (.node l k x a1) k2 x2 (.node a2 k' x' b) := by unfold Tr.leanHigh; rw [if_neg hd]
      rw [hR]
      exact leanHigh_2 hl hm hh hz hd
end Go.Proofs.Ytkejpbfbpomjfab.tre

/- Two trees whose depths may differ by two; two trees joined. -/
namespace Go.Proofs.Ytkejpbfbpomjfab.tre
open Go.RowKit

theorem leanLow_at {w : World} {pl pm ph : Option Addr} {a b h : TI} {k' k : ByteArray} {x' x : VT} (hl : Nd w pl (.node a k' x' b)) (hm : Mid w pm k x) (hh : Nd w ph h) (hz : a.size + b.size + h.size < 4611686018427387000) :
    Made 102 #[.pointer pl, .pointer pm, .pointer ph] w (Tr.leanLow a k' x' b k x h) := Made.of fun _ hk => leanLow_any (hl.kept hk) (hm.kept hk) (hh.kept hk) hz
theorem leanHigh_at {w : World} {pl pm ph : Option Addr} {a b l : TI} {k' k : ByteArray} {x' x : VT} (hl : Nd w pl l) (hm : Mid w pm k x) (hh : Nd w ph (.node a k' x' b)) (hz : l.size + a.size + b.size < 4611686018427387000) :
    Made 103 #[.pointer pl, .pointer pm, .pointer ph] w (Tr.leanHigh l k x a k' x' b) := Made.of fun _ hk => leanHigh_any (hl.kept hk) (hm.kept hk) (hh.kept hk) hz

set_option maxRecDepth 100000 in
set_option maxHeartbeats 4000000 in
theorem even_any {w : World} {pl pm ph : Option Addr} {l h : TI} {k : ByteArray} {x : VT} (hl : Nd w pl l) (hm : Mid w pm k x) (hh : Nd w ph h) (hz : l.size + h.size < 4611686018427386000) :
    Calls Try.prog 99 #[.pointer pl, .pointer pm, .pointer ph] w fun e w' => ∃ p, e = .returned (.pointer p) ∧ Nd w' p (Tr.even l k x h) ∧ Kept [] w w' := by
  have HA := hide (deep_at hl)
  have HB := hide (deep_at hh)
  have HC := hide (deep_at hh)
  have HD := hide (deep_at hl)
  have dl := l.depth_le_size
  have dh := h.depth_le_size
  by_cases h1 : l.depth > h.depth + 1
  · cases l with
    | nil => exact absurd h1 (by simp [Tr.depth])
    | node a k' x' b =>
      have hR : Tr.even (.node a k' x' b) k x h = Tr.leanLow a k' x' b k x h := by unfold Tr.even; rw [if_pos h1]
      rw [hR]
      have HO := hide (leanLow_at hl hm hh (by simp only [Tr.size] at hz; omega))
      have e1 : ((h.depth : Int) + 1 < ((Tr.node a k' x' b).depth : Int)) = True := by simp only [eq_iff_iff, iff_true]; omega
      clear hl hm hh hR
      generalize Tr.leanLow a k' x' b k x h = t3 at *
      generalize (Tr.node a k' x' b).depth = ld at *
      generalize (Tr.node a k' x' b).size = ls at *
      generalize h.depth = hd at *
      generalize h.size = hs at *
      go_enter Try.func99, Try.ntmps99
      go_wp2_with (first
        | (go_at_call 97; refine (unhide HA _ (by first | exact Kept.refl _ _ | exact (Kept.refl _ _).drew)).mono ?_; rintro e w3 ⟨rfl, hq⟩; have hq' := hq.symm; subst hq'; clear HA)
        | (go_at_call 97; refine (unhide HB _ (by first | exact Kept.refl _ _ | exact (Kept.refl _ _).drew)).mono ?_; rintro e w3 ⟨rfl, hq⟩; have hq' := hq.symm; subst hq'; clear HB)
        | (go_at_call 102; refine (unhide HO _ (by first | exact Kept.refl _ _ | exact (Kept.refl _ _).drew)).mono ?_; rintro e w3 ⟨p3, rfl, hn3, hk3⟩; have HK := hide hk3; have HN := hide hn3; clear hn3 hk3 HO))
      go_ret
      exact ⟨_, rfl, unhide HN, unhide HK⟩
  · by_cases h2 : h.depth > l.depth + 1
    · cases h with
      | nil => exact absurd h2 (by simp [Tr.depth])
      | node a k' x' b =>
        have hR : Tr.even l k x (.node a k' x' b) = Tr.leanHigh l k x a k' x' b := by unfold Tr.even; rw [if_neg h1, if_pos h2]
        rw [hR]
        have HO := hide (leanHigh_at hl hm hh (by simp only [Tr.size] at hz; omega))
        have e1 : (((Tr.node a k' x' b).depth : Int) + 1 < (l.depth : Int)) = False := by simp only [eq_iff_iff, iff_false]; omega
        have e2 : ((l.depth : Int) + 1 < ((Tr.node a k' x' b).depth : Int)) = True := by simp only [eq_iff_iff, iff_true]; omega
        clear hl hm hh hR
        generalize Tr.leanHigh l k x a k' x' b = t3 at *
        generalize (Tr.node a k' x' b).depth = hd at *
        generalize (Tr.node a k' x' b).size = hs at *
        generalize l.depth = ld at *
        generalize l.size = ls at *
        go_enter Try.func99, Try.ntmps99
        go_wp2_with (first
          | (go_at_call 97; refine (unhide HA _ (by first | exact Kept.refl _ _ | exact (Kept.refl _ _).drew)).mono ?_; rintro e w3 ⟨rfl, hq⟩; have hq' := hq.symm; subst hq'; clear HA)
          | (go_at_call 97; refine (unhide HB _ (by first | exact Kept.refl _ _ | exact (Kept.refl _ _).drew)).mono ?_; rintro e w3 ⟨rfl, hq⟩; have hq' := hq.symm; subst hq'; clear HB)
          | (go_at_call 97; refine (unhide HC _ (by first | exact Kept.refl _ _ | exact (Kept.refl _ _).drew)).mono ?_; rintro e w3 ⟨rfl, hq⟩; have hq' := hq.symm; subst hq'; clear HC)
          | (go_at_call 97; refine (unhide HD _ (by first | exact Kept.refl _ _ | exact (Kept.refl _ _).drew)).mono ?_; rintro e w3 ⟨rfl, hq⟩; have hq' := hq.symm; subst hq'; clear HD)
          | (go_at_call 103; refine (unhide HO _ (by first | exact Kept.refl _ _ | exact (Kept.refl _ _).drew)).mono ?_; rintro e w3 ⟨p3, rfl, hn3, hk3⟩; have HK := hide hk3; have HN := hide hn3; clear hn3 hk3 HO))
        go_ret
        exact ⟨_, rfl, unhide HN, unhide HK⟩
    · have hR : Tr.even l k x h = .node l k x h := by unfold Tr.even; rw [if_neg h1, if_neg h2]
      rw [hR]
      have HO := hide (over_at hl hm hh (by omega))
      have e1 : ((h.depth : Int) + 1 < (l.depth : Int)) = False := by simp only [eq_iff_iff, iff_false]; omega
      have e2 : ((l.depth : Int) + 1 < (h.depth : Int)) = False := by simp only [eq_iff_iff, iff_false]; omega
      clear hl hm hh hR
      generalize Tr.node l k x h = t3 at *
      generalize h.depth = hd at *
      generalize h.size = hs at *
      generalize l.depth = ld at *
      generalize l.size = ls at *
      go_enter Try.func99, Try.ntmps99
      go_wp2_with (first
        | (go_at_call 97; refine (unhide HA _ (by first | exact Kept.refl _ _ | exact (Kept.refl _ _).drew)).mono ?_; rintro e w3 ⟨rfl, hq⟩; have hq' := hq.symm; subst hq'; clear HA)
        | (go_at_call 97; refine (unhide HB _ (by first | exact Kept.refl _ _ | exact (Kept.refl _ _).drew)).mono ?_; rintro e w3 ⟨rfl, hq⟩; have hq' := hq.symm; subst hq'; clear HB)
        | (go_at_call 97; refine (unhide HC _ (by first | exact Kept.refl _ _ | exact (Kept.refl _ _).drew)).mono ?_; rintro e w3 ⟨rfl, hq⟩; have hq' := hq.symm; subst hq'; clear HC)
        | (go_at_call 97; refine (unhide HD _ (by first | exact Kept.refl _ _ | exact (Kept.refl _ _).drew)).mono ?_; rintro e w3 ⟨rfl, hq⟩; have hq' := hq.symm; subst hq'; clear HD)
        | (go_at_call 91; refine (unhide HO _ (by first | exact Kept.refl _ _ | exact (Kept.refl _ _).drew)).mono ?_; rintro e w3 ⟨p3, rfl, hn3, hk3⟩; have HK := hide hk3; have HN := hide hn3; clear hn3 hk3 HO))
      go_ret
      exact ⟨_, rfl, unhide HN, unhide HK⟩
theorem even_at {w : World} {pl pm ph : Option Addr} {l h : TI} {k : ByteArray} {x : VT} (hl : Nd w pl l) (hm : Mid w pm k x) (hh : Nd w ph h) (hz : l.size + h.size < 4611686018427386000) :
    Made 99 #[.pointer pl, .pointer pm, .pointer ph] w (Tr.even l k x h) := Made.of fun _ hk => even_any (hl.kept hk) (hm.kept hk) (hh.kept hk) hz
end Go.Proofs.Ytkejpbfbpomjfab.tre

/- Two trees and an entry between them joined. -/
namespace Go.Proofs.Ytkejpbfbpomjfab.tre
open Go.RowKit

set_option maxRecDepth 100000 in
set_option maxHeartbeats 4000000 in
theorem join_n (n : Nat) : ∀ (w : World) (pl pm ph : Option Addr) (l h : TI) (k : ByteArray) (x : VT), Nd w pl l → Mid w pm k x → Nd w ph h → l.size + h.size < 4611686018427385000 → l.size + h.size ≤ n →
    Calls Try.prog 93 #[.pointer pl, .pointer pm, .pointer ph] w fun e w' => ∃ p, e = .returned (.pointer p) ∧ Nd w' p (Tr.join l k x h) ∧ Kept [] w w' := by
  induction n with
  | zero => ?_
  | succ n ih => ?_
  all_goals
    intro w pl pm ph l h k x hl hm hh hz hn
    have HA := hide (deep_at hl)
    have HB := hide (deep_at hh)
    have HC := hide (deep_at hh)
    have HD := hide (deep_at hl)
    have dl := l.depth_le_size
    have dh := h.depth_le_size
    by_cases h1 : l.depth > h.depth + 1
    rotate_left
    by_cases h2 : h.depth > l.depth + 1
    rotate_left
    · have hR := Tr.join_over l k x h h1 h2
      rw [hR]
      have HO := hide (over_at hl hm hh (by omega))
      have e1 : ((h.depth : Int) + 1 < (l.depth : Int)) = False := by simp only [eq_iff_iff, iff_false]; omega
      have e2 : ((l.depth : Int) + 1 < (h.depth : Int)) = False := by simp only [eq_iff_iff, iff_false]; omega
      clear hl hm hh hR
      generalize Tr.node l k x h = t3 at *
      generalize h.depth = hd at *
      generalize h.size = hs at *
      generalize l.depth = ld at *
      generalize l.size = ls at *
      go_enter Try.func93, Try.ntmps93
      go_wp2_with (first
        | (go_at_call 97; refine (unhide HA _ (by first | exact Kept.refl _ _ | exact (Kept.refl _ _).drew)).mono ?_; rintro e w3 ⟨rfl, hq⟩; have hq' := hq.symm; subst hq'; clear HA)
        | (go_at_call 97; refine (unhide HB _ (by first | exact Kept.refl _ _ | exact (Kept.refl _ _).drew)).mono ?_; rintro e w3 ⟨rfl, hq⟩; have hq' := hq.symm; subst hq'; clear HB)
        | (go_at_call 97; refine (unhide HC _ (by first | exact Kept.refl _ _ | exact (Kept.refl _ _).drew)).mono ?_; rintro e w3 ⟨rfl, hq⟩; have hq' := hq.symm; subst hq'; clear HC)
        | (go_at_call 97; refine (unhide HD _ (by first | exact Kept.refl _ _ | exact (Kept.refl _ _).drew)).mono ?_; rintro e w3 ⟨rfl, hq⟩; have hq' := hq.symm; subst hq'; clear HD)
        | (go_at_call 91; refine (unhide HO _ (by first | exact Kept.refl _ _ | exact (Kept.refl _ _).drew)).mono ?_; rintro e w3 ⟨p3, rfl, hn3, hk3⟩; have HK := hide hk3; have HN := hide hn3; clear hn3 hk3 HO))
      go_ret
      exact ⟨_, rfl, unhide HN, unhide HK⟩
  · exfalso; omega
  · exfalso; omega
  · cases l with
    | nil => exact absurd h1 (by simp [Tr.depth])
    | node a k' x' b =>
      have hR := Tr.join_low a k' x' b k x h h1
      rw [hR]
      simp only [Tr.size] at hz hn
      have e1 : ((h.depth : Int) + 1 < ((Tr.node a k' x' b).depth : Int)) = True := by simp only [eq_iff_iff, iff_true]; omega
      have hzz : a.size + (Tr.join b k x h).size < 4611686018427386000 := by rw [Tr.join_size]; omega
      have hdd : (Tr.node a k' x' b).depth < 4611686018427387000 := by
        have := (Tr.node a k' x' b).depth_le_size; simp only [Tr.size] at this; omega
      obtain ⟨g, pa, pb, rfl, hb, ha, hbb⟩ := hl
      obtain ⟨-, -, -, c2, c3, -, -⟩ := seven hb
      have HO : Hid (Made 93 #[.pointer pb, .pointer pm, .pointer ph] w (Tr.join b k x h)) := Made.of fun W hk => ih W pb pm ph b h k x (hbb.kept hk) (hm.kept hk) (hh.kept hk) (by omega) (by omega)
      have HP : Hid (∀ w3 p3, Nd w3 p3 (Tr.join b k x h) → Kept [] w w3 → Made 99 #[.pointer pa, .pointer (some ⟨g, 0, none⟩), .pointer p3] w3 (Tr.even a k' x' (Tr.join b k x h))) :=
        fun w3 p3 hn hk => even_at (ha.kept hk) (show Mid w3 (some ⟨g, 0, none⟩) k' x' from ⟨g, _, _, _, _, rfl, hb.kept hk (by simp)⟩) hn hzz
      clear hm hh hR hb ha hbb hzz h1 ih
      generalize Tr.join b k x h = t2 at *
      generalize Tr.even a k' x' t2 = t3 at *
      generalize (Tr.node a k' x' b).depth = ld at *
      generalize h.depth = hd at *
      generalize h.size = hs at *
      go_enter Try.func93, Try.ntmps93
      go_wp2_with (first
        | (go_at_call 97; refine (unhide HA _ (by first | exact Kept.refl _ _ | exact (Kept.refl _ _).drew)).mono ?_; rintro e w3 ⟨rfl, hq⟩; have hq' := hq.symm; subst hq'; clear HA)
        | (go_at_call 97; refine (unhide HB _ (by first | exact Kept.refl _ _ | exact (Kept.refl _ _).drew)).mono ?_; rintro e w3 ⟨rfl, hq⟩; have hq' := hq.symm; subst hq'; clear HB)
        | fail)
      go_region_held3 (fun w' => w'.cell? ⟨g, 3, none⟩ = some (.pointer pa) ∧ w'.cell? ⟨g, 4, none⟩ = some (.pointer pb)) (first | go_keep | (exact ⟨(unhide HK).cell' c2, (unhide HK).cell' c3⟩)) (first
        | (go_at_call 93; refine (unhide HO _ (by first | exact Kept.refl _ _ | exact (Kept.refl _ _).drew)).mono ?_; rintro e w3 ⟨p3, rfl, hn3, hk3⟩; have HK := hide hk3; have HP3 := hide ((unhide HP _ _ hn3 hk3).then hk3); clear hn3 hk3 HO)
        | (go_at_call 99; refine (unhide HP3 _ (by first | exact Kept.refl _ _ | exact (Kept.refl _ _).drew)).mono ?_; rintro e w4 ⟨p4, rfl, hn4, hk4⟩; clear HK; have HK := hide hk4; have HN := hide hn4; clear hn4 hk4))
      all_goals go_wp2
      all_goals
        go_ret
        exact ⟨_, rfl, unhide HN, unhide HK⟩
  · cases h with
    | nil => exact absurd h2 (by simp [Tr.depth])
    | node a k' x' b =>
      have hR := Tr.join_high l k x a k' x' b h1 h2
      rw [hR]
      simp only [Tr.size] at hz hn
      have e1 : (((Tr.node a k' x' b).depth : Int) + 1 < (l.depth : Int)) = False := by simp only [eq_iff_iff, iff_false]; omega
      have e2 : ((l.depth : Int) + 1 < ((Tr.node a k' x' b).depth : Int)) = True := by simp only [eq_iff_iff, iff_true]; omega
      have hzz : (Tr.join l k x a).size + b.size < 4611686018427386000 := by rw [Tr.join_size]; omega
      have hdd : (Tr.node a k' x' b).depth < 4611686018427387000 := by
        have := (Tr.node a k' x' b).depth_le_size; simp only [Tr.size] at this; omega
      obtain ⟨g, pa, pb, rfl, hb, ha, hbb⟩ := hh
      obtain ⟨-, -, -, c2, c3, -, -⟩ := seven hb
      have HO : Hid (Made 93 #[.pointer pl, .pointer pm, .pointer pa] w (Tr.join l k x a)) := Made.of fun W hk => ih W pl pm pa l a k x (hl.kept hk) (hm.kept hk) (ha.kept hk) (by omega) (by omega)
      have HP : Hid (∀ w3 p3, Nd w3 p3 (Tr.join l k x a) → Kept [] w w3 → Made 99 #[.pointer p3, .pointer (some ⟨g, 0, none⟩), .pointer pb] w3 (Tr.even (Tr.join l k x a) k' x' b)) :=
        fun w3 p3 hn hk => even_at hn (show Mid w3 (some ⟨g, 0, none⟩) k' x' from ⟨g, _, _, _, _, rfl, hb.kept hk (by simp)⟩) (hbb.kept hk) hzz
      clear hm hl hR hb ha hbb hzz h1 h2 ih
      generalize Tr.join l k x a = t2 at *
      generalize Tr.even t2 k' x' b = t3 at *
      generalize (Tr.node a k' x' b).depth = hd at *
      generalize l.depth = ld at *
      generalize l.size = ls at *
      go_enter Try.func93, Try.ntmps93
      go_wp2_with (first
        | (go_at_call 97; refine (unhide HA _ (by first | exact Kept.refl _ _ | exact (Kept.refl _ _).drew)).mono ?_; rintro e w3 ⟨rfl, hq⟩; have hq' := hq.symm; subst hq'; clear HA)
        | (go_at_call 97; refine (unhide HB _ (by first | exact Kept.refl _ _ | exact (Kept.refl _ _).drew)).mono ?_; rintro e w3 ⟨rfl, hq⟩; have hq' := hq.symm; subst hq'; clear HB)
        | (go_at_call 97; refine (unhide HC _ (by first | exact Kept.refl _ _ | exact (Kept.refl _ _).drew)).mono ?_; rintro e w3 ⟨rfl, hq⟩; have hq' := hq.symm; subst hq'; clear HC)
        | (go_at_call 97; refine (unhide HD _ (by first | exact Kept.refl _ _ | exact (Kept.refl _ _).drew)).mono ?_; rintro e w3 ⟨rfl, hq⟩; have hq' := hq.symm; subst hq'; clear HD)
        | fail)
      go_region_held3 (fun w' => w'.cell? ⟨g, 3, none⟩ = some (.pointer pa) ∧ w'.cell? ⟨g, 4, none⟩ = some (.pointer pb)) (first | go_keep | (exact ⟨(unhide HK).cell' c2, (unhide HK).cell' c3⟩)) (first
        | (go_at_call 93; refine (unhide HO _ (by first | exact Kept.refl _ _ | exact (Kept.refl _ _).drew)).mono ?_; rintro e w3 ⟨p3, rfl, hn3, hk3⟩; have HK := hide hk3; have HP3 := hide ((unhide HP _ _ hn3 hk3).then hk3); clear hn3 hk3 HO)
        | (go_at_call 99; refine (unhide HP3 _ (by first | exact Kept.refl _ _ | exact (Kept.refl _ _).drew)).mono ?_; rintro e w4 ⟨p4, rfl, hn4, hk4⟩; clear HK; have HK := hide hk4; have HN := hide hn4; clear hn4 hk4))
      all_goals go_wp2
      all_goals
        go_ret
        exact ⟨_, rfl, unhide HN, unhide HK⟩
theorem join_any {w : World} {pl pm ph : Option Addr} {l h : TI} {k : ByteArray} {x : VT} (hl : Nd w pl l) (hm : Mid w pm k x) (hh : Nd w ph h) (hz : l.size + h.size < 4611686018427385000) :
    Calls Try.prog 93 #[.pointer pl, .pointer pm, .pointer ph] w fun e w' => ∃ p, e = .returned (.pointer p) ∧ Nd w' p (Tr.join l k x h) ∧ Kept [] w w' := join_n _ w pl pm ph l h k x hl hm hh hz (Nat.le_refl _)
theorem join_at {w : World} {pl pm ph : Option Addr} {l h : TI} {k : ByteArray} {x : VT} (hl : Nd w pl l) (hm : Mid w pm k x) (hh : Nd w ph h) (hz : l.size + h.size < 4611686018427385000) :
    Made 93 #[.pointer pl, .pointer pm, .pointer ph] w (Tr.join l k x h) := Made.of fun _ hk => join_any (hl.kept hk) (hm.kept hk) (hh.kept hk) hz
end Go.Proofs.Ytkejpbfbpomjfab.tre

/- An entry put into a tree. -/
namespace Go.Proofs.Ytkejpbfbpomjfab.tre
open Go.RowKit


set_option maxRecDepth 100000 in
set_option maxHeartbeats 4000000 in
theorem put_any (t : TI) : ∀ (w : World) (p pe : Option Addr) (k : ByteArray) (x : VT), Nd w p t → Mid w pe k x → t.size < 4611686018427384000 →
    Calls Try.prog 85 #[.pointer p, .pointer pe] w fun e w' => ∃ p, e = .returned (.pointer p) ∧ Nd w' p (t.put k x) ∧ Kept [] w w' := by
  induction t with
  | nil =>
    intro w p pe k x hp hm hz
    have hp : p = none := hp
    subst hp
    have HO := hide (over_at (Nd.of_nil (w := w)) hm Nd.of_nil (by simp [Tr.size]))
    clear hm hz
    go_enter Try.func85, Try.ntmps85
    go_wp2_with (first | (go_at_call 91; refine (unhide HO _ (by first | exact Kept.refl _ _ | exact (Kept.refl _ _).drew | exact (Kept.refl _ _).drew.drew)).mono ?_; rintro e w3 ⟨p3, rfl, hn3, hk3⟩; have HK := hide hk3; have HN := hide hn3; clear hn3 hk3 HO))
    go_ret
    exact ⟨_, rfl, unhide HN, unhide HK⟩
  | node l k' x' r ihl ihr =>
    intro w p pe k x hp hm hz
    obtain ⟨g, pa, pb, rfl, hb, hl, hr⟩ := hp
    obtain ⟨c0, -, -, c2, c3, -, -⟩ := seven hb
    have HM := hide hm
    obtain ⟨ge, u1, u2, u3, u4, rfl, hbe⟩ := hm
    obtain ⟨d0, -, -, -, -, -, -⟩ := seven hbe
    simp only [Tr.size] at hz
    have HML : Hid (∀ W, Kept [] w W → Mid W (some ⟨g, 0, none⟩) k' x') := fun W hk => ⟨g, _, _, _, _, rfl, hb.kept hk (by simp)⟩
    clear hb hbe
    rcases Bool.eq_false_or_eq_true (KOrd.lt k k') with h1 | h1
    · have hR : (Tr.node l k' x' r).put k x = Tr.join (l.put k x) k' x' r := by simp only [Tr.put, h1, if_true]
      rw [hR]
      have s1 := l.put_size k x
      have HC := hide (fun W => cmp_lt (w := W) h1)
      have HO : Hid (Made 85 #[.pointer pa, .pointer (some ⟨ge, 0, none⟩)] w (l.put k x)) := Made.of fun W hk => ihl W pa _ k x (hl.kept hk) ((unhide HM).kept hk) (by omega)
      have HP : Hid (∀ w3 p3, Nd w3 p3 (l.put k x) → Kept [] w w3 → Made 93 #[.pointer p3, .pointer (some ⟨g, 0, none⟩), .pointer pb] w3 (Tr.join (l.put k x) k' x' r)) :=
        fun w3 p3 hn hk => join_at hn (unhide HML _ hk) (hr.kept hk) (by omega)
      clear hR hl hr ihl ihr HM HML s1 hz
      generalize Tr.join (l.put k x) k' x' r = t3 at *
      generalize l.put k x = t2 at *
      go_enter Try.func85, Try.ntmps85
      go_wp2_with fail
      go_region_held3 (fun w' => w'.cell? ⟨ge, 0, none⟩ = some (.string k) ∧ w'.cell? ⟨g, 0, none⟩ = some (.string k')) (go_keep) (first
        | (go_at_call 92; refine (unhide HC _).mono ?_; rintro e w3 ⟨rfl, hq⟩; have hq' := hq.symm; subst hq'))
      go_wp2_with fail
      go_region_held3 (fun w' => w'.cell? ⟨g, 3, none⟩ = some (.pointer pa) ∧ w'.cell? ⟨g, 4, none⟩ = some (.pointer pb)) (first | go_keep | (exact ⟨(unhide HK).cell' c2, (unhide HK).cell' c3⟩)) (first
        | (go_at_call 85; refine (unhide HO _ (by first | exact Kept.refl _ _ | exact (Kept.refl _ _).drew | exact (Kept.refl _ _).drew.drew)).mono ?_; rintro e w3 ⟨p3, rfl, hn3, hk3⟩; have HK := hide hk3; have HP3 := hide ((unhide HP _ _ hn3 hk3).then hk3); clear hn3 hk3 HO)
        | (go_at_call 93; refine (unhide HP3 _ (by first | exact Kept.refl _ _ | exact (Kept.refl _ _).drew | exact (Kept.refl _ _).drew.drew)).mono ?_; rintro e w4 ⟨p4, rfl, hn4, hk4⟩; clear HK; have HK := hide hk4; have HN := hide hn4; clear hn4 hk4))
      all_goals go_wp2
      all_goals
        go_ret
        exact ⟨_, rfl, unhide HN, unhide HK⟩
    rcases Bool.eq_false_or_eq_true (KOrd.lt k' k) with h2 | h2
    · have hR : (Tr.node l k' x' r).put k x = Tr.join l k' x' (r.put k x) := by simp only [Tr.put, h1, h2, if_true, Bool.false_eq_true, if_false]
      rw [hR]
      have s1 := r.put_size k x
      have HC := hide (fun W => cmp_gt (w := W) h2)
      have HO : Hid (Made 85 #[.pointer pb, .pointer (some ⟨ge, 0, none⟩)] w (r.put k x)) := Made.of fun W hk => ihr W pb _ k x (hr.kept hk) ((unhide HM).kept hk) (by omega)
      have HP : Hid (∀ w3 p3, Nd w3 p3 (r.put k x) → Kept [] w w3 → Made 93 #[.pointer pa, .pointer (some ⟨g, 0, none⟩), .pointer p3] w3 (Tr.join l k' x' (r.put k x))) :=
        fun w3 p3 hn hk => join_at (hl.kept hk) (unhide HML _ hk) hn (by omega)
      clear hR hl hr ihl ihr HM HML s1 hz
      generalize Tr.join l k' x' (r.put k x) = t3 at *
      generalize r.put k x = t2 at *
      go_enter Try.func85, Try.ntmps85
      go_wp2_with fail
      go_region_held3 (fun w' => w'.cell? ⟨ge, 0, none⟩ = some (.string k) ∧ w'.cell? ⟨g, 0, none⟩ = some (.string k')) (go_keep) (first
        | (go_at_call 92; refine (unhide HC _).mono ?_; rintro e w3 ⟨rfl, hq⟩; have hq' := hq.symm; subst hq'))
      go_wp2_with fail
      go_region_held3 (fun w' => w'.cell? ⟨g, 3, none⟩ = some (.pointer pa) ∧ w'.cell? ⟨g, 4, none⟩ = some (.pointer pb)) (first | go_keep | (exact ⟨(unhide HK).cell' c2, (unhide HK).cell' c3⟩)) (first
        | (go_at_call 85; refine (unhide HO _ (by first | exact Kept.refl _ _ | exact (Kept.refl _ _).drew | exact (Kept.refl _ _).drew.drew)).mono ?_; rintro e w3 ⟨p3, rfl, hn3, hk3⟩; have HK := hide hk3; have HP3 := hide ((unhide HP _ _ hn3 hk3).then hk3); clear hn3 hk3 HO)
        | (go_at_call 93; refine (unhide HP3 _ (by first | exact Kept.refl _ _ | exact (Kept.refl _ _).drew | exact (Kept.refl _ _).drew.drew)).mono ?_; rintro e w4 ⟨p4, rfl, hn4, hk4⟩; clear HK; have HK := hide hk4; have HN := hide hn4; clear hn4 hk4))
      all_goals go_wp2
      all_goals
        go_ret
        exact ⟨_, rfl, unhide HN, unhide HK⟩
    · have hR : (Tr.node l k' x' r).put k x = .node l k x r := by simp only [Tr.put, h1, h2, Bool.false_eq_true, if_false]
      rw [hR]
      have HC := hide (fun W => cmp_eq (w := W) (klt_tri h2 h1))
      have HO := hide (over_at hl (unhide HM) hr (by omega))
      clear hR hl hr ihl ihr HM HML hz
      generalize Tr.node l k x r = t3 at *
      go_enter Try.func85, Try.ntmps85
      go_wp2_with fail
      go_region_held3 (fun w' => w'.cell? ⟨ge, 0, none⟩ = some (.string k) ∧ w'.cell? ⟨g, 0, none⟩ = some (.string k')) (go_keep) (first
        | (go_at_call 92; refine (unhide HC _).mono ?_; rintro e w3 ⟨rfl, hq⟩; have hq' := hq.symm; subst hq'))
      go_wp2_with fail
      go_region_held3 (fun w' => w'.cell? ⟨g, 3, none⟩ = some (.pointer pa) ∧ w'.cell? ⟨g, 4, none⟩ = some (.pointer pb)) (first | go_keep | (exact ⟨(unhide HK).cell' c2, (unhide HK).cell' c3⟩)) (first
        | (go_at_call 91; refine (unhide HO _ (by first | exact Kept.refl _ _ | exact (Kept.refl _ _).drew | exact (Kept.refl _ _).drew.drew)).mono ?_; rintro e w3 ⟨p3, rfl, hn3, hk3⟩; have HK := hide hk3; have HN := hide hn3; clear hn3 hk3 HO))
      all_goals go_wp2
      all_goals
        go_ret
        exact ⟨_, rfl, unhide HN, unhide HK⟩
theorem put_at {w : World} {p pe : Option Addr} {t : TI} {k : ByteArray} {x : VT} (h : Nd w p t) (hm : Mid w pe k x) (hz : t.size < 4611686018427384000) : Made 85 #[.pointer p, .pointer pe] w (t.put k x) :=
  Made.of fun W hk => put_any t W p pe k x (h.kept hk) (hm.kept hk) hz
end Go.Proofs.Ytkejpbfbpomjfab.tre

/- The last entry taken out; two trees made one. -/
namespace Go.Proofs.Ytkejpbfbpomjfab.tre
open Go.RowKit

def Cuts (w w' : World) (e : Ending) (l : TI) (k : ByteArray) (x : VT) (r : TI) : Prop := ∃ p1 p2, e = .returned (.tuple #[.pointer p1, .pointer p2]) ∧ Nd w' p1 (Tr.cut .nil l k x r).1 ∧ Mid w' p2 (Tr.cut .nil l k x r).2.1 (Tr.cut .nil l k x r).2.2 ∧ Kept [] w w'
set_option maxRecDepth 100000 in
set_option maxHeartbeats 4000000 in
theorem cut_any (r : TI) : ∀ (w : World) (p : Option Addr) (l : TI) (k : ByteArray) (x : VT), Nd w p (.node l k x r) → l.size + r.size < 4611686018427384000 →
    Calls Try.prog 101 #[.pointer p] w fun e w' => Cuts w w' e l k x r := by
  induction r with
  | nil =>
    intro w p l k x hp hz
    have HM := hide hp.mid
    obtain ⟨g, pa, pb, rfl, hb, hl, hr⟩ := hp
    have hr : pb = none := hr
    subst hr
    obtain ⟨-, -, -, c2, c3, -, -⟩ := seven hb
    have HL := hide hl
    clear hb hl
    go_enter Try.func101, Try.ntmps101
    go_wp2
    go_ret2
    exact ⟨_, _, rfl, unhide HL, unhide HM, Kept.refl _ _⟩
  | node a k' x' b iha ihb =>
    intro w p l k x hp hz
    obtain ⟨g, pa, pb, rfl, hb, hl, hr⟩ := hp
    obtain ⟨-, -, -, c2, c3, -, -⟩ := seven hb
    have s1 := Tr.cut_size .nil a k' x' b
    simp only [Tr.size] at hz
    have HO : Hid (∀ W, Kept [] w W → Calls Try.prog 101 #[.pointer pb] W fun e w' => Cuts W w' e a k' x' b) := fun W hk => ihb W pb a k' x' (hr.kept hk) (by omega)
    obtain ⟨gb, qa, qb, rfl, -, -, -⟩ := hr
    have HP : Hid (∀ w3 p3, Nd w3 p3 (Tr.cut .nil a k' x' b).1 → Kept [] w w3 → Made 93 #[.pointer pa, .pointer (some ⟨g, 0, none⟩), .pointer p3] w3 (Tr.join l k x (Tr.cut .nil a k' x' b).1)) :=
      fun w3 p3 hn hk => join_at (hl.kept hk) (show Mid w3 (some ⟨g, 0, none⟩) k x from ⟨g, _, _, _, _, rfl, hb.kept hk (by simp)⟩) hn (by omega)
    have HR : Hid (∀ (e : Ending) (w' : World), (∃ p1 p2, e = .returned (.tuple #[.pointer p1, .pointer p2]) ∧ Nd w' p1 (Tr.join l k x (Tr.cut .nil a k' x' b).1) ∧ Mid w' p2 (Tr.cut .nil a k' x' b).2.1 (Tr.cut .nil a k' x' b).2.2 ∧ Kept [] w w') → Cuts w w' e l k x (.node a k' x' b)) := by
      rintro e w' ⟨p1, p2, h1, h2, h3, h4⟩
      exact ⟨p1, p2, h1, h2, h3, h4⟩
    clear hb hl hz s1 iha ihb
    unfold Cuts at HO
    generalize Tr.join l k x (Tr.cut .nil a k' x' b).1 = t3 at *
    generalize (Tr.cut .nil a k' x' b).1 = t2 at *
    generalize (Tr.cut .nil a k' x' b).2.1 = k2 at *
    generalize (Tr.cut .nil a k' x' b).2.2 = x2 at *
    go_enter Try.func101, Try.ntmps101
    go_wp2_with (first
      | (go_at_call 101; refine (unhide HO _ (by first | exact Kept.refl _ _ | exact (Kept.refl _ _).drew | exact (Kept.refl _ _).drew.drew)).mono ?_; rintro e w3 ⟨p3, p4, rfl, hn3, hm3, hk3⟩; have HK := hide hk3; have HP3 := hide (unhide HP _ _ hn3 hk3); have HM3 := hide hm3; have c2' := hk3.cell' c2; have c3' := hk3.cell' c3; clear hn3 hk3 hm3 HO)
      | (go_at_call 93; refine (unhide HP3 _ (by first | exact Kept.refl _ _ | exact (Kept.refl _ _).drew | exact (Kept.refl _ _).drew.drew)).mono ?_; rintro e w4 ⟨p5, rfl, hn4, hk4⟩; have HN := hide hn4; have HM4 := hide ((unhide HM3).kept hk4); have HK4 := hide ((unhide HK).trans hk4 (by simp)); clear hn4 hk4))
    go_ret2
    exact unhide HR _ _ ⟨_, _, rfl, unhide HN, unhide HM4, unhide HK4⟩
set_option maxRecDepth 100000 in
set_option maxHeartbeats 4000000 in
theorem meet_any {w : World} {pl ph : Option Addr} {l h : TI} (hl : Nd w pl l) (hh : Nd w ph h) (hz : l.size + h.size < 4611686018427384000) :
    Calls Try.prog 96 #[.pointer pl, .pointer ph] w fun e w' => ∃ p, e = .returned (.pointer p) ∧ Nd w' p (Tr.meet l h) ∧ Kept [] w w' := by
  cases l with
  | nil =>
    have hl : pl = none := hl
    subst hl
    have HH := hide hh
    clear hh
    go_enter Try.func96, Try.ntmps96
    go_wp2
    go_ret
    exact ⟨_, rfl, unhide HH, Kept.refl _ _⟩
  | node l k x r =>
    have s1 := Tr.cut_size .nil l k x r
    simp only [Tr.size] at hz
    have HO := hide (cut_any r w pl l k x hl (by omega))
    unfold Cuts at HO
    obtain ⟨gb, qa, qb, rfl, -, -, -⟩ := hl
    have HP : Hid (∀ w3 p3 p4, Nd w3 p3 (Tr.cut .nil l k x r).1 → Mid w3 p4 (Tr.cut .nil l k x r).2.1 (Tr.cut .nil l k x r).2.2 → Kept [] w w3 → Made 93 #[.pointer p3, .pointer p4, .pointer ph] w3 (Tr.meet (.node l k x r) h)) :=
      fun w3 p3 p4 hn hm hk => join_at hn hm (hh.kept hk) (by omega)
    clear hh hz s1
    generalize Tr.meet (.node l k x r) h = t3 at *
    generalize (Tr.cut .nil l k x r).1 = t2 at *
    generalize (Tr.cut .nil l k x r).2.1 = k2 at *
    generalize (Tr.cut .nil l k x r).2.2 = x2 at *
    go_enter Try.func96, Try.ntmps96
    go_wp2_with (first
      | (go_at_call 101; refine (unhide HO).mono ?_; rintro e w3 ⟨p3, p4, rfl, hn3, hm3, hk3⟩; have HP3 := hide ((unhide HP _ _ _ hn3 hm3 hk3).then hk3); clear hn3 hk3 hm3 HO)
      | (go_at_call 93; refine (unhide HP3 _ (by first | exact Kept.refl _ _ | exact (Kept.refl _ _).drew | exact (Kept.refl _ _).drew.drew)).mono ?_; rintro e w4 ⟨p5, rfl, hn4, hk4⟩; have HN := hide hn4; have HK4 := hide hk4; clear hn4 hk4))
    go_ret
    exact ⟨_, rfl, unhide HN, unhide HK4⟩
theorem meet_at {w : World} {pl ph : Option Addr} {l h : TI} (hl : Nd w pl l) (hh : Nd w ph h) (hz : l.size + h.size < 4611686018427384000) : Made 96 #[.pointer pl, .pointer ph] w (Tr.meet l h) :=
  Made.of fun _ hk => meet_any (hl.kept hk) (hh.kept hk) hz
end Go.Proofs.Ytkejpbfbpomjfab.tre

/- An entry taken out of a tree. -/
namespace Go.Proofs.Ytkejpbfbpomjfab.tre
open Go.RowKit

set_option maxRecDepth 100000 in
set_option maxHeartbeats 4000000 in
theorem without_any (t : TI) : ∀ (w : World) (p : Option Addr) (k : ByteArray), Nd w p t → t.size < 4611686018427384000 →
    Calls Try.prog 90 #[.pointer p, .string k] w fun e w' => ∃ p, e = .returned (.tuple #[.pointer p, .bool (t.without k).2]) ∧ Nd w' p (t.without k).1 ∧ Kept [] w w' := by
  induction t with
  | nil =>
    intro w p k hp hz
    have hp : p = none := hp
    subst hp
    clear hz
    go_enter Try.func90, Try.ntmps90
    go_wp2
    go_ret2
    exact ⟨_, rfl, Nd.of_nil, Kept.refl _ _⟩
  | node l k' x' r ihl ihr =>
    intro w p k hp hz
    have HP := hide hp
    obtain ⟨g, pa, pb, rfl, hb, hl, hr⟩ := hp
    obtain ⟨c0, -, -, c2, c3, -, -⟩ := seven hb
    simp only [Tr.size] at hz
    have HML : Hid (∀ W, Kept [] w W → Mid W (some ⟨g, 0, none⟩) k' x') := fun W hk => ⟨g, _, _, _, _, rfl, hb.kept hk (by simp)⟩
    have HB := hide hb
    clear hb
    rcases Bool.eq_false_or_eq_true (KOrd.lt k k') with h1 | h1
    · have HC := hide (fun W => cmp_lt (w := W) h1)
      have HS := hide (side_low rfl (unhide HB))
      have HO : Hid (∀ W, Kept [] w W → Calls Try.prog 90 #[.pointer pa, .string k] W fun e w' => ∃ p, e = .returned (.tuple #[.pointer p, .bool (l.without k).2]) ∧ Nd w' p (l.without k).1 ∧ Kept [] W w') := fun W hk => ihl W pa k (hl.kept hk) (by omega)
      have s1 := l.without_size k
      have HR : Hid (∀ w3 p3, Nd w3 p3 (l.without k).1 → Kept [] w w3 → Made 93 #[.pointer p3, .pointer (some ⟨g, 0, none⟩), .pointer pb] w3 (Tr.join (l.without k).1 k' x' r)) :=
        fun w3 p3 hn hk => join_at hn (unhide HML _ hk) (hr.kept hk) (by omega)
      clear hl hr ihl ihr HML HB
      by_cases hw : (l.without k).2 = true
      · have hR : (Tr.node l k' x' r).without k = (Tr.join (l.without k).1 k' x' r, true) := by simp only [Tr.without, h1, if_true, hw]
        rw [hR]
        rw [hw] at HO
        clear hR HP
        generalize Tr.join (l.without k).1 k' x' r = t3 at *
        generalize (l.without k).1 = t2 at *
        go_enter Try.func90, Try.ntmps90
        go_wp2_with (first
          | (go_at_call 92; refine (unhide HC _).mono ?_; rintro e w3 ⟨rfl, hq⟩; have hq' := hq.symm; subst hq')
          | (go_at_call 77; refine (unhide HS).mono ?_; rintro e w3 ⟨rfl, hq⟩; have hq' := hq.symm; subst hq')
          | (go_at_call 90; refine (unhide HO _ (by first | exact Kept.refl _ _ | exact (Kept.refl _ _).drew | exact (Kept.refl _ _).drew.drew)).mono ?_; rintro e w3 ⟨p3, rfl, hn3, hk3⟩; have HK := hide hk3; have HR3 := hide ((unhide HR _ _ hn3 hk3).then hk3); have c2' := hk3.cell' c2; have c3' := hk3.cell' c3; clear hn3 hk3 HO)
          | (go_at_call 93; refine (unhide HR3 _ (by first | exact Kept.refl _ _ | exact (Kept.refl _ _).drew | exact (Kept.refl _ _).drew.drew)).mono ?_; rintro e w4 ⟨p4, rfl, hn4, hk4⟩; have HN := hide hn4; have HK4 := hide hk4; clear hn4 hk4))
        go_ret2
        exact ⟨_, rfl, unhide HN, unhide HK4⟩
      · replace hw : (l.without k).2 = false := by simpa using hw
        have hR : (Tr.node l k' x' r).without k = (.node l k' x' r, false) := by simp only [Tr.without, h1, if_true, hw, Bool.false_eq_true, if_false]
        rw [hR]
        rw [hw] at HO
        clear hR
        go_enter Try.func90, Try.ntmps90
        go_wp2_with (first
          | (go_at_call 92; refine (unhide HC _).mono ?_; rintro e w3 ⟨rfl, hq⟩; have hq' := hq.symm; subst hq')
          | (go_at_call 77; refine (unhide HS).mono ?_; rintro e w3 ⟨rfl, hq⟩; have hq' := hq.symm; subst hq')
          | (go_at_call 90; refine (unhide HO _ (by first | exact Kept.refl _ _ | exact (Kept.refl _ _).drew | exact (Kept.refl _ _).drew.drew)).mono ?_; rintro e w3 ⟨p3, rfl, hn3, hk3⟩; have HN := hide ((unhide HP).kept hk3); have HK := hide hk3; clear hn3 hk3 HO))
        go_ret2
        exact ⟨_, rfl, unhide HN, unhide HK⟩
    rcases Bool.eq_false_or_eq_true (KOrd.lt k' k) with h2 | h2
    · have HC := hide (fun W => cmp_gt (w := W) h2)
      have HS := hide (side_high rfl (unhide HB))
      have HO : Hid (∀ W, Kept [] w W → Calls Try.prog 90 #[.pointer pb, .string k] W fun e w' => ∃ p, e = .returned (.tuple #[.pointer p, .bool (r.without k).2]) ∧ Nd w' p (r.without k).1 ∧ Kept [] W w') := fun W hk => ihr W pb k (hr.kept hk) (by omega)
      have s1 := r.without_size k
      have HR : Hid (∀ w3 p3, Nd w3 p3 (r.without k).1 → Kept [] w w3 → Made 93 #[.pointer pa, .pointer (some ⟨g, 0, none⟩), .pointer p3] w3 (Tr.join l k' x' (r.without k).1)) :=
        fun w3 p3 hn hk => join_at (hl.kept hk) (unhide HML _ hk) hn (by omega)
      clear hl hr ihl ihr HML HB
      by_cases hw : (r.without k).2 = true
      · have hR : (Tr.node l k' x' r).without k = (Tr.join l k' x' (r.without k).1, true) := by simp only [Tr.without, h1, h2, if_true, Bool.false_eq_true, if_false, hw]
        rw [hR]
        rw [hw] at HO
        clear hR HP
        generalize Tr.join l k' x' (r.without k).1 = t3 at *
        generalize (r.without k).1 = t2 at *
        go_enter Try.func90, Try.ntmps90
        go_wp2_with (first
          | (go_at_call 92; refine (unhide HC _).mono ?_; rintro e w3 ⟨rfl, hq⟩; have hq' := hq.symm; subst hq')
          | (go_at_call 77; refine (unhide HS).mono ?_; rintro e w3 ⟨rfl, hq⟩; have hq' := hq.symm; subst hq')
          | (go_at_call 90; refine (unhide HO _ (by first | exact Kept.refl _ _ | exact (Kept.refl _ _).drew | exact (Kept.refl _ _).drew.drew)).mono ?_; rintro e w3 ⟨p3, rfl, hn3, hk3⟩; have HK := hide hk3; have HR3 := hide ((unhide HR _ _ hn3 hk3).then hk3); have c2' := hk3.cell' c2; have c3' := hk3.cell' c3; clear hn3 hk3 HO)
          | (go_at_call 93; refine (unhide HR3 _ (by first | exact Kept.refl _ _ | exact (Kept.refl _ _).drew | exact (Kept.refl _ _).drew.drew)).mono ?_; rintro e w4 ⟨p4, rfl, hn4, hk4⟩; have HN := hide hn4; have HK4 := hide hk4; clear hn4 hk4))
        go_ret2
        exact ⟨_, rfl, unhide HN, unhide HK4⟩
      · replace hw : (r.without k).2 = false := by simpa using hw
        have hR : (Tr.node l k' x' r).without k = (.node l k' x' r, false) := by simp only [Tr.without, h1, h2, if_true, hw, Bool.false_eq_true, if_false]
        rw [hR]
        rw [hw] at HO
        clear hR
        go_enter Try.func90, Try.ntmps90
        go_wp2_with (first
          | (go_at_call 92; refine (unhide HC _).mono ?_; rintro e w3 ⟨rfl, hq⟩; have hq' := hq.symm; subst hq')
          | (go_at_call 77; refine (unhide HS).mono ?_; rintro e w3 ⟨rfl, hq⟩; have hq' := hq.symm; subst hq')
          | (go_at_call 90; refine (unhide HO _ (by first | exact Kept.refl _ _ | exact (Kept.refl _ _).drew | exact (Kept.refl _ _).drew.drew)).mono ?_; rintro e w3 ⟨p3, rfl, hn3, hk3⟩; have HN := hide ((unhide HP).kept hk3); have HK := hide hk3; clear hn3 hk3 HO))
        go_ret2
        exact ⟨_, rfl, unhide HN, unhide HK⟩
    · have HC := hide (fun W => cmp_eq (w := W) (klt_tri h2 h1))
      have hR : (Tr.node l k' x' r).without k = (Tr.meet l r, true) := by simp only [Tr.without, h1, h2, Bool.false_eq_true, if_false]
      rw [hR]
      have HO := hide (meet_at hl hr (by omega))
      clear hl hr ihl ihr HML HB hR HP
      generalize Tr.meet l r = t3 at *
      go_enter Try.func90, Try.ntmps90
      go_wp2_with (first
        | (go_at_call 92; refine (unhide HC _).mono ?_; rintro e w3 ⟨rfl, hq⟩; have hq' := hq.symm; subst hq')
        | fail)
      go_region_held3 (fun w' => w'.cell? ⟨g, 3, none⟩ = some (.pointer pa) ∧ w'.cell? ⟨g, 4, none⟩ = some (.pointer pb)) (first | go_keep | (exact ⟨(unhide HK).cell' c2, (unhide HK).cell' c3⟩)) (first
        | (go_at_call 96; refine (unhide HO _ (by first | exact Kept.refl _ _ | exact (Kept.refl _ _).drew | exact (Kept.refl _ _).drew.drew)).mono ?_; rintro e w3 ⟨p3, rfl, hn3, hk3⟩; have HK := hide hk3; have HN := hide hn3; clear hn3 hk3 HO))
      all_goals go_wp2
      all_goals
        go_ret2
        exact ⟨_, rfl, unhide HN, unhide HK⟩
end Go.Proofs.Ytkejpbfbpomjfab.tre
