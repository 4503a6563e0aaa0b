/- An entry found, a rank, a place. -/
import Derived.Test.YtbpeeifgfjpghaaTAt
import Derived.Test.YtbpeeifgfjpghaaTSize
namespace Go.Proofs.Ytbpeeifgfjpghaa
open Go.RowKit

theorem Nd.one {w : World} {t : TI} : ∀ {p : Option Addr} {s : TI}, Nd w p t → Nd w p s → t = s := by
  induction t with
  | nil => intro p s h1 h2; have h1 : p = none := h1; subst h1; exact h2.is_none.symm
  | node l k x r ihl ihr =>
    intro p s h1 h2
    obtain ⟨b, pl, pr, rfl, hb, hl, hr⟩ := h1
    cases s with
    | nil => cases h2
    | node l2 k2 x2 r2 =>
      obtain ⟨b', pl', pr', e, hb', hl', hr'⟩ := h2
      cases e
      unfold Blk at hb hb'
      rw [hb] at hb'
      simp only [Option.some.injEq, Obj.cells.injEq, Array.mk.injEq, List.cons.injEq, Value.int.injEq, Value.pointer.injEq, true_and, and_true] at hb'
      obtain ⟨rfl, rfl, rfl, rfl, _⟩ := hb'
      rw [ihl hl hl', ihr hr hr']
open Classical in
/-- how many entries the tree at this pointer has -/
noncomputable def szOf (w : World) (i : Value) : Nat := if h : ∃ s : TI, ∃ p, i = .pointer p ∧ Nd w p s then (Classical.choose h).size else 0
theorem szOf_eq {w : World} {p : Option Addr} {s : TI} (h : Nd w p s) : szOf w (.pointer p) = s.size := by
  have hx : ∃ s : TI, ∃ q, Value.pointer p = .pointer q ∧ Nd w q s := ⟨s, p, rfl, h⟩
  unfold szOf
  rw [dif_pos hx]
  obtain ⟨q, e, hq⟩ := Classical.choose_spec hx
  cases e
  rw [hq.one h]

set_option maxRecDepth 100000 in
set_option maxHeartbeats 4000000 in
theorem find_any {w : World} {p : Option Addr} {t : TI} (k : Int) (h : Nd w p t) :
    Calls Try.prog 89 #[.pointer p, .int .i64 k] w fun e w' => (∃ p, e = .returned (.pointer p) ∧ ((t.find k = none ∧ p = none) ∨ ∃ k' x, t.find k = some (k', x) ∧ Mid w p k' x)) ∧ w' = w := by
  have H := hide h
  clear h
  go_enter Try.func89, Try.ntmps89
  go_wp2_with fail
  go_loopw [0] (fun i wr => ∃ p s, i = .pointer p ∧ Nd w p s ∧ t.find k = s.find k ∧ wr = w) (fun i _ => szOf w i)
  case atStart => exact ⟨p, t, rfl, unhide H, rfl, rfl⟩
  case round =>
    clear H p
    obtain ⟨p, s, rfl, hs, hf, rfl⟩ := hrel
    have HZ := hide (szOf_eq hs)
    cases s with
    | nil =>
      have hs : p = none := hs
      subst hs
      go_wp2
      go_ret
      exact ⟨⟨none, rfl, Or.inl ⟨hf, rfl⟩⟩, rfl⟩
    | node l k' x' r =>
      have HM := hide hs.mid
      have HF := hide hf
      obtain ⟨g, pa, pb, rfl, hb, hl, hr⟩ := hs
      obtain ⟨c0, -, c2, c3, -, -⟩ := six hb
      have HB := hide hb
      have HL := hide hl
      have HR := hide hr
      clear hb hl hr hf
      by_cases h1 : k < k'
      · have hR : (Tr.node l k' x' r).find k = l.find k := by simp only [Tr.find, klt_int, h1, decide_true, if_true]
        rw [hR] at HF
        have HC := hide (cmp_lt (w := wr) h1)
        have HS := hide (side_low rfl (unhide HB))
        clear hR HB
        go_wp2_with (first
          | (go_at_call 85; refine (unhide HC).mono ?_; rintro e w3 ⟨rfl, hq⟩; have hq' := hq.symm; subst hq')
          | (go_at_call 92; refine (unhide HS).mono ?_; rintro e w3 ⟨rfl, hq⟩; have hq' := hq.symm; subst hq'))
        refine ⟨⟨_, l, rfl, unhide HL, unhide HF, by first | rfl | trivial⟩, ?_⟩
        rw [szOf_eq (unhide HL), unhide HZ]; simp only [Tr.size]; omega
      by_cases h2 : k' < k
      · have hR : (Tr.node l k' x' r).find k = r.find k := by simp only [Tr.find, klt_int, h1, h2, decide_true, decide_false, if_true, Bool.false_eq_true, if_false]
        rw [hR] at HF
        have HC := hide (cmp_gt (w := wr) h2)
        have HS := hide (side_high rfl (unhide HB))
        clear hR HB
        go_wp2_with (first
          | (go_at_call 85; refine (unhide HC).mono ?_; rintro e w3 ⟨rfl, hq⟩; have hq' := hq.symm; subst hq')
          | (go_at_call 92; refine (unhide HS).mono ?_; rintro e w3 ⟨rfl, hq⟩; have hq' := hq.symm; subst hq'))
        refine ⟨⟨_, r, rfl, unhide HR, unhide HF, by first | rfl | trivial⟩, ?_⟩
        rw [szOf_eq (unhide HR), unhide HZ]; simp only [Tr.size]; omega
      · have hR : (Tr.node l k' x' r).find k = some (k', x') := by simp only [Tr.find, klt_int, h1, h2, decide_false, Bool.false_eq_true, if_false]
        rw [hR] at HF
        have HC := hide (cmp_eq (w := wr) (show k' = k by omega))
        clear hR HB
        go_wp2_with (first
          | (go_at_call 85; refine (unhide HC).mono ?_; rintro e w3 ⟨rfl, hq⟩; have hq' := hq.symm; subst hq'))
        go_ret
        exact ⟨⟨_, rfl, Or.inr ⟨k', x', unhide HF, unhide HM⟩⟩, rfl⟩

set_option maxRecDepth 100000 in
set_option maxHeartbeats 4000000 in
theorem rank_any {w : World} {p : Option Addr} {t : TI} (k : Int) (h : Nd w p t) (hz : t.size < 4611686018427387000) :
    Calls Try.prog 90 #[.pointer p, .int .i64 k] w fun e w' => e = .returned (.int .i64 (t.rank k : Nat)) ∧ w' = w := by
  have H := hide h
  have hrk := t.rank_size k
  clear h
  go_enter Try.func90, Try.ntmps90
  go_wp2_with fail
  go_loopw [0, 5] (fun i j wr => ∃ p s, ∃ m : Nat, i = .pointer p ∧ j = .int .i64 (m : Int) ∧ Nd w p s ∧ t.rank k = m + s.rank k ∧ m + s.size ≤ t.size ∧ wr = w) (fun i _ _ => szOf w i)
  case atStart => exact ⟨p, t, 0, rfl, rfl, unhide H, by omega, by omega, rfl⟩
  case round =>
    clear H p
    obtain ⟨p, s, m, rfl, rfl, hs, hf, hm, rfl⟩ := hrel
    have HZ := hide (szOf_eq hs)
    cases s with
    | nil =>
      have hs : p = none := hs
      subst hs
      simp only [Tr.rank, Nat.add_zero] at hf
      go_wp2
      go_ret
      exact ⟨by rw [hf]; rfl, rfl⟩
    | node l k' x' r =>
      have HF := hide hf
      obtain ⟨g, pa, pb, rfl, hb, hl, hr⟩ := hs
      obtain ⟨c0, -, c2, c3, -, -⟩ := six hb
      have HB := hide hb
      have HL := hide hl
      have HR := hide hr
      have HN := hide (count_any hl)
      simp only [Tr.size] at hm
      clear hb hl hr hf
      by_cases h1 : k' < k
      · have hR : (Tr.node l k' x' r).rank k = l.size + 1 + r.rank k := by simp only [Tr.rank, klt_int, h1, decide_true, if_true]
        rw [hR] at HF
        have HC := hide (less_any (w := wr) k' k)
        rw [show decide (k' < k) = true by simp [h1]] at HC
        have HS := hide (side_high rfl (unhide HB))
        clear hR HB
        generalize hls : l.size = ls at *
        have HLS := hide hls
        clear hls
        go_wp2_with (first
          | (go_at_call 52; refine (unhide HC).mono ?_; rintro e w3 ⟨rfl, hq⟩; have hq' := hq.symm; subst hq')
          | (go_at_call 54; refine (unhide HN).mono ?_; rintro e w3 ⟨rfl, hq⟩; have hq' := hq.symm; subst hq')
          | (go_at_call 92; refine (unhide HS).mono ?_; rintro e w3 ⟨rfl, hq⟩; have hq' := hq.symm; subst hq'))
        refine ⟨⟨_, r, m + ls + 1, rfl, by first | rfl | (congr 1; omega), unhide HR, ?_, by omega, by first | rfl | trivial⟩, ?_⟩
        · have := unhide HF; omega
        · rw [szOf_eq (unhide HR), unhide HZ]; simp only [Tr.size]; omega
      · have hR : (Tr.node l k' x' r).rank k = l.rank k := by simp only [Tr.rank, klt_int, h1, decide_false, Bool.false_eq_true, if_false]
        rw [hR] at HF
        have HC := hide (less_any (w := wr) k' k)
        rw [show decide (k' < k) = false by simp [h1]] at HC
        have HS := hide (side_low rfl (unhide HB))
        clear hR HB
        go_wp2_with (first
          | (go_at_call 52; refine (unhide HC).mono ?_; rintro e w3 ⟨rfl, hq⟩; have hq' := hq.symm; subst hq')
          | (go_at_call 54; refine (unhide HN).mono ?_; rintro e w3 ⟨rfl, hq⟩; have hq' := hq.symm; subst hq')
          | (go_at_call 92; refine (unhide HS).mono ?_; rintro e w3 ⟨rfl, hq⟩; have hq' := hq.symm; subst hq'))
        refine ⟨⟨_, l, m, rfl, rfl, unhide HL, unhide HF, by omega, by first | rfl | trivial⟩, ?_⟩
        rw [szOf_eq (unhide HL), unhide HZ]; simp only [Tr.size]; omega
set_option maxRecDepth 100000 in
set_option maxHeartbeats 4000000 in
theorem at_any {w : World} {p : Option Addr} {t : TI} (i : Int) (h : Nd w p t) (hz : t.size < 9223372036854775807) (hi : -9223372036854775808 ≤ i ∧ i ≤ 9223372036854775807) :
    Calls Try.prog 51 #[.pointer p, .int .i64 i] w fun e w' => (∃ p, e = .returned (.pointer p) ∧ ((t.at' i = none ∧ p = none) ∨ ∃ k' x, t.at' i = some (k', x) ∧ Mid w p k' x)) ∧ w' = w := by
  have H := hide h
  clear h
  go_enter Try.func51, Try.ntmps51
  go_wp2_with fail
  go_loopw [0, 1] (fun u v wr => ∃ p s j, u = .pointer p ∧ v = .int .i64 j ∧ Nd w p s ∧ t.at' i = s.at' j ∧ j ≤ 9223372036854775807 ∧ s.size < 9223372036854775807 ∧ wr = w) (fun u _ _ => szOf w u)
  case atStart => exact ⟨p, t, i, rfl, rfl, unhide H, rfl, hi.2, by omega, rfl⟩
  case round =>
    clear H p
    obtain ⟨p, s, j, rfl, rfl, hs, hf, hj, hsz, rfl⟩ := hrel
    have HZ := hide (szOf_eq hs)
    cases s with
    | nil =>
      have hs : p = none := hs
      subst hs
      go_wp2
      go_ret
      exact ⟨⟨none, rfl, Or.inl ⟨hf, rfl⟩⟩, rfl⟩
    | node l k' x' r =>
      have HM := hide hs.mid
      have HF := hide hf
      obtain ⟨g, pa, pb, rfl, hb, hl, hr⟩ := hs
      obtain ⟨c0, -, c2, c3, -, -⟩ := six hb
      have HB := hide hb
      have HL := hide hl
      have HR := hide hr
      have HN := hide (count_any hl)
      simp only [Tr.size] at hsz
      clear hb hl hr hf
      by_cases h0 : j = l.size
      · have hR : (Tr.node l k' x' r).at' j = some (k', x') := by simp only [Tr.at', h0, if_true]
        rw [hR] at HF
        clear hR HB
        generalize l.size = ls at *
        subst h0
        go_wp2_with (first
          | (go_at_call 52; refine (unhide HC).mono ?_; rintro e w3 ⟨rfl, hq⟩; have hq' := hq.symm; subst hq')
          | (go_at_call 54; refine (unhide HN).mono ?_; rintro e w3 ⟨rfl, hq⟩; have hq' := hq.symm; subst hq')
          | (go_at_call 92; refine (unhide HS).mono ?_; rintro e w3 ⟨rfl, hq⟩; have hq' := hq.symm; subst hq'))
        go_ret
        exact ⟨⟨_, rfl, Or.inr ⟨k', x', unhide HF, unhide HM⟩⟩, rfl⟩
      by_cases h1 : j > l.size
      · have hR : (Tr.node l k' x' r).at' j = r.at' (j - (l.size + 1)) := by simp only [Tr.at', h0, h1, if_true, if_false]
        rw [hR] at HF
        have HS := hide (side_high rfl (unhide HB))
        clear hR HB
        generalize hls : l.size = ls at *
        have t1 : (j = (ls : Int)) = False := by simp [h0]
        have t2 : ((ls : Int) < j) = True := by simp only [eq_iff_iff, iff_true]; omega
        go_wp2_with (first
          | (go_at_call 52; refine (unhide HC).mono ?_; rintro e w3 ⟨rfl, hq⟩; have hq' := hq.symm; subst hq')
          | (go_at_call 54; refine (unhide HN).mono ?_; rintro e w3 ⟨rfl, hq⟩; have hq' := hq.symm; subst hq')
          | (go_at_call 92; refine (unhide HS).mono ?_; rintro e w3 ⟨rfl, hq⟩; have hq' := hq.symm; subst hq'))
        refine ⟨⟨_, r, j - (ls + 1), rfl, by first | rfl | (congr 1; omega), unhide HR, unhide HF, by omega, by omega, by first | rfl | trivial⟩, ?_⟩
        rw [szOf_eq (unhide HR), unhide HZ]; simp only [Tr.size]; omega
      · have hR : (Tr.node l k' x' r).at' j = l.at' j := by simp only [Tr.at', h0, h1, if_false]
        rw [hR] at HF
        have HS := hide (side_low rfl (unhide HB))
        clear hR HB
        generalize hls : l.size = ls at *
        have t1 : (j = (ls : Int)) = False := by simp [h0]
        have t2 : ((ls : Int) < j) = False := by simp only [eq_iff_iff, iff_false]; omega
        go_wp2_with (first
          | (go_at_call 52; refine (unhide HC).mono ?_; rintro e w3 ⟨rfl, hq⟩; have hq' := hq.symm; subst hq')
          | (go_at_call 54; refine (unhide HN).mono ?_; rintro e w3 ⟨rfl, hq⟩; have hq' := hq.symm; subst hq')
          | (go_at_call 92; refine (unhide HS).mono ?_; rintro e w3 ⟨rfl, hq⟩; have hq' := hq.symm; subst hq'))
        refine ⟨⟨_, l, j, rfl, rfl, unhide HL, unhide HF, hj, by omega, by first | rfl | trivial⟩, ?_⟩
        rw [szOf_eq (unhide HL), unhide HZ]; simp only [Tr.size]; omega
end Go.Proofs.Ytbpeeifgfjpghaa
