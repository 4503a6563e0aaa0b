/- steps: Pick. -/
import Derived.Test.YtoibkgjnnneagaaDStep2
namespace Go.Proofs.Ytoibkgjnnneagaa
open Go.RowKit

theorem FRow.keep {w w' : World} {base g cap : Nat} {l : List Nat} {F : List Nat} (h : FRow w base g cap l) (hk : Kept F w w') (hn : g ∉ F) : FRow w' base g cap l := by
  have h' : w.ownsRow base 52 1 (.slice (some ⟨g, 0, none⟩) (l.length + 1) cap) (l.length + 1) (flts (l ++ [13842939354630062080])) := h
  exact own_kept h' hk (by intro k e; cases e; exact hn)
theorem FRow.lt {w : World} {base g cap : Nat} {l : List Nat} (h : FRow w base g cap l) : base ≤ g ∧ g < w.heap.size := by
  have h' : w.ownsRow base 52 1 (.slice (some ⟨g, 0, none⟩) (l.length + 1) cap) (l.length + 1) (flts (l ++ [13842939354630062080])) := h
  exact own_lt h' rfl
/-- a pick hangs on the weights and on the state alone, and the document's is the same -/
theorem picks_same (l : List Nat) (s : Nat) (hb : ∀ j, j < l.length → l.getD j 0 < 18446744073709551616) (hl : l.length ≤ 2097152) :
    ∃ (K E : Int) (t : Nat), (∀ (w : World) (b : Nat) (v : Value), Dc w b s → SeesF w v l → (∀ k, v.ownBlock = some k → k ≠ b) →
      Calls Try.prog 13 #[.pointer (some ⟨b, 0, none⟩), v] w fun e w' => e = .returned (.tuple #[.int .i64 K, .int .i64 E]) ∧ Dc w' b t ∧ Kept [b] w w') ∧
      (∀ (w : World) (b : Nat) (v : Value), Rc w b s → SeesF w v l → (∀ k, v.ownBlock = some k → k ≠ b) →
      Calls Try.prog 38 #[.pointer (some ⟨b, 0, none⟩), v] w fun e w' => e = .returned (.tuple #[.int .i64 K, .int .i64 E]) ∧ Rc w' b t ∧ Kept [b] w w') := by
  by_cases hr : right l
  · exact ⟨_, _, _, fun w b v hd hv hn => pick_yes hd hv hn hr (by omega), fun w b v hd hv hn => rpick_yes hd hv hn hr hl⟩
  · refine ⟨0, 2, s, fun w b v hd hv _ => (pick_no hv hb hr (by omega)).mono ?_, fun w b v hd hv _ => (rpick_no hd hv hb hr hl).mono ?_⟩
    · rintro e w' ⟨rfl, rfl⟩
      exact ⟨rfl, hd, Kept.refl _ _⟩
    · rintro e w' ⟨rfl, h1, h2⟩
      exact ⟨rfl, h1, h2.mono (fun x hx => by simp at hx)⟩

set_option maxRecDepth 100000 in
set_option maxHeartbeats 4000000 in
theorem step7 {w : World} {bd bm s : Nat} (hd : Dc w bd s) (hm : Rc w bm s) (hne : bd ≠ bm) (wh n f : Int) {v : Value} {l : List Nat} (hv : SeesU w v l) (hvn : l = [] ∨ ∀ k, v.ownBlock = some k → k ≠ bd ∧ k ≠ bm) (hl : l.length ≤ 2097152) (hb : ∀ j, j < l.length → l.getD j 0 < 18446744073709551616) :
    Calls Try.prog 12 #[.pointer (some ⟨bd, 0, none⟩), .pointer (some ⟨bm, 0, none⟩), .agg #[.int .i64 7, .int .i64 wh, .int .i64 n, .int .u64 f, v]] w fun e w' => e = .returned (.bool true) ∧ Both w w' bd bm := by
  have hbo : bm < w.heap.size ∧ bd < w.heap.size := ⟨hm.blk.lt, hd.blk.lt⟩
  have HB0 := Blk.new w #[.int .i64 7, .int .i64 wh, .int .i64 n, .int .u64 f, v] 33
  have K0 : Hid (Kept [] w (w.alloc (.cells #[.int .i64 7, .int .i64 wh, .int .i64 n, .int .u64 f, v] 33))) := (Kept.refl _ _).alloc _
  have hd0 := hide (hd.keep (unhide K0) (by simp))
  have hm0 := hide (hm.keep (unhide K0) (by simp))
  have hne' := hide hne
  have HBk : Hid (∀ w1, Kept [bd, bm] (w.alloc (.cells #[.int .i64 7, .int .i64 wh, .int .i64 n, .int .u64 f, v] 33)) w1 → w1.cell? ⟨w.heap.size, 4, none⟩ = some v) := fun w1 hk => by
    have h := HB0.kept hk (by simp; omega)
    rw [h.cell]; rfl
  have HU : Hid (∀ w1, Kept [bd, bm] w w1 → SeesU w1 v l) := fun w1 hk => hv.kept hk (by rcases hvn with h | h; exact Or.inl h; exact Or.inr (fun k e => by have := h k e; simp; exact this))
  obtain ⟨K, E, t, hP1, hP2⟩ := picks_same l s hb hl
  have HP1 := hide hP1
  have HP2 := hide hP2
  have HFL := fun w1 (h : SeesU w1 v l) => hide (floats_any h hl)
  have HKP := fun w1 base g c (h1 : FRow w1 base g c l) (h2 : SeesU w1 v l) => hide (kept_any h1 h2 hl)
  have hle := hide hl
  obtain ⟨vp, vc, rfl, -, -, -⟩ := hv
  generalize hLL : l.length = LL at *
  have HLL := hide hLL
  clear hd hm hne HB0 hvn hb hP1 hP2 hLL
  go_enter Try.func12, Try.ntmps12
  have HFL2 := HFL
  go_wp2_with (first
    | (go_at_call 39; refine (unhide (HFL _ (unhide HU _ ((unhide K0).mono (fun x hx => by simp at hx))))).mono ?_; rintro e w1 ⟨g1, c1, rfl, hfr, hk⟩; clear HFL; have hd1 := hide ((unhide hd0).keep hk (by simp)); have hm1 := hide ((unhide hm0).keep hk (by simp)); have nm : Hid (g1 ≠ bm) := (Nat.ne_of_gt (Nat.lt_of_lt_of_le (unhide hm0).blk.lt hfr.lt.1)); have KA := hide hk; replace hfr := hide hfr; clear hk hd0 hm0)
    | (go_at_call 38; refine (unhide HP2 _ _ _ (unhide hm1) (by have h := (unhide hfr).sees; rw [unhide HLL] at h; exact h) (by intro z e; cases e; exact unhide nm)).mono ?_; rintro e w2 ⟨rfl, hm2, hk⟩; clear HP2; have hd2 := hide ((unhide hd1).keep hk (by have := unhide hne'; simpa using this)); replace hm2 := hide hm2; have KB : Hid (Kept [bm] _ w2) := hide (((unhide KA).mono (G := [bm]) (fun x hx => by simp at hx)).trans hk (fun x hx => Or.inl hx)); have KB2 : Hid (Kept [bd, bm] _ w2) := hide ((unhide KB).mono (G := [bd, bm]) (fun x hx => by simp at hx; subst hx; left; simp)); have cV := unhide HBk _ (unhide KB2); clear hk hd1 hm1 KA hfr nm)
    | (go_at_call 39; refine (unhide (HFL2 _ (unhide HU _ ((unhide K0).two (unhide KB2))))).mono ?_; rintro e w3 ⟨g3, c3, rfl, hfr3, hk⟩; clear HFL2; have hd3 := hide ((unhide hd2).keep hk (by simp)); have hm3 := hide ((unhide hm2).keep hk (by simp)); have nd : Hid (g3 ≠ bd) := (Nat.ne_of_gt (Nat.lt_of_lt_of_le (unhide hd2).blk.lt hfr3.lt.1)); have KC : Hid (Kept [bm] _ w3) := hide ((unhide KB).trans hk (fun x hx => by simp at hx)); replace hfr3 := hide hfr3; clear hk hd2 hm2 KB KB2)
    | (go_at_call 13; refine (unhide HP1 _ _ _ (unhide hd3) (by have h := (unhide hfr3).sees; rw [unhide HLL] at h; exact h) (by intro z e; cases e; exact unhide nd)).mono ?_; rintro e w4 ⟨rfl, hd4, hk⟩; clear HP1; have hfr4 := hide ((unhide hfr3).keep hk (by have := unhide nd; simpa using this)); have KD : Hid (Kept [bd, bm] _ w4) := hide (((unhide KC).mono (G := [bd, bm]) (fun x hx => by simp at hx; subst hx; left; simp)).trans hk (fun x hx => by simp at hx; subst hx; left; simp)); have cV4 := unhide HBk _ (unhide KD); have hbth : Hid (Both w w4 bd bm) := hide (both_of (unhide K0) (unhide KC) hk hd4 (unhide hm3) (unhide hne')); clear hk hd3 hm3 hfr3 KC cV)
    | (go_at_call 40; refine (unhide (HKP _ _ _ _ (unhide hfr4) (unhide HU _ ((unhide K0).two (unhide KD))))).mono ?_; rintro e w5 ⟨rfl, hk⟩; have hfin : Hid (Both w w5 bd bm) := (by obtain ⟨⟨u, q1, q2⟩, q3⟩ := unhide hbth; exact ⟨⟨u, q1.keep hk (by simp), q2.keep hk (by simp)⟩, q3.trans hk (fun x hx => by simp at hx)⟩); clear HKP hk))
  go_ret
  exact ⟨rfl, unhide hfin⟩
end Go.Proofs.Ytoibkgjnnneagaa
