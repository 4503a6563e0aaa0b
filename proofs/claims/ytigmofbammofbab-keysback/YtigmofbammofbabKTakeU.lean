/- The parts of a tuple; the value at the beginning. -/
import Derived.Test.YtigmofbammofbabKTakeT
import Derived.Laws.ResultCell
namespace Go.Proofs.Ytigmofbammofbab
open Go.RowKit

def New (B : Nat) : Nat → Prop := fun x => B ≤ x
/-- the answer of takeRow -/
def OutR (bo : Option Nat) (o : Except Nat (Row × List Nat)) (B : Nat) (w : World) (e : Ending) : Prop :=
  match o with
  | .error n => e = .returned (.tuple #[.slice none 0 0, .slice none 0 0, .int .i64 (n : Int)])
  | .ok (r, rest) => ∃ va vn vc ra m rc, e = .returned (.tuple #[.slice va vn vc, .slice ra m rc, .int .i64 0]) ∧ r.len = vn ∧ RowV (New B) w (.slice va vn vc) r ∧ rest.length = m ∧ Sees w (.slice ra m rc) rest ∧ (Value.slice ra m rc).ownBlock = bo

set_option maxRecDepth 100000 in
set_option maxHeartbeats 400000 in
theorem takeTuple_any {w : World} {v : Value} {bs : List Nat} {d : Nat} {rec : Except Nat (Row × List Nat)} (hs : Sees w v bs) (hd : d ≤ 16) (hC : d ≠ 16 → Calls Try.prog 30 #[v, .int .i64 ((d + 1 : Nat) : Int)] w fun e w' => OutR v.ownBlock rec w.heap.size w' e ∧ Kept [] w w') (hE : ∀ n, rec = .error n → n = 40 ∨ n = 41) :
    Calls Try.prog 49 #[v, .int .i64 (d : Int)] w fun e w' => OutR v.ownBlock (takeU rec d) w.heap.size w' e ∧ Kept [] w w' := by
  obtain ⟨a, cap, rfl, h1, h2, h3, h4⟩ := hs
  generalize bs.length = L at *
  clear h3 h4
  unfold takeU
  by_cases hd16 : d = 16
  · subst hd16
    rw [if_pos rfl]
    go_enter Try.func49, Try.ntmps49
    go_wp2
    go_ret3
    exact ⟨rfl, Kept.refl _ _⟩
  · rw [if_neg hd16]
    have HC := hide (hC hd16)
    clear hC
    have t1 : ((d : Int) == 16) = false := by simp; omega
    have e1 : ((d + 1 : Nat) : Int) = (d : Int) + 1 := by omega
    rw [e1] at HC
    clear e1
    cases rec with
    | error n =>
      have hn := hE n rfl
      have t2 : ((n : Int) != 0) = true := by simp; omega
      clear hE
      simp only
      go_enter Try.func49, Try.ntmps49
      go_wp2_with (first | (go_at_call 30; refine (unhide HC).mono ?_; rintro e w1 ⟨rfl, hk1⟩; have HK1 := hide hk1; clear hk1))
      go_ret3
      exact ⟨rfl, unhide HK1⟩
    | ok rr =>
      obtain ⟨r, rest⟩ := rr
      clear hE
      simp only
      cases rest with
      | nil =>
        simp only
        go_enter Try.func49, Try.ntmps49
        go_wp2_with (first | (go_at_call 30; refine (unhide HC).mono ?_; rintro e w1 ⟨⟨va, vn, vc, ra, m, rc, rfl, hl1, hr1, hm1, hs1⟩, hk1⟩; have HK1 := hide hk1; have hm2 : m = 0 := hm1.symm; subst hm2; clear hk1 hl1 hr1 hs1 hm1))
        go_ret3
        exact ⟨rfl, unhide HK1⟩
      | cons x rest =>
        simp only
        go_enter Try.func49, Try.ntmps49
        go_wp2_with (first | (go_at_call 30; refine (unhide HC).mono ?_; rintro e w1 ⟨⟨va, vn, vc, ra, m, rc, rfl, hl1, hr1, hm1, hs1, hb1⟩, hk1⟩; obtain ⟨m', rfl⟩ : ∃ m', m = m' + 1 := ⟨rest.length, by rw [← hm1]; rfl⟩; have hrc : ∃ b off, ra = some ⟨b, off, none⟩ ∧ m' + 1 ≤ rc ∧ rc ≤ 9223372036854775807 := (by obtain ⟨a', c', hv, q1, q2, q3, q4⟩ := hs1; cases hv; rcases q4 with q4 | ⟨b, off, rfl, _⟩; (cases q4); unfold maxLen at q2; exact ⟨b, off, rfl, by simpa [hm1] using q1, by omega⟩); obtain ⟨b, off, rfl, hrc1, hrc2⟩ := hrc; have HK1 := hide hk1; have HS1 := hide (⟨hl1, hr1, hm1, hs1, hb1⟩ : _ ∧ _ ∧ _ ∧ _ ∧ _); clear hk1 hl1 hr1 hs1 hm1 hb1))
        go_region
        go_wp2
        all_goals go_ret3
        all_goals exact ⟨⟨va, vn, vc, _, m', _, rfl, (unhide HS1).1, (unhide HS1).2.1.kept (Kept.refl [] w1).drew (by simp), Nat.succ.inj (unhide HS1).2.2.1, ((unhide HS1).2.2.2.1.drop' 1 m' rfl _ _ (by first | rw [if_neg (by omega)] | rw [if_pos (by omega)] | simp [*]) (by omega)).kept (F := []) (Kept.refl [] w1).drew (Or.inr (by simp)), (unhide HS1).2.2.2.2⟩, (unhide HK1).drew⟩

/-- the answer of takeValue -/
def OutV (bo : Option Nat) (o : Except Nat (Hd × Row × List Nat)) (B : Nat) (w : World) (e : Ending) : Prop :=
  match o with
  | .error n => ∃ h ra m rc, e = .returned (.tuple #[aggV h (.slice none 0 0) (.slice none 0 0), .slice ra m rc, .int .i64 (n : Int)])
  | .ok (h, p, rest) => ∃ ta tn tc pa pn pc ra m rc, e = .returned (.tuple #[aggV h (.slice ta tn tc) (.slice pa pn pc), .slice ra m rc, .int .i64 0]) ∧ h.ok ∧ SeesIn (New B) w (.slice ta tn tc) h.text ∧ p.len = pn ∧ RowV (New B) w (.slice pa pn pc) p ∧ rest.length = m ∧ Sees w (.slice ra m rc) rest ∧ (Value.slice ra m rc).ownBlock = bo

theorem blk7f {w : World} {b : Nat} {x0 x1 x2 x3 x4 x5 x6 : Value} {t : TypeId} (h : Blk w b #[x0, x1, x2, x3, x4, x5, x6] t) : ∀ k, w.frozen? ⟨b, k, none⟩ = false := h.frozen

/-- seven cells stored -/
def Fin1 (w1 : World) (N : Nat) (x0 x1 x2 x3 x4 x5 x6 : Value) : World :=
  ((((((w1.setCell ⟨N, 0, none⟩ x0).setCell ⟨N, 1, none⟩ x1).setCell ⟨N, 2, none⟩ x2).setCell ⟨N, 3, none⟩ x3).setCell ⟨N, 4, none⟩ x4).setCell ⟨N, 5, none⟩ x5).setCell ⟨N, 6, none⟩ x6
theorem fin1_kept (w1 : World) (N : Nat) (x0 x1 x2 x3 x4 x5 x6 : Value) : Kept [N] w1 (Fin1 w1 N x0 x1 x2 x3 x4 x5 x6) := by
  unfold Fin1
  exact (((((((Kept.refl [N] w1).setCell (p := ⟨N, 0, none⟩) (Or.inl (by simp)) x0).setCell (p := ⟨N, 1, none⟩) (Or.inl (by simp)) x1).setCell (p := ⟨N, 2, none⟩) (Or.inl (by simp)) x2).setCell (p := ⟨N, 3, none⟩) (Or.inl (by simp)) x3).setCell (p := ⟨N, 4, none⟩) (Or.inl (by simp)) x4).setCell (p := ⟨N, 5, none⟩) (Or.inl (by simp)) x5).setCell (p := ⟨N, 6, none⟩) (Or.inl (by simp)) x6
theorem fin1_blk {u : World} {N : Nat} {x0 x1 x2 x3 x4 x5 x6 y0 y1 y2 y3 y4 y5 y6 : Value} {t : TypeId} (g : Blk u N #[y0, y1, y2, y3, y4, y5, y6] t) : Blk (Fin1 u N x0 x1 x2 x3 x4 x5 x6) N #[x0, x1, x2, x3, x4, x5, x6] t := by
  unfold Fin1
  have g0 : Blk (u.setCell ⟨N, 0, none⟩ x0) N #[x0, y1, y2, y3, y4, y5, y6] t := g.set 0 x0
  generalize u.setCell ⟨N, 0, none⟩ x0 = u0 at *
  have g1 : Blk (u0.setCell ⟨N, 1, none⟩ x1) N #[x0, x1, y2, y3, y4, y5, y6] t := g0.set 1 x1
  generalize u0.setCell ⟨N, 1, none⟩ x1 = u1 at *
  have g2 : Blk (u1.setCell ⟨N, 2, none⟩ x2) N #[x0, x1, x2, y3, y4, y5, y6] t := g1.set 2 x2
  generalize u1.setCell ⟨N, 2, none⟩ x2 = u2 at *
  have g3 : Blk (u2.setCell ⟨N, 3, none⟩ x3) N #[x0, x1, x2, x3, y4, y5, y6] t := g2.set 3 x3
  generalize u2.setCell ⟨N, 3, none⟩ x3 = u3 at *
  have g4 : Blk (u3.setCell ⟨N, 4, none⟩ x4) N #[x0, x1, x2, x3, x4, y5, y6] t := g3.set 4 x4
  generalize u3.setCell ⟨N, 4, none⟩ x4 = u4 at *
  have g5 : Blk (u4.setCell ⟨N, 5, none⟩ x5) N #[x0, x1, x2, x3, x4, x5, y6] t := g4.set 5 x5
  generalize u4.setCell ⟨N, 5, none⟩ x5 = u5 at *
  exact g5.set 6 x6
theorem fin1_sees {w1 : World} {N b : Nat} {ra : Option Addr} {m rc : Nat} {r : List Nat} (h : Sees w1 (.slice ra m rc) r) (hb : (Value.slice ra m rc).ownBlock = some b) (hN : b < N) (x0 x1 x2 x3 x4 x5 x6 : Value) : Sees (Fin1 w1 N x0 x1 x2 x3 x4 x5 x6) (.slice ra m rc) r :=
  h.kept (fin1_kept ..) (Or.inr fun k hk => by rw [hb] at hk; cases hk; simp; omega)
theorem fin1_all {w w1 : World} (h : Kept [] w w1) (x0 x1 x2 x3 x4 x5 x6 : Value) : Kept [] w (Fin1 w1 w.heap.size x0 x1 x2 x3 x4 x5 x6) :=
  h.trans (fin1_kept ..) (fun y hy => by simp at hy; omega)
/-- the world behind the return of a value -/
def Fin (w1 : World) (N i : Nat) (x x0 x1 x2 x3 x4 x5 x6 : Value) : World :=
  (((((((w1.setCell ⟨N + 1, i, none⟩ x).setCell ⟨N, 0, none⟩ x0).setCell ⟨N, 1, none⟩ x1).setCell ⟨N, 2, none⟩ x2).setCell ⟨N, 3, none⟩ x3).setCell ⟨N, 4, none⟩ x4).setCell ⟨N, 5, none⟩ x5).setCell ⟨N, 6, none⟩ x6
theorem fin_kept (w1 : World) (N i : Nat) (x x0 x1 x2 x3 x4 x5 x6 : Value) : Kept [N, N + 1] w1 (Fin w1 N i x x0 x1 x2 x3 x4 x5 x6) := by
  unfold Fin
  exact ((((((((Kept.refl [N, N + 1] w1).setCell (p := ⟨N + 1, i, none⟩) (Or.inl (by simp)) x).setCell (p := ⟨N, 0, none⟩) (Or.inl (by simp)) x0).setCell (p := ⟨N, 1, none⟩) (Or.inl (by simp)) x1).setCell (p := ⟨N, 2, none⟩) (Or.inl (by simp)) x2).setCell (p := ⟨N, 3, none⟩) (Or.inl (by simp)) x3).setCell (p := ⟨N, 4, none⟩) (Or.inl (by simp)) x4).setCell (p := ⟨N, 5, none⟩) (Or.inl (by simp)) x5).setCell (p := ⟨N, 6, none⟩) (Or.inl (by simp)) x6
theorem fin_blk {w1 : World} {N i : Nat} {x x0 x1 x2 x3 x4 x5 x6 y0 y1 y2 y3 y4 y5 y6 : Value} {t : TypeId} (h : Blk w1 N #[y0, y1, y2, y3, y4, y5, y6] t) : Blk (Fin w1 N i x x0 x1 x2 x3 x4 x5 x6) N #[x0, x1, x2, x3, x4, x5, x6] t := by
  unfold Fin
  have g := h.other ⟨N + 1, i, none⟩ (by simp) x
  generalize w1.setCell ⟨N + 1, i, none⟩ x = u at *
  have g0 : Blk (u.setCell ⟨N, 0, none⟩ x0) N #[x0, y1, y2, y3, y4, y5, y6] t := g.set 0 x0
  generalize u.setCell ⟨N, 0, none⟩ x0 = u0 at *
  have g1 : Blk (u0.setCell ⟨N, 1, none⟩ x1) N #[x0, x1, y2, y3, y4, y5, y6] t := g0.set 1 x1
  generalize u0.setCell ⟨N, 1, none⟩ x1 = u1 at *
  have g2 : Blk (u1.setCell ⟨N, 2, none⟩ x2) N #[x0, x1, x2, y3, y4, y5, y6] t := g1.set 2 x2
  generalize u1.setCell ⟨N, 2, none⟩ x2 = u2 at *
  have g3 : Blk (u2.setCell ⟨N, 3, none⟩ x3) N #[x0, x1, x2, x3, y4, y5, y6] t := g2.set 3 x3
  generalize u2.setCell ⟨N, 3, none⟩ x3 = u3 at *
  have g4 : Blk (u3.setCell ⟨N, 4, none⟩ x4) N #[x0, x1, x2, x3, x4, y5, y6] t := g3.set 4 x4
  generalize u3.setCell ⟨N, 4, none⟩ x4 = u4 at *
  have g5 : Blk (u4.setCell ⟨N, 5, none⟩ x5) N #[x0, x1, x2, x3, x4, x5, y6] t := g4.set 5 x5
  generalize u4.setCell ⟨N, 5, none⟩ x5 = u5 at *
  exact g5.set 6 x6
theorem fin_sees {w1 : World} {N b : Nat} {ra : Option Addr} {m rc : Nat} {r : List Nat} (h : Sees w1 (.slice ra m rc) r) (hb : (Value.slice ra m rc).ownBlock = some b) (hN : b < N) (i : Nat) (x x0 x1 x2 x3 x4 x5 x6 : Value) : Sees (Fin w1 N i x x0 x1 x2 x3 x4 x5 x6) (.slice ra m rc) r :=
  h.kept (fin_kept ..) (Or.inr fun k hk => by rw [hb] at hk; cases hk; simp; omega)
theorem fin_all {w w1 : World} (h : Kept [] w w1) (i : Nat) (x x0 x1 x2 x3 x4 x5 x6 : Value) : Kept [] w (Fin w1 w.heap.size i x x0 x1 x2 x3 x4 x5 x6) :=
  h.trans (fin_kept ..) (fun y hy => by simp at hy; omega)
theorem SeesIn.of_own {w : World} {B : Nat} {v : Value} {bs : List Nat} (h : w.ownsRow B 5 1 v bs.length (u8s bs)) (hb : ∀ x ∈ bs, x < 256) : SeesIn (New B) w v bs :=
  ⟨Sees.of_own h hb, Or.inr fun k hk => (h.lt k hk).1⟩
theorem SeesIn.none (S : Nat → Prop) (w : World) : SeesIn S w (.slice none 0 0) [] := ⟨Sees.nil w, Or.inl rfl⟩
theorem fin_seesIn {w1 : World} {N : Nat} {v : Value} {bs : List Nat} (h : SeesIn (New (N + 2)) w1 v bs) (i : Nat) (x x0 x1 x2 x3 x4 x5 x6 : Value) : SeesIn (New N) (Fin w1 N i x x0 x1 x2 x3 x4 x5 x6) v bs :=
  (h.kept (fin_kept ..) (fun y hy hm => by simp at hy; unfold New at hm; omega)).mono (fun y _ hm => by unfold New at *; omega)
theorem fin_row {w1 : World} {N : Nat} {v : Value} {r : Row} (h : RowV (New (N + 2)) w1 v r) (i : Nat) (x x0 x1 x2 x3 x4 x5 x6 : Value) : RowV (New N) (Fin w1 N i x x0 x1 x2 x3 x4 x5 x6) v r :=
  (h.kept (fin_kept ..) (fun y hy hm => by simp at hy; unfold New at hm; omega)).mono (fun y _ hm => by unfold New at *; omega)
theorem hd0_ok (k : Int) (h1 : 0 ≤ k) (h2 : k ≤ 300) : (hd0 k).ok := ⟨by simp only [hd0]; omega, by simp only [hd0]; omega, by simp [hd0], by simp [hd0], by simp [hd0], by simp [hd0], by simp [hd0], by simp [hd0]⟩
theorem ok3 {m : Nat} (h : m < 18446744073709551616) : Hd.ok { hd0 3 with n := intA m } := ⟨by simp [hd0], by simp [hd0], by simp only [intA]; omega, by simp only [intA]; omega, by simp [hd0], by simp [hd0], by simp [hd0], by simp [hd0]⟩
theorem ok4 {m : Nat} (h : m < 18446744073709551616) : Hd.ok { hd0 4 with re := m } := ⟨by simp [hd0], by simp [hd0], by simp [hd0], by simp [hd0], h, by simp [hd0], by simp [hd0], by simp [hd0]⟩
theorem ok5 {m n : Nat} (h : m < 18446744073709551616) (h2 : n < 18446744073709551616) : Hd.ok { hd0 5 with pr := m, im := n } := ⟨by simp [hd0], by simp [hd0], by simp [hd0], by simp [hd0], by simp [hd0], h, h2, by simp [hd0]⟩
theorem ok6 {x : List Nat} (h : ∀ y ∈ x, y < 256) : Hd.ok { hd0 6 with text := x } := ⟨by simp [hd0], by simp [hd0], by simp [hd0], by simp [hd0], by simp [hd0], by simp [hd0], by simp [hd0], h⟩
theorem takeF_lt {bs r : List Nat} {m : Nat} (h : takeF bs = some (m, r)) (hb : ∀ x ∈ bs, x < 256) : m < 18446744073709551616 ∧ (∀ x ∈ r, x < 256) ∧ bs.length = r.length + 8 ∧ bs = be8 (placeR m) ++ r ∧ backN (placeR m) = m := by
  unfold takeF at h
  split at h
  · cases h
  · rename_i n r' hw
    obtain ⟨h1, h2, h3⟩ := takeW_lt hw hb
    split at h
    · rename_i hp
      cases h
      refine ⟨backN_lt h1, h2, h3, ?_, by rw [hp]⟩
      rw [hp]
      unfold takeW at hw
      split at hw
      · cases hw
      · rename_i hl
        cases hw
        rw [(be8_word _ (by rw [List.length_take]; omega) (fun x hx => hb x (List.mem_of_mem_take hx))).1, List.take_append_drop]
    · cases h
theorem takeP_lt {bs r : List Nat} {m : Nat × Nat} (h : takeP bs = some (m, r)) (hb : ∀ x ∈ bs, x < 256) : m.1 < 18446744073709551616 ∧ m.2 < 18446744073709551616 ∧ (∀ x ∈ r, x < 256) ∧ bs.length = r.length + 16 ∧ bs = be8 (placeR m.1) ++ be8 (placeR m.2) ++ r ∧ backN (placeR m.1) = m.1 ∧ backN (placeR m.2) = m.2 := by
  unfold takeP at h
  split at h
  · cases h
  · rename_i n r' hw
    obtain ⟨h1, h2, h3, h4, h5⟩ := takeF_lt hw hb
    split at h
    · cases h
    · rename_i n' r'' hw2
      obtain ⟨g1, g2, g3, g4, g5⟩ := takeF_lt hw2 h2
      cases h
      exact ⟨h1, g1, g2, by omega, by rw [h4, g4, List.append_assoc], h5, g5⟩
theorem takeT_lt {bs r x : List Nat} (h : takeT bs = some (x, r)) (hb : ∀ y ∈ bs, y < 256) : (∀ y ∈ x, y < 256) ∧ (∀ y ∈ r, y < 256) ∧ r.length < bs.length ∧ bs = esc x ++ [0] ++ r ∧ (r = [] ∨ ∃ y t, r = y :: t ∧ y ≠ 255) := by
  induction bs using takeT.induct generalizing x with
  | case1 => simp [takeT] at h
  | case2 t ih =>
    rw [takeT_esc] at h
    cases ht : takeT t with
    | none => rw [ht] at h; cases h
    | some y =>
      rw [ht] at h
      obtain ⟨y1, y2⟩ := y
      simp only [Option.map_some, Option.some.injEq, Prod.mk.injEq] at h
      obtain ⟨rfl, rfl⟩ := h
      obtain ⟨q1, q2, q3, q4, q5⟩ := ih ht (fun y hy => hb y (by simp [hy]))
      refine ⟨fun y hy => ?_, q2, by simp; omega, by rw [q4]; simp [esc], q5⟩
      simp at hy
      rcases hy with rfl | hy
      · omega
      · exact q1 y hy
  | case3 t hn =>
    have h' : takeT (0 :: t) = some ([], t) := by
      cases t with
      | nil => exact takeT_end0
      | cons y t => exact takeT_end y t (fun e => by subst e; exact hn t rfl)
    rw [h'] at h
    cases h
    refine ⟨by simp, fun y hy => hb y (by simp [hy]), by simp, by simp [esc], ?_⟩
    cases r with
    | nil => exact Or.inl rfl
    | cons y t => exact Or.inr ⟨y, t, rfl, fun e => by subst e; exact hn t rfl⟩
  | case4 b t h1 h2 ih =>
    have hb0 : b ≠ 0 := fun e => by subst e; exact h2 rfl
    rw [takeT_byte b t hb0] at h
    cases ht : takeT t with
    | none => rw [ht] at h; cases h
    | some y =>
      rw [ht] at h
      obtain ⟨y1, y2⟩ := y
      simp only [Option.map_some, Option.some.injEq, Prod.mk.injEq] at h
      obtain ⟨rfl, rfl⟩ := h
      obtain ⟨q1, q2, q3, q4, q5⟩ := ih ht (fun y hy => hb y (by simp [hy]))
      refine ⟨fun y hy => ?_, q2, by simp; omega, by rw [q4]; simp [esc, hb0], q5⟩
      simp at hy
      rcases hy with rfl | hy
      · exact hb y (by simp)
      · exact q1 y hy
set_option maxRecDepth 100000 in
theorem results_value {tmps : Array Value} {w : World} {N : Nat} {rv ev : Value} {x0 x1 x2 x3 x4 x5 x6 : Value} (h4 : tmps[4]?.getD undef = .pointer (some ⟨N, 0, none⟩)) (h5 : tmps[5]?.getD undef = rv) (h6 : tmps[6]?.getD undef = ev) (hb : Blk w N #[x0, x1, x2, x3, x4, x5, x6] 48) :
    (results Try.f36 tmps).run Try.prog w = .ok (.tuple #[.agg #[x0, x1, x2, x3, x4, x5, x6], rv, ev]) w := by
  obtain ⟨c0, c1, c2, c3, c4, c5, c6⟩ := blk7 hb
  simp [results, Try.results36, go_sem, h4, h5, h6, c0, c1, c2, c3, c4, c5, c6]
end Go.Proofs.Ytigmofbammofbab
