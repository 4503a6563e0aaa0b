/- Whole half lives; place. -/
import Derived.Test.YthhgeobfolhpoaaVEq
import Derived.Test.YthhgeobfolhpoaaVSpr
namespace Go.Proofs.Ythhgeobfolhpoaa
open Go.RowKit

theorem age_whole {m : Mt} (h : m.ok) (k : Nat) : m.age (m.clock + m.half * k) = k := by
  unfold Mt.age
  rw [Nat.add_mul_div_left _ _ h.h1]; omega
theorem go_of {m : Mt} {t : Nat} (k : Nat) (h : m.age t = k) : (m.go t).loads = m.loads.map (hlfN · k) ∧ (m.go t).wins = m.wins.drop (min k 8) ++ List.replicate (min k 8) 0 ∧ (m.go t).half = m.half ∧ (m.go t).clock = t := by
  unfold Mt.go; rw [h]; exact ⟨rfl, rfl, rfl, rfl⟩
/-- in two goes, or in one -/
theorem two_goes {m : Mt} (h : m.ok) (a b : Nat) : (m.go (m.clock + m.half * a)).go (m.clock + m.half * (a + b)) = m.go (m.clock + m.half * (a + b)) := by
  obtain ⟨l1, w1, f1, c1⟩ := go_of (m := m) a (age_whole h a)
  obtain ⟨l2, w2, f2, c2⟩ := go_of (m := m) (a + b) (age_whole h (a + b))
  have ha : (m.go (m.clock + m.half * a)).age (m.clock + m.half * (a + b)) = b := by
    unfold Mt.age
    rw [f1, c1, Nat.add_mul_div_left _ _ h.h1, Nat.add_mul_div_left _ _ h.h1]; omega
  obtain ⟨l3, w3, f3, c3⟩ := go_of (m := m.go (m.clock + m.half * a)) b ha
  have el : ((m.go (m.clock + m.half * a)).go (m.clock + m.half * (a + b))).loads = (m.go (m.clock + m.half * (a + b))).loads := by
    rw [l3, l1, l2, List.map_map]
    refine List.map_congr_left fun x _ => ?_
    exact hlfN_add x a b
  have ew : ((m.go (m.clock + m.half * a)).go (m.clock + m.half * (a + b))).wins = (m.go (m.clock + m.half * (a + b))).wins := by
    rw [w3, w1, w2]
    have hl := h.wl
    apply List.ext_getElem?
    intro j
    have hg : ∀ (l r : List Nat), l.length = r.length → (∀ i, l.getD i 0 = r.getD i 0) → l[j]? = r[j]? := by
      intro l r hlr hv
      by_cases hj : j < l.length
      · have := hv j
        rw [List.getD, List.getD, List.getElem?_eq_getElem hj, List.getElem?_eq_getElem (by omega)] at this
        rw [List.getElem?_eq_getElem hj, List.getElem?_eq_getElem (by omega)]
        simpa using this
      · rw [List.getElem?_eq_none (by omega), List.getElem?_eq_none (by omega)]
    refine hg _ _ (by simp; omega) fun i => ?_
    rw [wins_grow _ (by simp; omega), wins_grow _ hl, wins_grow _ hl]
    by_cases c : a + b + i < 8
    · rw [if_pos (by omega), if_pos (by omega), if_pos c, show a + (b + i) = a + b + i by omega]
    · rw [if_neg c]
      by_cases c2 : b + i < 8
      · rw [if_pos c2, if_neg (by omega)]
      · rw [if_neg c2]
  have e : ∀ x y : Mt, x.half = y.half → x.clock = y.clock → x.loads = y.loads → x.wins = y.wins → x = y := by
    rintro ⟨⟩ ⟨⟩ h1 h2 h3 h4; simp_all
  exact e _ _ (by rw [f3, f1, f2]) (by rw [c3, c2]) el ew
set_option maxRecDepth 100000 in
theorem place_any (w : World) (x : Int) (n : Nat) (hn : 0 < n) (hn2 : n ≤ 4000) : Calls Try.prog 12 #[.int .i64 x, .int .i64 (n : Int)] w fun e w' => (∃ q : Nat, q < n ∧ e = .returned (.int .i64 (q : Int))) ∧ w' = w := by
  have hb : Int.tmod x (n : Int) < (n : Int) ∧ -(n : Int) < Int.tmod x (n : Int) := ⟨Int.tmod_lt_of_pos x (by omega), Int.lt_tmod_of_pos x (by omega)⟩
  have t0 : ((n : Int) = 0) = False := by simp; omega
  by_cases hk : Int.tmod x (n : Int) < 0
  · have hw : IntKind.i64.wrap (Int.tmod x (n : Int)) = Int.tmod x (n : Int) := by rw [IntKind.wrap_i64]; omega
    have hw2 : IntKind.i64.wrap (Int.tmod x (n : Int) + (n : Int)) = Int.tmod x (n : Int) + (n : Int) := by rw [IntKind.wrap_i64]; omega
    generalize hr : Int.tmod x (n : Int) = r at *
    have t1 : (r < 0) = True := by simp; exact hk
    go_enter Try.func12, Try.ntmps12
    go_wp2
    go_ret
    exact ⟨⟨(r + (n : Int)).toNat, by omega, by rw [show (((r + (n : Int)).toNat : Nat) : Int) = r + (n : Int) by omega]; rfl⟩, rfl⟩
  · have hw : IntKind.i64.wrap (Int.tmod x (n : Int)) = Int.tmod x (n : Int) := by rw [IntKind.wrap_i64]; omega
    generalize hr : Int.tmod x (n : Int) = r at *
    have t1 : (r < 0) = False := by simp; omega
    go_enter Try.func12, Try.ntmps12
    go_wp2
    go_ret
    exact ⟨⟨r.toNat, by omega, by rw [show ((r.toNat : Nat) : Int) = r by omega]; rfl⟩, rfl⟩
end Go.Proofs.Ythhgeobfolhpoaa
