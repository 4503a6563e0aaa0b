/- Shards are apart, in plain words. -/
import Derived.Test.YthhgeobfolhpoaaVKnown
namespace Go.Proofs.Ythhgeobfolhpoaa

/-- two meters with one clock that have the same load of the shard s -/
structure Rel (s : Int) (m n : Mt) : Prop where
  half : m.half = n.half
  clock : m.clock = n.clock
  len : m.loads.length = n.loads.length
  same : ∀ k : Nat, (k : Int) = s → m.loads.getD k 0 = n.loads.getD k 0
theorem Rel.refl (s : Int) (m : Mt) : Rel s m m := ⟨rfl, rfl, rfl, fun _ _ => rfl⟩
theorem Rel.go {s : Int} {m n : Mt} (h : Rel s m n) (t : Nat) : Rel s (m.go t) (n.go t) := by
  refine ⟨h.half, rfl, by rw [Mt.go_len, Mt.go_len]; exact h.len, fun k hk => ?_⟩
  have ha : m.age t = n.age t := by unfold Mt.age; rw [h.half, h.clock]
  simp only [Mt.go, Mt.grow, ha]
  rw [getD_map _ (hlfN · (n.age t)) (hlfN_zero _), getD_map _ (hlfN · (n.age t)) (hlfN_zero _), h.same k hk]
theorem Rel.goE {s : Int} {m n : Mt} (h : Rel s m n) (now : Int) : m.goE now = n.goE now := by unfold Mt.goE; rw [h.clock]
theorem Rel.hitE {s : Int} {m n : Mt} (h : Rel s m n) (sh now : Int) (x : Nat) : m.hitE sh now x = n.hitE sh now x := by unfold Mt.hitE; rw [h.len, h.goE]
theorem Rel.onGo {s : Int} {m n : Mt} (h : Rel s m n) (now : Int) : Rel s (m.onGo now) (n.onGo now) := by
  unfold Mt.onGo
  rw [h.goE]
  split
  · exact h.go _
  · exact h
theorem Rel.onHit {s : Int} {m n : Mt} (h : Rel s m n) (now : Int) (x : Nat) : Rel s (m.onHit s now x) (n.onHit s now x) := by
  unfold Mt.onHit
  rw [h.hitE]
  split
  · next h1 =>
    obtain ⟨h2, h3, h4, h5⟩ := Mt.hitE_ok h1
    have hg := h.go now.toNat
    refine ⟨hg.half, hg.clock, by simp only [Mt.hit, List.length_set]; exact hg.len, fun k hk => ?_⟩
    simp only [Mt.hit]
    have hl := Mt.go_len n now.toNat
    rw [getD_set _ _ _ _ (by rw [hg.len]; omega), getD_set _ _ _ _ (by omega), if_pos (by omega), if_pos (by omega), hg.same _ (by omega)]
  · exact h
/-- what the second meter is told -/
def side (s : Int) (L : Nat) (o : OpM) (n : Mt) : Mt := if o.kind = 1 ∧ o.shard ≠ s then (if o.shard < 0 ∨ (L : Int) ≤ o.shard ∨ ¬ wok o.wt then n else n.onGo o.now) else o.on n
theorem Rel.side {s : Int} {m n : Mt} (h : Rel s m n) (o : OpM) : Rel s (o.on m) (side s n.loads.length o n) := by
  unfold Proofs.Ythhgeobfolhpoaa.side OpM.on
  by_cases h1 : o.kind = 1
  · by_cases h2 : o.shard = s
    · rw [if_pos h1, if_neg (fun e => e.2 h2), if_pos h1, h2]
      exact h.onHit _ _
    · rw [if_pos h1, if_pos ⟨h1, h2⟩]
      by_cases h3 : o.shard < 0 ∨ (n.loads.length : Int) ≤ o.shard ∨ ¬ wok o.wt
      · rw [if_pos h3]
        unfold Mt.onHit
        have : m.hitE o.shard o.now o.wt = 2 := by unfold Mt.hitE; rw [h.len, if_pos h3]
        rw [if_neg (by omega)]
        exact h
      · rw [if_neg h3]
        have he : m.hitE o.shard o.now o.wt = m.goE o.now := by unfold Mt.hitE; rw [h.len, if_neg h3]
        unfold Mt.onHit Mt.onGo
        rw [he, h.goE]
        split
        · next h4 =>
          have hg := h.go o.now.toNat
          refine ⟨hg.half, hg.clock, by simp only [Mt.hit, List.length_set]; exact hg.len, fun k hk => ?_⟩
          simp only [Mt.hit]
          have hl := Mt.go_len m o.now.toNat
          rw [getD_set _ _ _ _ (by rw [hl, h.len]; omega), if_neg (by omega), hg.same _ hk]
        · exact h
  · by_cases h2 : o.kind = 2
    · simp [h2]; exact h.onGo _
    · simp only [h1, h2, if_false, false_and]; exact h
def sideN (s : Int) (m0 : Mt) : List OpM → Mt
  | [] => m0
  | o :: r => sideN s (side s m0.loads.length o m0) r
theorem side_len (s : Int) (L : Nat) (o : OpM) (n : Mt) : (side s L o n).loads.length = n.loads.length := by
  have hg : ∀ t, (n.onGo t).loads.length = n.loads.length := fun t => by unfold Mt.onGo; split; exact Mt.go_len _ _; rfl
  unfold Proofs.Ythhgeobfolhpoaa.side
  split
  · split
    · rfl
    · exact hg _
  · unfold OpM.on
    split
    · unfold Mt.onHit; split
      · simp only [Mt.hit, List.length_set]; exact Mt.go_len _ _
      · rfl
    · split
      · exact hg _
      · rfl
theorem side_ok {n : Mt} (h : n.ok) (s : Int) (L : Nat) (o : OpM) : (side s L o n).ok := by
  unfold Proofs.Ythhgeobfolhpoaa.side
  split
  · split
    · exact h
    · exact Mt.onGo_ok h _
  · exact OpM.on_ok h o
theorem Rel.of {s : Int} {m n : Mt} (h : Rel s m n) : m.of s = n.of s := by
  unfold Mt.of
  rw [h.len]
  split
  · rfl
  · exact h.same _ (by omega)
theorem gt_wok {b : Nat} (h : wok b) : (FloatKind.f64.format.order b 4787326403894837248 == some Ordering.gt) = false := by
  have := (ge_wok h).2
  cases hc : FloatKind.f64.format.order b 4787326403894837248 with
  | none => rfl
  | some x => rw [hc] at this; cases x <;> simp_all
end Go.Proofs.Ythhgeobfolhpoaa
