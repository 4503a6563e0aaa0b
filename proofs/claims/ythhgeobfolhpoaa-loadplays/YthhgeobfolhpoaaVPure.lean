/- A meter in plain words. -/
import Derived.Test.YthhgeobfolhpoaaVNum
namespace Go.Proofs.Ythhgeobfolhpoaa

structure Mt where
  half : Nat
  clock : Nat
  loads : List Nat
  wins : List Nat
structure Mt.ok (m : Mt) : Prop where
  h1 : 1 ≤ m.half
  h2 : m.half ≤ 1048576
  c : m.clock ≤ 1099511627776
  l1 : 1 ≤ m.loads.length
  l2 : m.loads.length ≤ 64
  lo : ∀ j, low (m.loads.getD j 0)
  wl : m.wins.length = 8
  wi : ∀ j, low (m.wins.getD j 0)

/-- a meter that New makes -/
def Mt.new (n h : Nat) : Mt := ⟨h, 0, List.replicate n 0, List.replicate 8 0⟩
/-- all older by k half lives -/
def Mt.grow (m : Mt) (k : Nat) : Mt := { m with loads := m.loads.map (hlfN · k), wins := m.wins.drop (min k 8) ++ List.replicate (min k 8) 0 }
/-- how many half lives there are to a time -/
def Mt.age (m : Mt) (t : Nat) : Nat := t / m.half - m.clock / m.half
def Mt.go (m : Mt) (t : Nat) : Mt := { m.grow (m.age t) with clock := t }
def Mt.hit (m : Mt) (s t w : Nat) : Mt := { m.go t with loads := (m.go t).loads.set s (addF ((m.go t).loads.getD s 0) w), wins := (m.go t).wins.set 7 (addF ((m.go t).wins.getD 7 0) w) }
/-- the errors -/
def Mt.goE (m : Mt) (now : Int) : Nat := if now < 0 ∨ 1099511627776 < now then 2 else if now < (m.clock : Int) then 90 else 0
def Mt.hitE (m : Mt) (s now : Int) (w : Nat) : Nat := if s < 0 ∨ (m.loads.length : Int) ≤ s ∨ ¬ wok w then 2 else m.goE now
/-- what a call leaves -/
def Mt.onGo (m : Mt) (now : Int) : Mt := if m.goE now = 0 then m.go now.toNat else m
def Mt.onHit (m : Mt) (s now : Int) (w : Nat) : Mt := if m.hitE s now w = 0 then m.hit s.toNat now.toNat w else m

theorem low_zero : low 0 := Nat.zero_le _
theorem getD_map (l : List Nat) (f : Nat → Nat) (h : f 0 = 0) (j : Nat) : (l.map f).getD j 0 = f (l.getD j 0) := by
  simp only [List.getD, List.getElem?_map]
  cases l[j]? with
  | none => exact h.symm
  | some x => rfl
theorem getD_rep (n j : Nat) : (List.replicate n 0).getD j 0 = 0 := by
  simp only [List.getD, List.getElem?_replicate]
  split <;> rfl
theorem getD_set (l : List Nat) (i x j : Nat) (h : i < l.length) : (l.set i x).getD j 0 = if i = j then x else l.getD j 0 := by
  simp only [List.getD, List.getElem?_set]
  by_cases e : i = j
  · simp [e]; rw [if_pos (by omega)]; rfl
  · simp [e]
theorem getD_app (l r : List Nat) (j : Nat) : (l ++ r).getD j 0 = if j < l.length then l.getD j 0 else r.getD (j - l.length) 0 := by
  simp only [List.getD, List.getElem?_append]
  split <;> rfl
theorem getD_drop (l : List Nat) (k j : Nat) : (l.drop k).getD j 0 = l.getD (k + j) 0 := by simp [List.getD]
theorem wins_grow (l : List Nat) (hl : l.length = 8) (k j : Nat) : (l.drop (min k 8) ++ List.replicate (min k 8) 0).getD j 0 = if k + j < 8 then l.getD (k + j) 0 else 0 := by
  rw [getD_app, getD_drop, getD_rep, List.length_drop, hl]
  by_cases h : k + j < 8
  · rw [if_pos (by omega), if_pos h, show min k 8 = k by omega]
  · rw [if_neg (by omega), if_neg h]
theorem Mt.new_ok {n h : Nat} (h1 : 1 ≤ n) (h2 : n ≤ 64) (h3 : 1 ≤ h) (h4 : h ≤ 1048576) : (Mt.new n h).ok :=
  ⟨h3, h4, by simp [Mt.new], by simp [Mt.new]; exact h1, by simp [Mt.new]; exact h2, fun j => by simp only [Mt.new]; rw [getD_rep]; exact low_zero, by simp [Mt.new], fun j => by simp only [Mt.new]; rw [getD_rep]; exact low_zero⟩
theorem Mt.grow_ok {m : Mt} (h : m.ok) (k : Nat) : (m.grow k).ok := by
  refine ⟨h.h1, h.h2, h.c, by simp only [Mt.grow, List.length_map]; exact h.l1, by simp only [Mt.grow, List.length_map]; exact h.l2, fun j => ?_, ?_, fun j => ?_⟩
  · simp only [Mt.grow]; rw [getD_map _ _ (hlfN_zero k)]; exact hlfN_low k (h.lo j)
  · simp only [Mt.grow, List.length_append, List.length_drop, List.length_replicate]; have := h.wl; omega
  · simp only [Mt.grow]; rw [wins_grow _ h.wl]; split
    · exact h.wi _
    · exact low_zero
theorem Mt.go_ok {m : Mt} (h : m.ok) {t : Nat} (ht : t ≤ 1099511627776) : (m.go t).ok := by
  have g := Mt.grow_ok h (m.age t)
  exact ⟨g.h1, g.h2, ht, g.l1, g.l2, g.lo, g.wl, g.wi⟩
theorem Mt.go_len (m : Mt) (t : Nat) : (m.go t).loads.length = m.loads.length := by simp [Mt.go, Mt.grow]
theorem Mt.hit_ok {m : Mt} (h : m.ok) {s t w : Nat} (ht : t ≤ 1099511627776) (hs : s < m.loads.length) (hw : wok w) : (m.hit s t w).ok := by
  have g := Mt.go_ok h ht
  have hl := Mt.go_len m t
  refine ⟨g.h1, g.h2, ht, by simp only [Mt.hit, List.length_set]; exact g.l1, by simp only [Mt.hit, List.length_set]; exact g.l2, fun j => ?_, by simp only [Mt.hit, List.length_set]; exact g.wl, fun j => ?_⟩
  · simp only [Mt.hit]; rw [getD_set _ _ _ _ (by omega)]; split
    · exact add_low (g.lo _) hw
    · exact g.lo _
  · simp only [Mt.hit]; rw [getD_set _ _ _ _ (by rw [g.wl]; omega)]; split
    · exact add_low (g.wi _) hw
    · exact g.wi _
theorem Mt.goE_ok {m : Mt} {now : Int} (h : m.goE now = 0) : 0 ≤ now ∧ now ≤ 1099511627776 ∧ (m.clock : Int) ≤ now := by
  unfold Mt.goE at h
  split at h
  · omega
  · split at h
    · omega
    · omega
theorem Mt.hitE_ok {m : Mt} {s now : Int} {w : Nat} (h : m.hitE s now w = 0) : 0 ≤ s ∧ s < (m.loads.length : Int) ∧ wok w ∧ m.goE now = 0 := by
  unfold Mt.hitE at h
  split at h
  · omega
  · next h1 => exact ⟨by omega, by omega, Decidable.not_not.1 fun h2 => h1 (Or.inr (Or.inr h2)), h⟩
theorem Mt.onGo_ok {m : Mt} (h : m.ok) (now : Int) : (m.onGo now).ok := by
  unfold Mt.onGo
  split
  · next h1 => have := Mt.goE_ok h1; exact Mt.go_ok h (by omega)
  · exact h
theorem Mt.onHit_ok {m : Mt} (h : m.ok) (s now : Int) (w : Nat) : (m.onHit s now w).ok := by
  unfold Mt.onHit
  split
  · next h1 =>
    obtain ⟨h2, h3, h4, h5⟩ := Mt.hitE_ok h1
    have := Mt.goE_ok h5
    exact Mt.hit_ok h (by omega) (by omega) h4
  · exact h

/-- a step of a script -/
structure OpM where
  kind : Int
  who : Int
  shard : Int
  now : Int
  wt : Nat
/-- does it answer OK -/
def OpM.yes (o : OpM) (m : Mt) : Bool := if o.kind = 1 then m.hitE o.shard o.now o.wt == 0 else decide (o.kind = 2) && m.goE o.now == 0
def OpM.on (o : OpM) (m : Mt) : Mt := if o.kind = 1 then m.onHit o.shard o.now o.wt else if o.kind = 2 then m.onGo o.now else m
def runO (m : Mt) : List OpM → Mt
  | [] => m
  | o :: r => runO (o.on m) r
theorem OpM.on_ok {m : Mt} (h : m.ok) (o : OpM) : (o.on m).ok := by
  unfold OpM.on
  split
  · exact Mt.onHit_ok h _ _ _
  · split
    · exact Mt.onGo_ok h _
    · exact h
theorem runO_ok {m : Mt} (h : m.ok) (l : List OpM) : (runO m l).ok := by
  induction l generalizing m with
  | nil => exact h
  | cons o r ih => exact ih (OpM.on_ok h o)
theorem runO_app (m : Mt) (a b : List OpM) : runO m (a ++ b) = runO (runO m a) b := by
  induction a generalizing m with
  | nil => rfl
  | cons o r ih => exact ih (o.on m)
theorem OpM.yes_clock {o : OpM} {m : Mt} (h : o.yes m = true) : ((o.on m).clock : Int) = o.now := by
  unfold OpM.yes at h; unfold OpM.on
  by_cases h1 : o.kind = 1
  · rw [if_pos h1] at h ⊢
    have h2 : m.hitE o.shard o.now o.wt = 0 := by simpa using h
    have := Mt.goE_ok (Mt.hitE_ok h2).2.2.2
    unfold Mt.onHit; rw [if_pos h2]; show ((o.now.toNat : Nat) : Int) = _; omega
  · rw [if_neg h1] at h ⊢
    have h3 : o.kind = 2 ∧ m.goE o.now = 0 := by simpa using h
    rw [if_pos h3.1]
    have := Mt.goE_ok h3.2
    unfold Mt.onGo; rw [if_pos h3.2]; show ((o.now.toNat : Nat) : Int) = _; omega
theorem OpM.no_same {o : OpM} {m : Mt} (h : o.yes m = false) : o.on m = m := by
  unfold OpM.yes at h; unfold OpM.on
  by_cases h1 : o.kind = 1
  · rw [if_pos h1] at h ⊢
    have h2 : ¬ m.hitE o.shard o.now o.wt = 0 := by simpa using h
    unfold Mt.onHit; rw [if_neg h2]
  · rw [if_neg h1] at h ⊢
    by_cases h2 : o.kind = 2
    · rw [if_pos h2]
      have h3 : ¬ m.goE o.now = 0 := by simpa [h2] using h
      unfold Mt.onGo; rw [if_neg h3]
    · rw [if_neg h2]
end Go.Proofs.Ythhgeobfolhpoaa
