/- What the document's hits make, in plain words, and a meter beside it. -/
import Derived.Test.YthhgeobfolhpoaaVRef1
import Derived.Test.YthhgeobfolhpoaaVWaveP
namespace Go.Proofs.Ythhgeobfolhpoaa

def stp (s : Nat) (p : Nat × Nat) (h : Ht) : Nat × Nat := if h.s = s then (addF (hlfN p.1 (h.a - p.2)) h.x, h.a) else p
/-- of one shard: the load, and the age that it is of -/
def acc (s : Nat) (l : List Ht) : Nat × Nat := l.foldl (stp s) (0, 0)
def ofR (r : Rt) (s : Nat) : Nat := hlfN (acc s r.all).1 (r.now / r.half - (acc s r.all).2)
def winA (g : Int) (l : List Ht) : Nat := l.foldl (fun v h => if (h.a : Int) = g then addF v h.x else v) 0
def winR (r : Rt) (t : Nat) : Nat := winA (((r.now / r.half : Nat) : Int) - 7 + (t : Int)) r.all
theorem acc_snoc (s : Nat) (l : List Ht) (h : Ht) : acc s (l ++ [h]) = stp s (acc s l) h := by simp [acc]
theorem winA_snoc (g : Int) (l : List Ht) (h : Ht) : winA g (l ++ [h]) = if (h.a : Int) = g then addF (winA g l) h.x else winA g l := by simp [winA]
theorem foldl_inv {α β : Type} (f : β → α → β) (p : β → Prop) : ∀ (l : List α) (b : β), p b → (∀ b, ∀ x ∈ l, p b → p (f b x)) → p (l.foldl f b)
  | [], b, h, _ => h
  | x :: r, b, h, hf => foldl_inv f p r (f b x) (hf b x (by simp) h) (fun b y hy => hf b y (by simp [hy]))
theorem acc_low {s : Nat} {l : List Ht} (h : ∀ x ∈ l, wok x.x) : low (acc s l).1 := by
  refine foldl_inv (stp s) (fun p => low p.1) l (0, 0) low_zero (fun p x hx hp => ?_)
  unfold stp
  split
  · exact add_low (hlfN_low _ hp) (h x hx)
  · exact hp
theorem acc_age {s A : Nat} {l : List Ht} (h : ∀ x ∈ l, x.a ≤ A) : (acc s l).2 ≤ A := by
  refine foldl_inv (stp s) (fun p => p.2 ≤ A) l (0, 0) (Nat.zero_le _) (fun p x hx hp => ?_)
  unfold stp
  split
  · exact h x hx
  · exact hp
theorem winA_low {g : Int} {l : List Ht} (h : ∀ x ∈ l, wok x.x) : low (winA g l) := by
  refine foldl_inv _ (fun v => low v) l 0 low_zero (fun p x hx hp => ?_)
  split
  · exact add_low hp (h x hx)
  · exact hp
theorem winA_none {g : Int} {l : List Ht} (h : ∀ x ∈ l, (x.a : Int) < g) : winA g l = 0 := by
  refine foldl_inv _ (fun v => v = 0) l 0 rfl (fun p x hx hp => ?_)
  rw [if_neg (by have := h x hx; omega)]
  exact hp
theorem acc_none {s : Nat} {l : List Ht} (h : ∀ x ∈ l, x.s ≠ s) : acc s l = (0, 0) := by
  refine foldl_inv (stp s) (fun v => v = (0, 0)) l (0, 0) rfl (fun p x hx hp => ?_)
  unfold stp
  rw [if_neg (h x hx)]
  exact hp

/-- a meter and the document's, alike -/
structure Rel (m : Mt) (r : Rt) : Prop where
  ok : m.ok
  half : r.half = m.half
  now : r.now = m.clock
  n : r.n = m.loads.length
  hits : ∀ h ∈ r.all, h.s < m.loads.length ∧ h.a ≤ m.clock / m.half ∧ wok h.x
  rise : r.all.Pairwise (fun x y => x.a ≤ y.a)
  load : ∀ s, s < m.loads.length → m.loads.getD s 0 = ofR r s
  win : ∀ t, t < 8 → m.wins.getD t 0 = winR r t
theorem rel_new {n h : Nat} (h1 : 1 ≤ n) (h2 : n ≤ 64) (h3 : 1 ≤ h) (h4 : h ≤ 1048576) : Rel (Mt.new n h) ⟨n, h, 0, []⟩ := by
  refine ⟨Mt.new_ok h1 h2 h3 h4, rfl, rfl, by simp [Mt.new], by simp, by simp, fun s hs => ?_, fun t ht => ?_⟩
  · simp only [Mt.new]; rw [getD_rep]; simp [ofR, acc, hlfN_zero]
  · simp only [Mt.new]; rw [getD_rep]; simp [winR, winA]
theorem Rel.go {m : Mt} {r : Rt} (h : Rel m r) {t : Nat} (ht : t ≤ 1099511627776) (hc : m.clock ≤ t) : Rel (m.go t) { r with now := t } := by
  have hage : m.clock / m.half ≤ t / m.half := Nat.div_le_div_right hc
  have hbound : ∀ x ∈ r.all, x.a ≤ m.clock / m.half := fun x hx => (h.hits x hx).2.1
  refine ⟨Mt.go_ok h.ok ht, h.half, rfl, by rw [Mt.go_len]; exact h.n, fun x hx => ?_, h.rise, fun s hs => ?_, fun j hj => ?_⟩
  · obtain ⟨a1, a2, a3⟩ := h.hits x hx
    exact ⟨by rw [Mt.go_len]; exact a1, Nat.le_trans a2 hage, a3⟩
  · rw [Mt.go_len] at hs
    have h1 := h.load s hs
    have h2 := acc_age (s := s) hbound
    simp only [Mt.go, Mt.grow]
    rw [getD_map _ (hlfN · (m.age t)) (hlfN_zero _), h1]
    unfold ofR
    simp only [h.half, h.now]
    rw [hlfN_add]
    unfold Mt.age
    congr 1
    omega
  · simp only [Mt.go, Mt.grow]
    rw [wins_grow _ h.ok.wl]
    unfold winR Mt.age
    simp only [h.half]
    by_cases hk : t / m.half - m.clock / m.half + j < 8
    · rw [if_pos hk, h.win _ hk]
      unfold winR
      simp only [h.half, h.now]
      congr 1
      omega
    · rw [if_neg hk, winA_none]
      intro x hx
      have := hbound x hx
      omega
theorem Rel.hit {m : Mt} {r : Rt} (h : Rel m r) {s t x : Nat} (hs : s < m.loads.length) (ht : t ≤ 1099511627776) (hc : m.clock ≤ t) (hx : wok x) : Rel (m.hit s t x) { r with now := t, all := r.all ++ [⟨s, t / m.half, x⟩] } := by
  have h0 := h.go ht hc
  have hl := Mt.go_len m t
  have hh : (m.go t).half = m.half := rfl
  have hcl : (m.go t).clock = t := rfl
  refine ⟨Mt.hit_ok h.ok ht hs hx, h.half, rfl, by simp only [Mt.hit, List.length_set]; exact h0.n, fun y hy => ?_, ?_, fun j hj => ?_, fun j hj => ?_⟩
  · have e1 : (m.hit s t x).loads.length = m.loads.length := by simp only [Mt.hit, List.length_set]; exact hl
    rw [e1]
    simp only [List.mem_append, List.mem_singleton] at hy
    rcases hy with hy | rfl
    · obtain ⟨a1, a2, a3⟩ := h0.hits y hy
      exact ⟨by rw [hl] at a1; exact a1, a2, a3⟩
    · exact ⟨hs, Nat.le_refl _, hx⟩
  · rw [List.pairwise_append]
    refine ⟨h.rise, by simp, fun a ha b hb => ?_⟩
    simp only [List.mem_singleton] at hb
    subst hb
    exact (h0.hits a ha).2.1
  · have hj2 : j < (m.go t).loads.length := by simpa [Mt.hit] using hj
    simp only [Mt.hit]
    rw [getD_set _ _ _ _ (by omega)]
    unfold ofR
    simp only [acc_snoc, h.half]
    by_cases e : s = j
    · subst e
      rw [if_pos rfl, h0.load s hj2]
      unfold ofR stp
      simp [h.half, hlfN]
    · rw [if_neg e, h0.load j hj2]
      unfold ofR stp
      simp [e, h.half]
  · have h7 := h0.win j hj
    simp only [Mt.hit]
    rw [getD_set _ _ _ _ (by rw [h0.ok.wl]; omega)]
    unfold winR
    simp only [winA_snoc, h.half]
    by_cases e : 7 = j
    · subst e
      rw [if_pos rfl, if_pos (by omega), h7]
      unfold winR
      simp [h.half]
    · rw [if_neg e, if_neg (by omega), h7]
      unfold winR
      simp [h.half]
end Go.Proofs.Ythhgeobfolhpoaa
