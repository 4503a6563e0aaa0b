/- Two meters and none, on both sides, under a script. -/
import Derived.Test.YthhgeobfolhpoaaVPl4
import Derived.Test.YthhgeobfolhpoaaVPl5
namespace Go.Proofs.Ythhgeobfolhpoaa
open Go.RowKit

theorem step_any {w : World} {p q : Value} {X Y : List Nat} {s : Option Mt} {N : Nat} {o : OpM} (h : StepIn w p q X Y s N o) :
    Calls Try.prog 13 #[p, q, .agg (oc o).toArray] w fun e w' => e = .returned (.bool true) ∧ Out w p q X Y N w' := by
  by_cases h1 : o.kind = 1
  · exact step_hit h h1
  by_cases h2 : o.kind = 2
  · exact step_go h h2
  by_cases h3 : o.kind = 3
  · exact step_ask h h3
  by_cases h4 : o.kind = 4
  · exact step_row h h4
  by_cases h5 : o.kind = 5
  · exact step_wave h h5
  exact step_else h (by simpa using h1) (by simpa using h2) (by simpa using h3) (by simpa using h4) (by simpa using h5)

def errN (s h : Int) : Nat := if fits s h then 0 else 2
def mkN (s h : Int) : Option Mt := if fits s h then some (Mt.new s.toNat h.toNat) else none
def optA (o : Option Mt) (b : Nat) : Option Addr := o.map fun _ => ⟨b, 0, none⟩
theorem new_h (w : World) (s h : Int) : Calls Try.prog 9 #[.int .i64 s, .int .i64 h] w fun e w' => ∃ b X, e = .returned (.tuple #[.pointer (optA (mkN s h) b), .int .i64 (errN s h : Nat)]) ∧ Mh w' (.pointer (optA (mkN s h) b)) X (mkN s h) ∧ Nx [] w X w' := by
  by_cases hf : fits s h
  · have e1 : mkN s h = some (Mt.new s.toNat h.toNat) := if_pos hf
    have e2 : errN s h = 0 := if_pos hf
    rw [e1, e2]
    refine (new_yesI w hf).mono ?_
    rintro e w' ⟨b, g, rfl, h1, h2, h3, h4⟩
    refine ⟨b, [b, g], rfl, Mh.mk h1 (fun x hx => ?_) (by simp) (by simp), h2, fun x hx => ?_⟩
    · simp at hx; rcases hx with rfl | rfl
      · exact h1.head.lt
      · exact h1.row.lt
    · simp at hx; right; omega
  · have e1 : mkN s h = none := if_neg hf
    have e2 : errN s h = 2 := if_neg hf
    rw [e1, e2]
    exact (new_no w hf).mono fun e w' ⟨he, hw⟩ => ⟨0, [], he, Mh.non w', by rw [hw]; exact Nx.refl _ _⟩
theorem rnew_h (w : World) (s h : Int) : Calls Try.prog 10 #[.int .i64 s, .int .i64 h] w fun e w' => ∃ b X, e = .returned (.tuple #[.pointer (optA (mkN s h) b), .int .i64 (errN s h : Nat)]) ∧ Dh w' (.pointer (optA (mkN s h) b)) X (mkN s h) 0 ∧ Nx [] w X w' := by
  by_cases hf : fits s h
  · have e1 : mkN s h = some (Mt.new s.toNat h.toNat) := if_pos hf
    have e2 : errN s h = 0 := if_pos hf
    rw [e1, e2]
    unfold fits at hf
    obtain ⟨n, rfl⟩ : ∃ n : Nat, s = (n : Int) := ⟨s.toNat, by omega⟩
    obtain ⟨k, rfl⟩ : ∃ n : Nat, h = (n : Int) := ⟨h.toNat, by omega⟩
    refine (rnew_yes w (n := n) (h := k) (by omega) (by omega) (by omega) (by omega)).mono ?_
    rintro e w' ⟨b, rfl, h1, h2, h3⟩
    have hb : ∀ x ∈ [b], x < w'.heap.size := fun x hx => by simp at hx; subst hx; exact h1.head.lt
    refine ⟨b, [b], rfl, ⟨hb, b, _, rfl, ⟨⟨none, 0, h1, fun q hq => by cases hq⟩, by simp, hb⟩, rel_new (by omega) (by omega) (by omega) (by omega), by simp⟩, h2, fun x hx => ?_⟩
    simp at hx; right; omega
  · have e1 : mkN s h = none := if_neg hf
    have e2 : errN s h = 2 := if_neg hf
    rw [e1, e2]
    exact (rnew_no w hf).mono fun e w' ⟨he, hw⟩ => ⟨0, [], he, Dh.non w' 0, by rw [hw]; exact Nx.refl _ _⟩

/-- a meter and the document's, at one state, or none -/
def Pair (w : World) (p q : Value) (A : List Nat) (N : Nat) : Prop := ∃ X Y s, A = X ++ Y ∧ Mh w p X s ∧ Dh w q Y s N ∧ ∀ x ∈ X, x ∉ Y
theorem Pair.lt {w : World} {p q : Value} {A : List Nat} {N : Nat} (h : Pair w p q A N) : ∀ x ∈ A, x < w.heap.size := by
  obtain ⟨X, Y, s, rfl, h1, h2, -⟩ := h
  intro x hx
  rcases List.mem_append.1 hx with h | h
  · exact h1.1 x h
  · exact h2.1 x h
theorem Pair.keep {w w' : World} {p q : Value} {A G : List Nat} {N : Nat} (h : Pair w p q A N) (hk : Kept G w w') (hn : ∀ x ∈ A, x ∉ G) : Pair w' p q A N := by
  obtain ⟨X, Y, s, rfl, h1, h2, h3⟩ := h
  exact ⟨X, Y, s, rfl, h1.keep hk (fun x hx => hn x (by simp [hx])), h2.keep hk (fun x hx => hn x (by simp [hx])), h3⟩
theorem Pair.more {w : World} {p q : Value} {A : List Nat} {N M : Nat} (h : Pair w p q A N) (hm : N ≤ M) : Pair w p q A M := by
  obtain ⟨X, Y, s, e, h1, h2, h3⟩ := h
  exact ⟨X, Y, s, e, h1, h2.more hm, h3⟩
theorem pair_none (w : World) (N : Nat) : Pair w (.pointer none) (.pointer none) [] N := ⟨[], [], none, rfl, Mh.non w, Dh.non w N, by simp⟩
theorem pair_step {w : World} {p q : Value} {A : List Nat} {N : Nat} {o : OpM} (h : Pair w p q A N) (ho : o.wt < 18446744073709551616) (hl : (N + 1) * 24 ≤ 140737488355328) :
    Calls Try.prog 13 #[p, q, .agg (oc o).toArray] w fun e w' => e = .returned (.bool true) ∧ ∃ A', Pair w' p q A' (N + 1) ∧ Nx A w A' w' := by
  obtain ⟨X, Y, s, rfl, h1, h2, h3⟩ := h
  refine (step_any ⟨h1, h2, h3, ho, hl⟩).mono ?_
  rintro e w' ⟨he, X', Y', s', a1, a2, a3, a4⟩
  exact ⟨he, X' ++ Y', ⟨X', Y', s', rfl, a1, a2, a3⟩, a4⟩

/-- both pairs, and blocks beside them -/
def Sta (w0 w : World) (pa qa pb qb : Value) (ex : List (Nat × Array Value × TypeId)) (k : Nat) : Prop :=
  ∃ A B, Pair w pa qa A k ∧ Pair w pb qb B k ∧ (∀ x ∈ A, x ∉ B) ∧ (∀ x ∈ A, w0.heap.size ≤ x) ∧ (∀ x ∈ B, w0.heap.size ≤ x) ∧ Kept [] w0 w ∧ ∀ e ∈ ex, Blk w e.1 e.2.1 e.2.2 ∧ e.1 ∉ A ∧ e.1 ∉ B
theorem Sta.kept {w0 w : World} {pa qa pb qb : Value} {ex : List (Nat × Array Value × TypeId)} {k : Nat} (h : Sta w0 w pa qa pb qb ex k) : Kept [] w0 w := by
  obtain ⟨A, B, h1, h2, h3, h4, h5, h8, h9⟩ := h; exact h8
theorem Sta.quiet {w0 w w' : World} {pa qa pb qb : Value} {ex : List (Nat × Array Value × TypeId)} {k : Nat} (h : Sta w0 w pa qa pb qb ex k) (hk : Kept [] w w') : Sta w0 w' pa qa pb qb ex k := by
  obtain ⟨A, B, h1, h2, h3, h4, h5, h8, h9⟩ := h
  exact ⟨A, B, h1.keep hk (by simp), h2.keep hk (by simp), h3, h4, h5, h8.trans hk (by simp), fun e he => ⟨(h9 e he).1.kept hk (by simp), (h9 e he).2⟩⟩
theorem Sta.push {w0 w : World} {pa qa pb qb : Value} {ex : List (Nat × Array Value × TypeId)} {k : Nat} (h : Sta w0 w pa qa pb qb ex k) (cs : Array Value) (t : TypeId) : Sta w0 (w.alloc (.cells cs t)) pa qa pb qb ((w.heap.size, cs, t) :: ex) k := by
  obtain ⟨A, B, h1, h2, h3, h4, h5, h8, h9⟩ := h
  have hk : Kept [] w (w.alloc (.cells cs t)) := (Kept.refl [] w).alloc _
  refine ⟨A, B, h1.keep hk (by simp), h2.keep hk (by simp), h3, h4, h5, h8.trans hk (by simp), fun e he => ?_⟩
  rcases List.mem_cons.1 he with rfl | he
  · exact ⟨Blk.new _ _ _, fun hm => by have := h1.lt _ hm; simp at this, fun hm => by have := h2.lt _ hm; simp at this⟩
  · exact ⟨(h9 e he).1.kept hk (by simp), (h9 e he).2⟩
theorem Sta.more {w0 w : World} {pa qa pb qb : Value} {ex : List (Nat × Array Value × TypeId)} {k m : Nat} (h : Sta w0 w pa qa pb qb ex k) (hm : k ≤ m) : Sta w0 w pa qa pb qb ex m := by
  obtain ⟨A, B, h1, h2, h3, h4, h5, h8, h9⟩ := h
  exact ⟨A, B, h1.more hm, h2.more hm, h3, h4, h5, h8, h9⟩
theorem Sta.blk {w0 w : World} {pa qa pb qb : Value} {ex : List (Nat × Array Value × TypeId)} {k : Nat} (h : Sta w0 w pa qa pb qb ex k) {e : Nat × Array Value × TypeId} (he : e ∈ ex) : Blk w e.1 e.2.1 e.2.2 := by
  obtain ⟨A, B, h1, h2, h3, h4, h5, h8, h9⟩ := h
  exact (h9 e he).1
/-- the pair t -/
def dAt (pa pb : Value) (t : Nat) : Value := if t = 0 then pa else if t = 1 then pb else .pointer none
theorem dAt_cell {a b : Value} {t : Nat} (ht : t < 3) : (#[a, b, Value.pointer none] : Array Value)[t]? = some (dAt a b t) := by
  rcases (show t = 0 ∨ t = 1 ∨ t = 2 by omega) with rfl | rfl | rfl <;> rfl
theorem sta_step {w0 w : World} {pa qa pb qb : Value} {ex : List (Nat × Array Value × TypeId)} {k : Nat} (h : Sta w0 w pa qa pb qb ex k) (t : Nat) {o : OpM} (ho : o.wt < 18446744073709551616) (hl : (k + 1) * 24 ≤ 140737488355328) :
    Calls Try.prog 13 #[dAt pa pb t, dAt qa qb t, .agg (oc o).toArray] w fun e w' => e = .returned (.bool true) ∧ Sta w0 w' pa qa pb qb ex (k + 1) := by
  obtain ⟨A, B, h1, h2, h3, h4, h5, h8, h9⟩ := h
  by_cases h0 : t = 0
  · simp only [dAt, if_pos h0]
    refine (pair_step h1 ho hl).mono ?_
    rintro e w' ⟨he, A', a1, a2⟩
    have hBA : ∀ x ∈ B, x ∉ A := fun x hx hm => h3 x hm hx
    refine ⟨he, A', B, a1, (h2.keep a2.kept hBA).more (by omega), fun x hx hb => ?_, fun x hx => ?_, h5, h8.trans a2.kept (fun x hx => Or.inr (h4 x hx)), fun e he => ⟨(h9 e he).1.kept a2.kept (h9 e he).2.1, a2.away (h9 e he).2.1 (h9 e he).1.lt, (h9 e he).2.2⟩⟩
    · rcases a2.sub x hx with h | h
      · exact h3 x h hb
      · have := h2.lt x hb; omega
    · rcases a2.sub x hx with h | h
      · exact h4 x h
      · have := h8.size; omega
  · by_cases h10 : t = 1
    · simp only [dAt, if_neg h0, if_pos h10]
      refine (pair_step h2 ho hl).mono ?_
      rintro e w' ⟨he, B', a1, a2⟩
      refine ⟨he, A, B', (h1.keep a2.kept h3).more (by omega), a1, fun x hx hb => ?_, h4, fun x hx => ?_, h8.trans a2.kept (fun x hx => Or.inr (h5 x hx)), fun e he => ⟨(h9 e he).1.kept a2.kept (h9 e he).2.2, (h9 e he).2.1, a2.away (h9 e he).2.2 (h9 e he).1.lt⟩⟩
      · rcases a2.sub x hb with h | h
        · exact h3 x hx h
        · have := h1.lt x hx; omega
      · rcases a2.sub x hx with h | h
        · exact h5 x h
        · have := h8.size; omega
    · simp only [dAt, if_neg h0, if_neg h10]
      refine (pair_step (pair_none w k) ho hl).mono ?_
      rintro e w' ⟨he, A', a1, a2⟩
      have hk := a2.kept
      exact ⟨he, A, B, (h1.keep hk (by simp)).more (by omega), (h2.keep hk (by simp)).more (by omega), h3, h4, h5, h8.trans hk (by simp), fun e he => ⟨(h9 e he).1.kept hk (by simp), (h9 e he).2⟩⟩
theorem sta_start {w w2 w3 w4 w5 : World} {pa qa pb qb : Value} {Xa Xb Ya Yb : List Nat} {sa sb : Option Mt}
    (da : Mh w2 pa Xa sa) (n2 : Nx [] w Xa w2) (db : Mh w3 pb Xb sb) (n3 : Nx [] w2 Xb w3) (ra : Dh w4 qa Ya sa 0) (n4 : Nx [] w3 Ya w4) (rb : Dh w5 qb Yb sb 0) (n5 : Nx [] w4 Yb w5) : Sta w w5 pa qa pb qb [] 0 := by
  have z2 := n2.kept.size
  have z3 := n3.kept.size
  have z4 := n4.kept.size
  have z5 := n5.kept.size
  have b1 : ∀ x ∈ Xa, w.heap.size ≤ x ∧ x < w2.heap.size := fun x hx => ⟨by rcases n2.sub x hx with h | h; cases h; exact h, da.1 x hx⟩
  have b2 : ∀ x ∈ Xb, w2.heap.size ≤ x ∧ x < w3.heap.size := fun x hx => ⟨by rcases n3.sub x hx with h | h; cases h; exact h, db.1 x hx⟩
  have b3 : ∀ x ∈ Ya, w3.heap.size ≤ x ∧ x < w4.heap.size := fun x hx => ⟨by rcases n4.sub x hx with h | h; cases h; exact h, ra.1 x hx⟩
  have b4 : ∀ x ∈ Yb, w4.heap.size ≤ x ∧ x < w5.heap.size := fun x hx => ⟨by rcases n5.sub x hx with h | h; cases h; exact h, rb.1 x hx⟩
  have e45 := n5.kept
  have e35 := n4.kept.trans e45 (by simp)
  have e25 := n3.kept.trans e35 (by simp)
  have e15 := n2.kept.trans e25 (by simp)
  refine ⟨Xa ++ Ya, Xb ++ Yb, ⟨Xa, Ya, sa, rfl, da.quiet e25, ra.quiet e45, ?_⟩, ⟨Xb, Yb, sb, rfl, db.quiet e35, rb, ?_⟩, ?_, ?_, ?_, e15, by simp⟩
  · intro x hx hm; have h1 := b1 x hx; have h2 := b3 x hm; omega
  · intro x hx hm; have h1 := b2 x hx; have h2 := b4 x hm; omega
  · intro x hx hm
    rcases List.mem_append.1 hx with h | h <;> rcases List.mem_append.1 hm with h' | h'
    · have h1 := b1 x h; have h2 := b2 x h'; omega
    · have h1 := b1 x h; have h2 := b4 x h'; omega
    · have h1 := b3 x h; have h2 := b2 x h'; omega
    · have h1 := b3 x h; have h2 := b4 x h'; omega
  · intro x hx
    rcases List.mem_append.1 hx with h | h
    · have h1 := b1 x h; omega
    · have h1 := b3 x h; omega
  · intro x hx
    rcases List.mem_append.1 hx with h | h
    · have h1 := b2 x h; omega
    · have h1 := b4 x h; omega
/-- the step of the pair t, with what is read besides -/
theorem sta_call {w0 w : World} {pa qa pb qb : Value} {gd gm k : Nat} (o : OpM) (h : Sta w0 w pa qa pb qb [(gm, #[qa, qb, .pointer none], 27), (gd, #[pa, pb, .pointer none], 23)] k) {t : Nat} (ht : t < 3) (ho : o.wt < 18446744073709551616) (hl : (k + 1) * 24 ≤ 140737488355328) {W : World} (hW : Quiet w W) :
    Calls Try.prog 13 #[dAt pa pb t, dAt qa qb t, .agg (oc o).toArray] W fun e w' => e = .returned (.bool true) ∧ Sta w0 w' pa qa pb qb [(gm, #[qa, qb, .pointer none], 27), (gd, #[pa, pb, .pointer none], 23)] (k + 1) ∧
      w'.cell? ⟨gd, t, none⟩ = some (dAt pa pb t) ∧ w'.cell? ⟨gm, t, none⟩ = some (dAt qa qb t) := by
  refine (sta_step (h.quiet hW.kept) t ho hl).mono ?_
  rintro e w' ⟨he, hs⟩
  have b2 := hs.blk (e := (gm, #[qa, qb, .pointer none], 27)) (by simp)
  have b3 := hs.blk (e := (gd, #[pa, pb, .pointer none], 23)) (by simp)
  exact ⟨he, hs, (b3.cell t).trans (dAt_cell ht), (b2.cell t).trans (dAt_cell ht)⟩
end Go.Proofs.Ythhgeobfolhpoaa
