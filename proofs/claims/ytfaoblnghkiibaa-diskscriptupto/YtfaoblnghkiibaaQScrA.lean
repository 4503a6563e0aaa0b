/- A new disk, a loaded one and none, on both sides, under a script. -/
import Derived.Test.YtfaoblnghkiibaaQCrashL
namespace Go.Proofs.Ytfaoblnghkiibaa
open Go.RowKit

instance (n : Nat) : Decidable (noDisk n) := by unfold noDisk; infer_instance
def errN (x : Int) : Nat := if x < 1 ∨ 65536 < x then 2 else 0
def mkN (x : Int) : Option Dm := if x < 1 ∨ 65536 < x then none else some (fresh x.toNat (List.replicate (64 * x.toNat) 0))
def errL (bs : List Nat) : Nat := if noDisk bs.length then 82 else 0
def mkL (bs : List Nat) : Option Dm := if noDisk bs.length then none else some (fresh (bs.length / 64) bs)
theorem lenN (x : Int) : lenP (mkN x) = 0 := by unfold mkN; split <;> simp [lenP, fresh]
theorem lenL (bs : List Nat) : lenP (mkL bs) = 0 := by unfold mkL; split <;> simp [lenP, fresh]
theorem yesDisk {n : Nat} (h : ¬ noDisk n) : n = 64 * (n / 64) ∧ 1 ≤ n / 64 ∧ n / 64 ≤ 65536 := by unfold noDisk at h; omega
def optA (s : Option Dm) (b : Nat) : Option Addr := s.map fun _ => ⟨b, 0, none⟩

theorem new_h (w : World) (x : Int) : Calls Try.prog 9 #[.int .i64 x] w fun e w' => ∃ b X, e = .returned (.tuple #[.pointer (optA (mkN x) b), .int .i64 (errN x : Nat)]) ∧ Dh w' (.pointer (optA (mkN x) b)) X (mkN x) ∧ Nx [] w X w' := by
  by_cases h : x < 1 ∨ 65536 < x
  · have e1 : mkN x = none := if_pos h
    have e2 : errN x = 2 := if_pos h
    rw [e1, e2]
    exact (new_no h).mono fun e w' ⟨he, hw⟩ => ⟨0, [], he, Dh.non w', by rw [hw]; exact Nx.refl _ _⟩
  · have e1 : mkN x = some (fresh x.toNat (List.replicate (64 * x.toNat) 0)) := if_neg h
    have e2 : errN x = 0 := if_neg h
    rw [e1, e2]
    obtain ⟨n, rfl⟩ : ∃ n : Nat, x = (n : Int) := ⟨x.toNat, by omega⟩
    exact (new_yes (w := w) (n := n) (by omega) (by omega)).mono fun e w' ⟨b, F, he, h1, h2⟩ => ⟨b, F, he, Dh.mk h1, h2⟩
theorem rnew_h (w : World) (x : Int) : Calls Try.prog 11 #[.int .i64 x] w fun e w' => ∃ b X, e = .returned (.tuple #[.pointer (optA (mkN x) b), .int .i64 (errN x : Nat)]) ∧ Rh w' (.pointer (optA (mkN x) b)) X (mkN x) ∧ Nx [] w X w' := by
  by_cases h : x < 1 ∨ 65536 < x
  · have e1 : mkN x = none := if_pos h
    have e2 : errN x = 2 := if_pos h
    rw [e1, e2]
    exact (rnew_no h).mono fun e w' ⟨he, hw⟩ => ⟨0, [], he, Rh.non w', by rw [hw]; exact Nx.refl _ _⟩
  · have e1 : mkN x = some (fresh x.toNat (List.replicate (64 * x.toNat) 0)) := if_neg h
    have e2 : errN x = 0 := if_neg h
    rw [e1, e2]
    obtain ⟨n, rfl⟩ : ∃ n : Nat, x = (n : Int) := ⟨x.toNat, by omega⟩
    exact (rnew_yes (w := w) (n := n) (by omega) (by omega)).mono fun e w' ⟨b, F, he, h1, h2⟩ => ⟨b, F, he, Rh.mk h1, h2⟩
theorem load_h {w : World} {v : Value} {bs : List Nat} (hv : Sees w v bs) (hl : bs.length ≤ 9223372036854775807) : Calls Try.prog 10 #[v] w fun e w' => ∃ b X, e = .returned (.tuple #[.pointer (optA (mkL bs) b), .int .i64 (errL bs : Nat)]) ∧ Dh w' (.pointer (optA (mkL bs) b)) X (mkL bs) ∧ Nx [] w X w' := by
  by_cases h : noDisk bs.length
  · have e1 : mkL bs = none := if_pos h
    have e2 : errL bs = 82 := if_pos h
    rw [e1, e2]
    obtain ⟨a, cap, rfl, -⟩ := hv
    exact (load_no hl h).mono fun e w' ⟨he, hw⟩ => ⟨0, [], he, Dh.non w', by rw [hw]; exact Nx.refl _ _⟩
  · have e1 : mkL bs = some (fresh (bs.length / 64) bs) := if_neg h
    have e2 : errL bs = 0 := if_neg h
    rw [e1, e2]
    obtain ⟨h1, h2, h3⟩ := yesDisk h
    exact (load_yes hv h1 h2 h3).mono fun e w' ⟨b, F, he, h1, h2⟩ => ⟨b, F, he, Dh.mk h1, h2⟩
theorem rload_h {w : World} {v : Value} {bs : List Nat} (hv : Sees w v bs) (hl : bs.length ≤ 9223372036854775807) : Calls Try.prog 12 #[v] w fun e w' => ∃ b X, e = .returned (.tuple #[.pointer (optA (mkL bs) b), .int .i64 (errL bs : Nat)]) ∧ Rh w' (.pointer (optA (mkL bs) b)) X (mkL bs) ∧ Nx [] w X w' := by
  by_cases h : noDisk bs.length
  · have e1 : mkL bs = none := if_pos h
    have e2 : errL bs = 82 := if_pos h
    rw [e1, e2]
    obtain ⟨a, cap, rfl, -⟩ := hv
    exact (rload_no hl h).mono fun e w' ⟨he, hw⟩ => ⟨0, [], he, Rh.non w', by rw [hw]; exact Nx.refl _ _⟩
  · have e1 : mkL bs = some (fresh (bs.length / 64) bs) := if_neg h
    have e2 : errL bs = 0 := if_neg h
    rw [e1, e2]
    obtain ⟨h1, h2, h3⟩ := yesDisk h
    exact (rload_yes hv h1 h2 h3).mono fun e w' ⟨b, F, he, h1, h2⟩ => ⟨b, F, he, Rh.mk h1, h2⟩

/-- a disk and the document's, at one state, or none -/
def Pair (w : World) (p q : Value) (A : List Nat) (s : Option Dm) : Prop := ∃ X Y, A = X ++ Y ∧ Dh w p X s ∧ Rh w q Y s ∧ ∀ x ∈ X, x ∉ Y
theorem Pair.lt {w : World} {p q : Value} {A : List Nat} {s : Option Dm} (h : Pair w p q A s) : ∀ x ∈ A, x < w.heap.size := by
  obtain ⟨X, Y, rfl, h1, h2, -⟩ := h
  intro x hx
  rcases List.mem_append.1 hx with h | h
  · exact h1.1 x h
  · exact h2.1 x h
theorem Pair.keep {w w' : World} {p q : Value} {A G : List Nat} {s : Option Dm} (h : Pair w p q A s) (hk : Kept G w w') (hn : ∀ x ∈ A, x ∉ G) : Pair w' p q A s := by
  obtain ⟨X, Y, rfl, h1, h2, h3⟩ := h
  exact ⟨X, Y, rfl, h1.keep hk (fun x hx => hn x (by simp [hx])), h2.keep hk (fun x hx => hn x (by simp [hx])), h3⟩
theorem pair_none (w : World) : Pair w (.pointer none) (.pointer none) [] none := ⟨[], [], rfl, Dh.non w, Rh.non w, by simp⟩

/-- a step that came in, not too long -/
structure Op2 (w : World) (o : OpM) : Prop where
  ok : OpOk w o
  dl : o.dl.length ≤ 1048576
  kl : o.kl.length ≤ 1048576
theorem sees_lt {w : World} {v : Value} {l : List Nat} (h : Sees w v l) : l = [] ∨ ∀ k, v.ownBlock = some k → k < w.heap.size := by
  obtain ⟨a, cap, rfl, h1, h2, h3, h4⟩ := h
  rcases h4 with h4 | ⟨b, off, rfl, h5, h6⟩
  · exact Or.inl h4
  · exact Or.inr fun k hk => by simp [Value.ownBlock] at hk; omega
theorem seesB_lt {w : World} {v : Value} {l : List Bool} (h : SeesB w v l) : l = [] ∨ ∀ k, v.ownBlock = some k → k < w.heap.size := by
  obtain ⟨a, cap, rfl, h1, h2⟩ := h
  cases l with
  | nil => exact Or.inl rfl
  | cons x r =>
    obtain ⟨b, off, rfl, h5, -⟩ := h2 0 (by simp)
    exact Or.inr fun k hk => by simp [Value.ownBlock] at hk; omega
theorem pair_step {w0 w : World} {p q : Value} {A : List Nat} {s : Option Dm} {o : OpM} (h : Pair w p q A s) (hk : Kept [] w0 w) (hA : ∀ x ∈ A, w0.heap.size ≤ x) (ho : Op2 w0 o) (hl : (lenP s + 1) * 72 ≤ 140737488355328) :
    Calls Try.prog 16 #[p, q, .agg (oc o).toArray] w fun e w' => e = .returned (.bool true) ∧ ∃ A' s', Pair w' p q A' s' ∧ Nx A w A' w' ∧ lenP s' ≤ lenP s + 1 := by
  obtain ⟨X, Y, rfl, h1, h2, h3⟩ := h
  have ax : ∀ k, k < w0.heap.size → k ∉ X ∧ k ∉ Y := fun k hk => ⟨fun hm => by have := hA k (by simp [hm]); omega, fun hm => by have := hA k (by simp [hm]); omega⟩
  refine (step_any ⟨h1, h2, h3, ho.ok.kept hk, ho.dl, ho.kl, (sees_lt ho.ok.data).imp id (fun f k hk => ax k (f k hk)), (seesB_lt ho.ok.keep).imp id (fun f k hk => ax k (f k hk)), hl⟩).mono ?_
  rintro e w' ⟨he, X', Y', s', a1, a2, a3, a4, a5⟩
  exact ⟨he, X' ++ Y', s', ⟨X', Y', rfl, a1, a2, a3⟩, a4, a5⟩

/-- both pairs, and blocks beside them -/
def Sta (w0 w : World) (pa qa pb qb : Value) (ex : List (Nat × Array Value × TypeId)) (k : Nat) : Prop :=
  ∃ A sa B sb, Pair w pa qa A sa ∧ Pair w pb qb B sb ∧ (∀ x ∈ A, x ∉ B) ∧ (∀ x ∈ A, w0.heap.size ≤ x) ∧ (∀ x ∈ B, w0.heap.size ≤ x) ∧ lenP sa ≤ k ∧ lenP sb ≤ k ∧ Kept [] w0 w ∧ ∀ e ∈ ex, Blk w e.1 e.2.1 e.2.2 ∧ e.1 ∉ A ∧ e.1 ∉ B
theorem Sta.kept {w0 w : World} {pa qa pb qb : Value} {ex : List (Nat × Array Value × TypeId)} {k : Nat} (h : Sta w0 w pa qa pb qb ex k) : Kept [] w0 w := by
  obtain ⟨A, sa, B, sb, h1, h2, h3, h4, h5, h6, h7, h8, h9⟩ := h; exact h8
theorem Sta.quiet {w0 w w' : World} {pa qa pb qb : Value} {ex : List (Nat × Array Value × TypeId)} {k : Nat} (h : Sta w0 w pa qa pb qb ex k) (hk : Kept [] w w') : Sta w0 w' pa qa pb qb ex k := by
  obtain ⟨A, sa, B, sb, h1, h2, h3, h4, h5, h6, h7, h8, h9⟩ := h
  exact ⟨A, sa, B, sb, h1.keep hk (by simp), h2.keep hk (by simp), h3, h4, h5, h6, h7, h8.trans hk (by simp), fun e he => ⟨(h9 e he).1.kept hk (by simp), (h9 e he).2⟩⟩
theorem Sta.push {w0 w : World} {pa qa pb qb : Value} {ex : List (Nat × Array Value × TypeId)} {k : Nat} (h : Sta w0 w pa qa pb qb ex k) (cs : Array Value) (t : TypeId) : Sta w0 (w.alloc (.cells cs t)) pa qa pb qb ((w.heap.size, cs, t) :: ex) k := by
  obtain ⟨A, sa, B, sb, h1, h2, h3, h4, h5, h6, h7, h8, h9⟩ := h
  have hk : Kept [] w (w.alloc (.cells cs t)) := (Kept.refl [] w).alloc _
  refine ⟨A, sa, B, sb, h1.keep hk (by simp), h2.keep hk (by simp), h3, h4, h5, h6, h7, h8.trans hk (by simp), fun e he => ?_⟩
  rcases List.mem_cons.1 he with rfl | he
  · exact ⟨Blk.new _ _ _, fun hm => by have := h1.lt _ hm; simp at this, fun hm => by have := h2.lt _ hm; simp at this⟩
  · exact ⟨(h9 e he).1.kept hk (by simp), (h9 e he).2⟩
theorem Sta.pop {w0 w : World} {pa qa pb qb : Value} {x : Nat × Array Value × TypeId} {ex : List (Nat × Array Value × TypeId)} {k : Nat} (h : Sta w0 w pa qa pb qb (x :: ex) k) : Sta w0 w pa qa pb qb ex k := by
  obtain ⟨A, sa, B, sb, h1, h2, h3, h4, h5, h6, h7, h8, h9⟩ := h
  exact ⟨A, sa, B, sb, h1, h2, h3, h4, h5, h6, h7, h8, fun e he => h9 e (by simp [he])⟩
theorem Sta.more {w0 w : World} {pa qa pb qb : Value} {ex : List (Nat × Array Value × TypeId)} {k m : Nat} (h : Sta w0 w pa qa pb qb ex k) (hm : k ≤ m) : Sta w0 w pa qa pb qb ex m := by
  obtain ⟨A, sa, B, sb, h1, h2, h3, h4, h5, h6, h7, h8, h9⟩ := h
  exact ⟨A, sa, B, sb, h1, h2, h3, h4, h5, by omega, by omega, h8, h9⟩
theorem Sta.blk {w0 w : World} {pa qa pb qb : Value} {ex : List (Nat × Array Value × TypeId)} {k : Nat} (h : Sta w0 w pa qa pb qb ex k) {e : Nat × Array Value × TypeId} (he : e ∈ ex) : Blk w e.1 e.2.1 e.2.2 := by
  obtain ⟨A, sa, B, sb, h1, h2, h3, h4, h5, h6, h7, h8, h9⟩ := h
  exact (h9 e he).1
/-- the pair t -/
def dAt (pa pb : Value) (t : Nat) : Value := if t = 0 then pa else if t = 1 then pb else .pointer none
theorem sta_step {w0 w : World} {pa qa pb qb : Value} {ex : List (Nat × Array Value × TypeId)} {k : Nat} (h : Sta w0 w pa qa pb qb ex k) (t : Nat) {o : OpM} (ho : Op2 w0 o) (hl : (k + 1) * 72 ≤ 140737488355328) :
    Calls Try.prog 16 #[dAt pa pb t, dAt qa qb t, .agg (oc o).toArray] w fun e w' => e = .returned (.bool true) ∧ Sta w0 w' pa qa pb qb ex (k + 1) := by
  obtain ⟨A, sa, B, sb, h1, h2, h3, h4, h5, h6, h7, h8, h9⟩ := h
  by_cases h0 : t = 0
  · simp only [dAt, if_pos h0]
    refine (pair_step h1 h8 h4 ho (by omega)).mono ?_
    rintro e w' ⟨he, A', s', a1, a2, a3⟩
    have hBA : ∀ x ∈ B, x ∉ A := fun x hx hm => h3 x hm hx
    refine ⟨he, A', s', B, sb, a1, h2.keep a2.kept hBA, fun x hx hb => ?_, fun x hx => ?_, h5, by omega, by omega, h8.trans a2.kept (fun x hx => Or.inr (h4 x hx)), fun e he => ⟨(h9 e he).1.kept a2.kept (h9 e he).2.1, a2.away (h9 e he).2.1 (h9 e he).1.lt, (h9 e he).2.2⟩⟩
    · rcases a2.sub x hx with h | h
      · exact h3 x h hb
      · have := h2.lt x hb; omega
    · rcases a2.sub x hx with h | h
      · exact h4 x h
      · have := h8.size; omega
  · by_cases h10 : t = 1
    · simp only [dAt, if_neg h0, if_pos h10]
      refine (pair_step h2 h8 h5 ho (by omega)).mono ?_
      rintro e w' ⟨he, B', s', a1, a2, a3⟩
      refine ⟨he, A, sa, B', s', h1.keep a2.kept h3, a1, fun x hx hb => ?_, h4, fun x hx => ?_, by omega, by omega, h8.trans a2.kept (fun x hx => Or.inr (h5 x hx)), fun e he => ⟨(h9 e he).1.kept a2.kept (h9 e he).2.2, (h9 e he).2.1, a2.away (h9 e he).2.2 (h9 e he).1.lt⟩⟩
      · rcases a2.sub x hb with h | h
        · exact h3 x hx h
        · have := h1.lt x hx; omega
      · rcases a2.sub x hx with h | h
        · exact h5 x h
        · have := h8.size; omega
    · simp only [dAt, if_neg h0, if_neg h10]
      refine (pair_step (pair_none w) h8 (by simp) ho (by simp [lenP])).mono ?_
      rintro e w' ⟨he, A', s', a1, a2, a3⟩
      have hk := a2.kept
      exact ⟨he, A, sa, B, sb, h1.keep hk (by simp), h2.keep hk (by simp), h3, h4, h5, by omega, by omega, h8.trans hk (by simp), fun e he => ⟨(h9 e he).1.kept hk (by simp), (h9 e he).2⟩⟩
end Go.Proofs.Ytfaoblnghkiibaa
