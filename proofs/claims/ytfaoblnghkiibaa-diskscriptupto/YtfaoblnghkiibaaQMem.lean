/- A disk in memory. -/
import Derived.Test.YtfaoblnghkiibaaQByt
import Derived.Deep.MidRow
import Derived.Deep.WholeRow
namespace Go.Proofs.Ytfaoblnghkiibaa
open Go.RowKit

/-- the cells of a pending write -/
def wc (x : Wt) : List Value := .int .i64 (x.k : Int) :: u8s x.d
def flatW (ps : List Wt) : List Value := ps.flatMap wc
theorem wc_len {n : Nat} {x : Wt} (h : x.ok n) : (wc x).length = 65 := by simp [wc, u8s_length, h.len]
theorem flatW_len {n : Nat} {ps : List Wt} (h : ∀ x ∈ ps, x.ok n) : (flatW ps).length = ps.length * 65 := by
  induction ps with
  | nil => rfl
  | cons x ps ih =>
    have h1 := wc_len (h x (by simp))
    have h2 := ih (fun y hy => h y (by simp [hy]))
    simp only [flatW, List.flatMap_cons, List.length_append, List.length_cons] at h2 ⊢
    omega
theorem flatW_app (a b : List Wt) : flatW (a ++ b) = flatW a ++ flatW b := by simp [flatW]
theorem wc_one (x : Wt) : ∀ u ∈ wc x, u.oneCell' = true := by
  intro u hu
  simp only [wc, List.mem_cons] at hu
  rcases hu with rfl | hu
  · rfl
  · exact u8s_one _ u hu
theorem flatW_one (ps : List Wt) : ∀ u ∈ flatW ps, u.oneCell' = true := by
  intro u hu
  obtain ⟨x, _, hx⟩ := List.mem_flatMap.1 hu
  exact wc_one x u hx
theorem flatW_at {n : Nat} {ps : List Wt} (h : ∀ x ∈ ps, x.ok n) {i : Nat} {x : Wt} (hx : ps[i]? = some x) {j : Nat} {v : Value} (hv : (wc x)[j]? = some v) : (flatW ps)[i * 65 + j]? = some v := by
  induction ps generalizing i with
  | nil => simp at hx
  | cons y ps ih =>
    have hy := wc_len (h y (by simp))
    have hj : j < 65 := by
      have := (List.getElem?_eq_some_iff.1 hv).1
      have hm := wc_len (h x (List.mem_of_getElem? hx)); omega
    simp only [flatW, List.flatMap_cons]
    cases i with
    | zero =>
      simp at hx; subst hx
      rw [List.getElem?_append_left (by omega), Nat.zero_mul, Nat.zero_add]; exact hv
    | succ i =>
      rw [List.getElem?_append_right (by omega), hy, show (i + 1) * 65 + j - 65 = i * 65 + j by omega]
      exact ih (fun z hz => h z (by simp [hz])) (by simpa using hx)

/-- the cells of a disk -/
def dcells (g n : Nat) (pv : Value) (f : Option Nat) (wr sy : Int) : Array Value :=
  #[.slice (some ⟨g, 0, none⟩) n n, pv, .bool f.isSome, .int .i64 ((f.getD 0 : Nat) : Int), .int .i64 wr, .int .i64 sy]

/-- what a disk's blocks hold -/
structure Dp (w : World) (b g : Nat) (pa : Option Addr) (pc : Nat) (d : Dm) : Prop where
  ok : d.ok
  head : Blk w b (dcells g d.n (.slice pa d.pend.length pc) d.fuse d.wr d.sy) 68
  safe : Blk w g (u8s d.safe).toArray 70
  pend : w.ownsRow 0 79 65 (.slice pa d.pend.length pc) d.pend.length (flatW d.pend)
  bg : b ≠ g
  pb : ∀ p, (Value.slice pa d.pend.length pc).ownBlock = some p → p ≠ b ∧ p ≠ g

/-- a disk in memory, its blocks among F -/
def Dk (w : World) (b : Nat) (F : List Nat) (d : Dm) : Prop :=
  ∃ g pa pc, Dp w b g pa pc d ∧ b ∈ F ∧ g ∈ F ∧ (∀ p, (Value.slice pa d.pend.length pc).ownBlock = some p → p ∈ F) ∧ ∀ x ∈ F, x < w.heap.size

theorem Dp.keep {w w' : World} {b g pc : Nat} {pa : Option Addr} {d : Dm} {F : List Nat} (h : Dp w b g pa pc d) (hk : Kept F w w') (hb : b ∉ F) (hg : g ∉ F) (hp : ∀ p, (Value.slice pa d.pend.length pc).ownBlock = some p → p ∉ F) : Dp w' b g pa pc d :=
  ⟨h.ok, h.head.kept hk hb, h.safe.kept hk hg, own_kept h.pend hk hp, h.bg, h.pb⟩
theorem Dk.keep {w w' : World} {b : Nat} {F G : List Nat} {d : Dm} (h : Dk w b F d) (hk : Kept G w w') (hn : ∀ x ∈ F, x ∉ G) : Dk w' b F d := by
  obtain ⟨g, pa, pc, h1, h2, h3, h4, h5⟩ := h
  exact ⟨g, pa, pc, h1.keep hk (hn b h2) (hn g h3) (fun p hp => hn p (h4 p hp)), h2, h3, h4, fun x hx => Nat.lt_of_lt_of_le (h5 x hx) hk.size⟩
theorem Dk.lt {w : World} {b : Nat} {F : List Nat} {d : Dm} (h : Dk w b F d) : ∀ x ∈ F, x < w.heap.size := by
  obtain ⟨g, pa, pc, h1, h2, h3, h4, h5⟩ := h; exact h5
theorem Dk.ok {w : World} {b : Nat} {F : List Nat} {d : Dm} (h : Dk w b F d) : d.ok := by
  obtain ⟨g, pa, pc, h1, _⟩ := h; exact h1.ok

/-- what a call of a disk may do: its own blocks, and new ones that it takes -/
structure Nx (F : List Nat) (w : World) (F' : List Nat) (w' : World) : Prop where
  kept : Kept F w w'
  sub : ∀ x ∈ F', x ∈ F ∨ w.heap.size ≤ x

theorem Nx.refl (F : List Nat) (w : World) : Nx F w F w := ⟨Kept.refl _ _, fun _ h => Or.inl h⟩
theorem Nx.away {F F' : List Nat} {w w' : World} (h : Nx F w F' w') {q : Nat} (hq : q ∉ F) (hl : q < w.heap.size) : q ∉ F' := fun hm => by
  rcases h.sub q hm with h1 | h1
  · exact hq h1
  · omega
theorem Nx.trans {F G H : List Nat} {a b c : World} (h : Nx F a G b) (k : Nx G b H c) : Nx F a H c := by
  have hs := h.kept.size
  refine ⟨h.kept.trans k.kept h.sub, fun x hx => ?_⟩
  rcases k.sub x hx with h1 | h1
  · exact h.sub x h1
  · right; omega
theorem Nx.quiet {F G : List Nat} {a b c : World} (h : Nx F a G b) (k : Kept [] b c) : Nx F a G c := ⟨h.kept.trans k (fun _ hx => by cases hx), h.sub⟩
theorem Nx.after {F G : List Nat} {a b c : World} (k : Kept [] a b) (h : Nx F b G c) : Nx F a G c := by
  have hs := k.size
  refine ⟨(k.mono (G := F) (fun _ hx => by cases hx)).trans h.kept (fun x hx => Or.inl hx), fun x hx => ?_⟩
  rcases h.sub x hx with h1 | h1
  · exact Or.inl h1
  · right; omega

theorem dp_cells {w : World} {b g pc : Nat} {pa : Option Addr} {d : Dm} (h : Dp w b g pa pc d) :
    w.cell? ⟨b, 0, none⟩ = some (.slice (some ⟨g, 0, none⟩) d.n d.n) ∧ w.cell? ⟨b, 1, none⟩ = some (.slice pa d.pend.length pc) ∧ w.cell? ⟨b, 2, none⟩ = some (.bool d.fuse.isSome) ∧
    w.cell? ⟨b, 3, none⟩ = some (.int .i64 ((d.fuse.getD 0 : Nat) : Int)) ∧ w.cell? ⟨b, 4, none⟩ = some (.int .i64 d.wr) ∧ w.cell? ⟨b, 5, none⟩ = some (.int .i64 d.sy) := by
  refine ⟨?_, ?_, ?_, ?_, ?_, ?_⟩ <;> (rw [h.head.cell]; simp [dcells])
end Go.Proofs.Ytfaoblnghkiibaa
