/- What a step takes is a value of its type; a step of ParcelForms in plain words; a row of steps that came in. -/
import Derived.Test.YtiabhgkndejigabPFp
namespace Go.Proofs.Ytiabhgkndejigab
open Go.RowKit

theorem rByte_lt (s : RS) (hl : ∀ x ∈ s.left, x < 256) : (rByte s).2 < 256 := by
  obtain ⟨f, l, bh⟩ := s
  unfold rByte
  split
  · simp
  · cases l with
    | nil => simp
    | cons x l => exact hl x (by simp)
theorem rFixed_lt (s : RS) (hl : ∀ x ∈ s.left, x < 256) (z : Int) : (rFixed s z).2 < 18446744073709551616 := by
  unfold rFixed
  split
  · simp
  · split
    · simp
    · rename_i hz
      split
      · simp
      · have h1 := lt_take s.left hl z.toNat
        have h2 : 256 ^ z.toNat ≤ 256 ^ 8 := Nat.pow_le_pow_right (by omega) (by omega)
        show leV (s.left.take z.toNat) < _
        exact Nat.lt_of_lt_of_le h1 h2
theorem rNum_lt (s : RS) (hl : ∀ x ∈ s.left, x < 256) : (rNum s).2 < 18446744073709551616 := by
  unfold rNum
  split
  · simp
  · cases hr : readNum 0 0 s.left with
    | inl c => simp
    | inr p => obtain ⟨n, r⟩ := p; exact (readNum_lt _ 0 0 (by omega) (by simp) hl hr).1
theorem rInt_lt (s : RS) (hl : ∀ x ∈ s.left, x < 256) : -9223372036854775808 ≤ (rInt s).2 ∧ (rInt s).2 ≤ 9223372036854775807 := by
  have := rNum_lt s hl
  unfold rInt unfoldN
  simp only
  split <;> omega
theorem rReal_lt (s : RS) (hl : ∀ x ∈ s.left, x < 256) : (rReal s).2 < 18446744073709551616 := by
  unfold rReal
  split
  · simp
  · split
    · simp
    · rename_i h8
      split
      · simp
      · obtain ⟨x0, x1, x2, x3, x4, x5, x6, x7, rest, hl'⟩ := eight s.left h8
        have e : s.left.take 8 = [x0, x1, x2, x3, x4, x5, x6, x7] := by rw [hl']; rfl
        show of8 (s.left.take 8) < _
        rw [e]
        exact of8_lt _ _ _ _ _ _ _ _ (fun x hx => hl x (by rw [← e] at hx; exact List.mem_of_mem_take hx))
theorem rRaw_in (s : RS) (hl : ∀ x ∈ s.left, x < 256) (z : Int) : (∀ x ∈ (rRaw s z).2, x < 256) ∧ (rRaw s z).2.length ≤ s.left.length := by
  unfold rRaw
  split
  · simp
  · split
    · simp
    · split
      · simp
      · exact ⟨fun x hx => hl x (List.mem_of_mem_take hx), by show (s.left.take z.toNat).length ≤ _; simp; omega⟩
theorem rText_in (s : RS) (hl : ∀ x ∈ s.left, x < 256) (z : Int) : (∀ x ∈ (rText s z).2, x < 256) ∧ (rText s z).2.length ≤ s.left.length := by
  unfold rText
  split
  · simp
  · cases hr : readNum 0 0 s.left with
    | inl c => simp
    | inr p =>
      obtain ⟨n, r⟩ := p
      have h := readNum_lt _ 0 0 (by omega) (by simp) hl hr
      simp only
      split
      · simp
      · split
        · simp
        · exact ⟨fun x hx => h.2.1 x (List.mem_of_mem_take hx), by show (r.take n).length ≤ _; simp; omega⟩

/-- What a step takes is a thing. -/
theorem takenS_ok (s : RS) (hl : ∀ x ∈ s.left, x < 256) (k : Nat) (hk : k < 9) (i : Int) (hi1 : -9223372036854775808 ≤ i) (hi2 : i ≤ 9223372036854775807) (a : Option Addr) (c : Nat) : (thOf k (takenS s k i) a c).ok ∧ (takenS s k i).2.2.2.length ≤ s.left.length := by
  have hb := rByte_lt s hl
  have hf := rFixed_lt s hl
  have hn := rNum_lt s hl
  have hi := rInt_lt s hl
  have hr := rReal_lt s hl
  have hw := rRaw_in s hl
  have ht := rText_in s hl
  match k, hk with
  | 0, _ => exact ⟨⟨by simp [thOf], by simp [thOf], by simp [thOf, takenS], by show _ ≤ ((rByte s).2 : Int); omega, by show ((rByte s).2 : Int) ≤ _; omega, by intro x hx; simp [thOf, takenS] at hx⟩, by simp [takenS]⟩
  | 1, _ => exact ⟨⟨by simp [thOf], by simp [thOf], hf _, hi1, hi2, by intro x hx; simp [thOf, takenS] at hx⟩, by simp [takenS]⟩
  | 2, _ => exact ⟨⟨by simp [thOf], by simp [thOf], hn, hi1, hi2, by intro x hx; simp [thOf, takenS] at hx⟩, by simp [takenS]⟩
  | 3, _ => exact ⟨⟨by simp [thOf], by simp [thOf], by simp [thOf, takenS], hi.1, hi.2, by intro x hx; simp [thOf, takenS] at hx⟩, by simp [takenS]⟩
  | 4, _ => exact ⟨⟨by simp [thOf], by simp [thOf], hr, hi1, hi2, by intro x hx; simp [thOf, takenS] at hx⟩, by simp [takenS]⟩
  | 5, _ => exact ⟨⟨by simp [thOf], by simp [thOf], by simp [thOf, takenS], hi1, hi2, (hw _).1⟩, (hw _).2⟩
  | 6, _ => exact ⟨⟨by simp [thOf], by simp [thOf], by simp [thOf, takenS], hi1, hi2, (ht _).1⟩, (ht _).2⟩
  | 7, _ => exact ⟨⟨by simp [thOf], by simp [thOf], by simp [thOf, takenS], hi1, hi2, by intro x hx; simp [thOf, takenS] at hx⟩, by simp [takenS]⟩
  | 8, _ => exact ⟨⟨by simp [thOf], by simp [thOf], by simp [thOf, takenS], hi1, hi2, by intro x hx; simp [thOf, takenS] at hx⟩, by simp [takenS]⟩

/-- A step of ParcelForms. -/
theorem step_forms {p : List Nat} {ws : WS} {r : RS} {fs : List (List Nat × List Nat)} {A : List Nat} (h : FI p ws r fs A) (hl : ∀ x ∈ r.left, x < 256) (hb : ∀ q ∈ r.behind, ∀ x ∈ q, x < 256) (h16 : fs.length ≤ 16) (K : Nat) (hK : K < 9) (i : Int) (a : Option Addr) (c : Nat)
    (h8 : K = 8 → 0 < fs.length ∧ r.left = []) (h7 : K = 7 → fs.length ≠ 16) :
    ((takenS r K i).1 = rF 10 ∨ (takenS r K i).1 = rF 11) ∨
      ∃ fs' A', FI p ((thOf K (takenS r K i) a c).lay ws) (takenS r K i).1 fs' A' ∧ fs'.length ≤ 16 ∧ (K = 7 → fs'.length = fs.length + 1) ∧ (K = 8 → fs'.length + 1 = fs.length) ∧ (K < 7 → fs'.length = fs.length) := by
  have hkk := thOf_k K hK (takenS r K i) a c
  unfold Th.lay
  rw [hkk]
  by_cases e7 : K = 7
  · subst e7
    rw [if_pos rfl]
    have e : (takenS r 7 i).1 = (rEnter r).1 := rfl
    rw [e]
    rcases h.enter hl (by have := h7 rfl; omega) with h' | h' | h'
    · right
      refine ⟨_, _, h', by simp; have := h7 rfl; omega, fun _ => by simp, fun e => by omega, fun e => by omega⟩
    · exact Or.inl (Or.inl h')
    · exact Or.inl (Or.inr h')
  · rw [if_neg e7]
    by_cases e8 : K = 8
    · subst e8
      rw [if_pos rfl]
      right
      obtain ⟨h1, h2⟩ := h8 rfl
      have e : (takenS r 8 i).1 = rLeave r := rfl
      rw [e]
      obtain ⟨A', h3, _⟩ := h.leave h2 h1 hb
      exact ⟨_, A', h3, by simp; omega, fun e => by omega, fun _ => by simp; omega, fun e => by omega⟩
    · rw [if_neg e8]
      rcases one_form h.ok hl K (by omega) i a c with ⟨h1, h2, h3⟩ | h' | h'
      · right
        exact ⟨fs, _, h.leaf h1 h2 h3, h16, fun e => absurd e e7, fun e => absurd e e8, fun _ => rfl⟩
      · exact Or.inl (Or.inl h')
      · exact Or.inl (Or.inr h')

/-- A step with a reader. -/
structure Tk where
  kind : Int
  which : Int
  i : Int
structure Tk.ok (t : Tk) : Prop where
  i1 : -9223372036854775808 ≤ t.i
  i2 : t.i ≤ 9223372036854775807
/-- The slice v holds these steps. -/
def RowK (w : World) (v : Value) (ts : List Tk) : Prop :=
  ∃ a cap, v = .slice a ts.length cap ∧ ts.length ≤ 4611686018427387904 ∧ ∀ j t, ts[j]? = some t → t.ok ∧ ∃ b off, a = some ⟨b, off, none⟩ ∧ b < w.heap.size ∧ w.cell? ⟨b, off + j * 3, none⟩ = some (.int .i64 t.kind) ∧ w.cell? ⟨b, off + j * 3 + 1, none⟩ = some (.int .i64 t.which) ∧ w.cell? ⟨b, off + j * 3 + 2, none⟩ = some (.int .i64 t.i)
theorem RowK.kept {w w' : World} {v : Value} {ts : List Tk} (h : RowK w v ts) (k : Kept [] w w') : RowK w' v ts := by
  obtain ⟨a, cap, h1, h2, h3⟩ := h
  refine ⟨a, cap, h1, h2, fun j t hj => ?_⟩
  obtain ⟨ho, b, off, ha, hb, q0, q1, q2⟩ := h3 j t hj
  refine ⟨ho, b, off, ha, Nat.lt_of_lt_of_le hb k.size, ?_, ?_, ?_⟩
  · rw [k.cell (p := ⟨b, off + j * 3, none⟩) hb (by simp)]; exact q0
  · rw [k.cell (p := ⟨b, off + j * 3 + 1, none⟩) hb (by simp)]; exact q1
  · rw [k.cell (p := ⟨b, off + j * 3 + 2, none⟩) hb (by simp)]; exact q2
end Go.Proofs.Ytiabhgkndejigab
