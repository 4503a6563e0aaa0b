/- Plain arithmetic: what is told by a sum: up to four bytes side by side are turned. -/
import Derived.Test.YtlcepoomjnpfpabDoorForge
import Derived.Test.YtlcepoomjnpfpabDoorRow
namespace Go.Proofs.YtlcepoomjnpfpabDoor

theorem stps_pow256 (i : Nat) : ∀ x : Nat, stps (8 * i) (x * 256 ^ i) = x := by
  induction i with
  | zero => intro x; simp [stps]
  | succ i ih =>
    intro x
    rw [show 8 * (i + 1) = 8 + 8 * i by omega, stps_add, Nat.pow_succ, ← Nat.mul_assoc, stps8_high, ih]

/-- how far the turning has come: i bytes are looked at; q is the text, u tells how many of its bytes are unlike -/
structure Told (bs : List Nat) (k i : Nat) (q : List Nat) (u : Nat) : Prop where
  len : q.length = bs.length
  byte : ∀ b ∈ q, b < 256
  least : u ≤ i
  none : u = 0 → q = bs
  one : u = 1 → ∃ pos y, pos < bs.length ∧ y < 256 ∧ y ≠ bs.getD pos 0 ∧ q = bs.set pos y
  word : ∃ W, W < 256 ^ i ∧ crc q = stps (8 * (bs.length - k)) W ^^^ crc bs ∧ (u ≠ 0 → W ≠ 0)

theorem Told.start {bs : List Nat} (hb : ∀ b ∈ bs, b < 256) (k : Nat) : Told bs k 0 bs 0 :=
  ⟨rfl, hb, Nat.le_refl _, fun _ => rfl, fun h => by omega, 0, by simp, by rw [stps_zero, Nat.zero_xor], fun h => absurd rfl h⟩

theorem Told.skip {bs q : List Nat} {k i u : Nat} (h : Told bs k i q u) : Told bs k (i + 1) q u := by
  obtain ⟨W, h1, h2, h3⟩ := h.word
  refine ⟨h.len, h.byte, by have := h.least; omega, h.none, h.one, W, ?_, h2, h3⟩
  exact Nat.lt_of_lt_of_le h1 (Nat.pow_le_pow_right (by omega) (by omega))

theorem set_same {q : List Nat} {p : Nat} (hp : p < q.length) : q.set p (q.getD p 0) = q := by
  rw [List.getD, List.getElem?_eq_getElem hp, Option.getD_some, List.set_getElem_self]

theorem Told.zero {bs q : List Nat} {k i u : Nat} (h : Told bs k i q u) (hp : k + i < bs.length) : Told bs k (i + 1) (q.set (k + i) (q.getD (k + i) 0 ^^^ 0)) u := by
  rw [Nat.xor_zero, set_same (by rw [h.len]; exact hp)]
  exact h.skip

theorem Told.turn {bs q : List Nat} {k i u d : Nat} (h : Told bs k i q u) (hb : ∀ b ∈ bs, b < 256) (hp : k + i < bs.length) (hd : d < 256) (hd0 : d ≠ 0) :
    Told bs k (i + 1) (q.set (k + i) (q.getD (k + i) 0 ^^^ d)) (u + 1) := by
  have hq : k + i < q.length := by rw [h.len]; exact hp
  have hx : q.getD (k + i) 0 < 256 := getD_lt h.byte hq
  have hy : q.getD (k + i) 0 ^^^ d < 256 := Nat.xor_lt_two_pow (n := 8) hx hd
  obtain ⟨W, h1, h2, h3⟩ := h.word
  refine ⟨by rw [List.length_set]; exact h.len, set_bytes h.byte hy, by have := h.least; omega, fun h => by omega, fun h4 => ?_, ?_⟩
  · have h5 : q = bs := h.none (by omega)
    subst h5
    refine ⟨k + i, _, hp, hy, fun e => hd0 ?_, rfl⟩
    have e2 : q.getD (k + i) 0 ^^^ d = q.getD (k + i) 0 ^^^ 0 := by rw [Nat.xor_zero]; exact e
    exact xor_cancel e2
  · have hpw : 256 ^ i = 2 ^ (8 * i) := by rw [Nat.pow_mul]
    have hadd : d * 256 ^ i ^^^ W = d * 256 ^ i + W := by
      rw [hpw]; exact xor_add (by rw [← hpw]; exact h1)
    refine ⟨d * 256 ^ i ^^^ W, ?_, ?_, fun _ e => ?_⟩
    · rw [hadd, Nat.pow_succ]
      have h6 : d * 256 ^ i ≤ 255 * 256 ^ i := Nat.mul_le_mul_right _ (by omega)
      have h7 : 0 < 256 ^ i := Nat.pow_pos (by omega)
      generalize 256 ^ i = z at h1 h6 h7
      omega
    · have e1 : stps (8 * (bs.length - k)) (d * 256 ^ i) = stps (8 * (q.length - 1 - (k + i))) (stps 8 d) := by
        rw [show 8 * (bs.length - k) = 8 * i + (8 + 8 * (q.length - 1 - (k + i))) by rw [h.len]; omega, stps_add, stps_pow256, stps_add]
      rw [crc_set hq, h2, stps_xor, e1, Nat.xor_assoc]
    · rw [hadd] at e
      have h7 : 0 < 256 ^ i := Nat.pow_pos (by omega)
      have h8 : 0 < d * 256 ^ i := Nat.mul_pos (by omega) h7
      omega

theorem Told.sums {bs q : List Nat} {k u : Nat} (h : Told bs k 4 q u) (hu : u ≠ 0) : crc bs ≠ crc q := by
  obtain ⟨W, h1, h2, h3⟩ := h.word
  intro e
  rw [← e] at h2
  have h4 : stps (8 * (bs.length - k)) W = 0 := by
    have h5 : crc bs ^^^ 0 = crc bs ^^^ stps (8 * (bs.length - k)) W := by
      rw [Nat.xor_zero, Nat.xor_comm]; exact h2
    exact (xor_cancel h5).symm
  exact h3 hu (stps_zero_iff _ (show W < 4294967296 by omega) h4)

theorem fnv_set {bs : List Nat} (hb : ∀ b ∈ bs, b < 256) {pos y : Nat} (hp : pos < bs.length) (hy : y < 256) (hne : y ≠ bs.getD pos 0) {g : Nat} (hg : g < 18446744073709551616) : marks g bs ≠ marks g (bs.set pos y) := by
  have e1 : bs = bs.take pos ++ bs.getD pos 0 :: bs.drop (pos + 1) := by
    rw [← drop_at hp, List.take_append_drop]
  have e2 : bs.set pos y = bs.take pos ++ y :: bs.drop (pos + 1) := by
    rw [List.set_eq_take_append_cons_drop, if_pos hp]
  have h1 : marks g bs = marks (mark1 (marks g (bs.take pos)) (bs.getD pos 0)) (bs.drop (pos + 1)) := by
    have := congrArg (marks g) e1
    rw [this, marks_append, marks_cons]
  have h2 : marks g (bs.set pos y) = marks (mark1 (marks g (bs.take pos)) y) (bs.drop (pos + 1)) := by
    rw [e2, marks_append, marks_cons]
  rw [h1, h2]
  intro e
  have h3 := marks_inj (bs.drop (pos + 1)) (fun b hb' => hb b (List.mem_of_mem_drop hb')) (mark1_lt _ _) (mark1_lt _ _) e
  exact hne (mark1_inj (marks_lt hg _) (getD_lt hb hp) hy h3).symm

theorem Told.marks {bs q : List Nat} {k u : Nat} (h : Told bs k 4 q u) (hb : ∀ b ∈ bs, b < 256) (hu : u = 1) : marks fnv0 bs ≠ Go.Proofs.YtlcepoomjnpfpabDoor.marks fnv0 q := by
  obtain ⟨pos, y, h1, h2, h3, h4⟩ := h.one hu
  rw [h4]
  exact fnv_set hb h1 h2 h3 (by unfold fnv0; omega)
end Go.Proofs.YtlcepoomjnpfpabDoor
