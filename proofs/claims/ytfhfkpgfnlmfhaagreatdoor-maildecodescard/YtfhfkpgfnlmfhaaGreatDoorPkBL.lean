/- A text of the base. -/
import Derived.Test.YtfhfkpgfnlmfhaaGreatDoorPkT
import Derived.Laws.BitsAllLaws
/- Turned bytes: what they make of a sum (plain arithmetic). -/
namespace Go.Proofs.YtfhfkpgfnlmfhaaGreatDoor
open Go Go.RowKit

/-- the sum of the low bits, one bit more -/
theorem low_succ (r k : Nat) : r % 2 ^ (k + 1) = (r % 2 ^ k) ^^^ (if r / 2 ^ k % 2 = 1 then 2 ^ k else 0) := by
  apply Nat.eq_of_testBit_eq
  intro i
  rw [Nat.testBit_xor, Nat.testBit_mod_two_pow, Nat.testBit_mod_two_pow]
  have hb : r.testBit k = decide (r / 2 ^ k % 2 = 1) := by
    rw [Nat.testBit_eq_decide_div_mod_eq]
  by_cases hk : r / 2 ^ k % 2 = 1
  · rw [if_pos hk, Nat.testBit_two_pow]
    rcases Nat.lt_trichotomy i k with h | h | h
    · simp [h, show i < k + 1 by omega, show ¬ (k = i) by omega]
    · subst h; simp [hb, hk]
    · simp [show ¬ i < k by omega, show ¬ i < k + 1 by omega, show ¬ (k = i) by omega]
  · rw [if_neg hk, Nat.zero_testBit]
    rcases Nat.lt_trichotomy i k with h | h | h
    · simp [h, show i < k + 1 by omega]
    · subst h; simp [hb, hk]
    · simp [show ¬ i < k by omega, show ¬ i < k + 1 by omega]

/-- the steps of the low bits, one bit more -/
theorem stps_low (m r k : Nat) : stps m (r % 2 ^ (k + 1)) = stps m (r % 2 ^ k) ^^^ (if r / 2 ^ k % 2 = 1 then stps m (2 ^ k) else 0) := by
  rw [low_succ, stps_xor]
  split
  · rfl
  · rw [stps_zero]

/-- where the steps leave each single bit as it was, they leave each register as it was -/
theorem stps_still (m : Nat) (h : ∀ i, i < 32 → stps m (2 ^ i) = 2 ^ i) {r : Nat} (hr : r < 4294967296) : stps m r = r := by
  have key : ∀ k, k ≤ 32 → stps m (r % 2 ^ k) = r % 2 ^ k := by
    intro k
    induction k with
    | zero => intro _; simp [Nat.mod_one, stps_zero]
    | succ k ih =>
      intro hk
      rw [stps_low, ih (by omega), h k (by omega), ← low_succ]
  have := key 32 (by omega)
  rwa [Nat.mod_eq_of_lt (show r < 2 ^ 32 by omega)] at this

/-- the product of registers as polynomials, as the loop reckons it: j rounds are left -/
def tms : Nat → Nat → Nat → Nat → Nat
  | 0, _, _, out => out
  | j + 1, a, b, out => tms j (a * 2 % 4294967296) (stp b) (if a / 2147483648 = 1 then out ^^^ b else out)

theorem stp_pow (j : Nat) : stp (2 ^ (j + 1)) = 2 ^ j := by
  unfold stp
  rw [if_neg (by rw [Nat.pow_succ]; omega), Nat.pow_succ]
  omega

theorem tms_part (m : Nat) : ∀ (j : Nat), j ≤ 32 → ∀ (c b out : Nat), c < 2 ^ j → (∀ i, j = i + 1 → b = stps m (2 ^ i)) →
    tms j (c * 2 ^ (32 - j)) b out = out ^^^ stps m c := by
  intro j
  induction j with
  | zero =>
    intro _ c b out hc _
    have h0 : c = 0 := by simpa using hc
    subst h0
    simp [tms, stps_zero]
  | succ j ih =>
    intro hj c b out hc hb
    have hb0 := hb j rfl
    subst hb0
    have e1 : c * 2 ^ (32 - (j + 1)) / 2147483648 = c / 2 ^ j := by
      have : (2147483648 : Nat) = 2 ^ j * 2 ^ (32 - (j + 1)) := by
        rw [← Nat.pow_add, show j + (32 - (j + 1)) = 31 by omega]
      rw [this, Nat.mul_div_mul_right _ _ (Nat.two_pow_pos _)]
    have e2 : c * 2 ^ (32 - (j + 1)) * 2 % 4294967296 = (c % 2 ^ j) * 2 ^ (32 - j) := by
      have h1 : c * 2 ^ (32 - (j + 1)) * 2 = c * 2 ^ (32 - j) := by
        rw [Nat.mul_assoc, ← Nat.pow_succ, show (32 - (j + 1)).succ = 32 - j by omega]
      have h2 : (4294967296 : Nat) = 2 ^ j * 2 ^ (32 - j) := by
        rw [← Nat.pow_add, show j + (32 - j) = 32 by omega]
      rw [h1, h2, Nat.mul_mod_mul_right]
    have e3 : c / 2 ^ j % 2 = c / 2 ^ j := by
      apply Nat.mod_eq_of_lt
      rw [Nat.div_lt_iff_lt_mul (Nat.two_pow_pos _)]
      rw [Nat.pow_succ] at hc; omega
    have e4 : stps m c = stps m (c % 2 ^ j) ^^^ (if c / 2 ^ j = 1 then stps m (2 ^ j) else 0) := by
      have := stps_low m c j
      rw [e3, Nat.mod_eq_of_lt hc] at this
      exact this
    rw [tms, e1, e2, ih (by omega) _ _ _ (Nat.mod_lt _ (Nat.two_pow_pos _)), e4]
    · split
      · rw [Nat.xor_assoc, Nat.xor_comm (stps m (2 ^ j))]
      · simp
    · intro i hi
      subst hi
      rw [← stps_one, stps_comm, stps_one, stp_pow]

/-- the product with m steps of 1 is m steps -/
theorem tms_all (m : Nat) {a : Nat} (ha : a < 4294967296) : tms 32 a (stps m 2147483648) 0 = stps m a := by
  have := tms_part m 32 (by omega) a (stps m 2147483648) 0 (by omega) (by
    intro i hi
    obtain rfl : i = 31 := by omega
    rfl)
  simpa using this

/-- one step back -/
def unst (v : Nat) : Nat := if v / 2147483648 = 1 then ((v ^^^ 2197175160) * 2 % 4294967296) ||| 1 else v * 2 % 4294967296
def unsts : Nat → Nat → Nat
  | 0, v => v
  | n + 1, v => unsts n (unst v)
theorem unst_lt (v : Nat) : unst v < 4294967296 := by
  unfold unst
  split
  · exact Nat.or_lt_two_pow (n := 32) (by omega) (by omega)
  · omega
theorem xor_swap (a b c : Nat) : a ^^^ b ^^^ c = a ^^^ c ^^^ b := by rw [Nat.xor_assoc, Nat.xor_comm b, ← Nat.xor_assoc]
theorem xor_self_right (a b : Nat) : a ^^^ b ^^^ b = a := by rw [Nat.xor_assoc, Nat.xor_self, Nat.xor_zero]
theorem xor_cancel {a b c : Nat} (h : a ^^^ b = a ^^^ c) : b = c := by
  have := congrArg (a ^^^ ·) h
  simpa [← Nat.xor_assoc] using this
theorem cpl_cpl (a : Nat) : cpl (cpl a) = a := xor_self_right _ _
theorem cpl_xor (a b : Nat) : cpl (a ^^^ b) = cpl a ^^^ b := xor_swap _ _ _

theorem take1_xor (v d b : Nat) : take1 (v ^^^ d) b = take1 v b ^^^ stps 8 d := by
  unfold take1
  rw [xor_swap, stps_xor]
theorem takes_xor (bs : List Nat) : ∀ v d : Nat, takes (v ^^^ d) bs = takes v bs ^^^ stps (8 * bs.length) d := by
  induction bs with
  | nil => intro v d; rw [takes_nil, takes_nil]; rfl
  | cons b bs ih =>
    intro v d
    rw [takes_cons, takes_cons, take1_xor, ih, List.length_cons, show 8 * (bs.length + 1) = 8 + 8 * bs.length by omega, stps_add]
theorem take1_byte (v b d : Nat) : take1 v (b ^^^ d) = take1 v b ^^^ stps 8 d := by
  unfold take1
  rw [← Nat.xor_assoc, stps_xor]

/-- a byte is turned -/
theorem crc_turn (l r : List Nat) (x d : Nat) : crc (l ++ (x ^^^ d) :: r) = stps (8 * r.length) (stps 8 d) ^^^ crc (l ++ x :: r) := by
  unfold crc grown
  rw [takes_append, takes_append, takes_cons, takes_cons, take1_byte, takes_xor, cpl_xor, Nat.xor_comm]

/-- two texts one behind the other -/
theorem crc_join (a b : List Nat) : crc (a ++ b) = stps (8 * b.length) (crc a) ^^^ crc b := by
  have e : takes (cpl 0) a = cpl 0 ^^^ crc a := by
    unfold crc grown
    have : ∀ x, cpl 0 ^^^ cpl x = x := by
      intro x
      unfold cpl
      rw [Nat.zero_xor, Nat.xor_comm x, ← Nat.xor_assoc, Nat.xor_self, Nat.zero_xor]
    rw [this]
  have h : crc (a ++ b) = cpl (takes (takes (cpl 0) a) b) := by
    unfold crc grown; rw [takes_append]
  rw [h, e, takes_xor, cpl_xor, Nat.xor_comm]
  rfl

theorem grown_append (s : Nat) (a b : List Nat) : grown s (a ++ b) = grown (grown s a) b := by
  unfold grown
  rw [takes_append, cpl_cpl]

/-! steps undone -/
theorem stp_unst {v : Nat} (hv : v < 4294967296) : stp (unst v) = v := by
  unfold unst
  by_cases h : v / 2147483648 = 1
  · rw [if_pos h]
    have h1 : v ^^^ 2197175160 < 2 ^ 31 := by
      apply Nat.lt_pow_two_of_testBit
      intro i hi
      rw [Nat.testBit_xor]
      by_cases e : i = 31
      · subst e
        have a1 : v.testBit 31 = true := by
          rw [Nat.testBit_eq_decide_div_mod_eq]
          simp [h]
        have a2 : Nat.testBit 2197175160 31 = true := by decide
        rw [a1, a2]; rfl
      · have hp : (2 : Nat) ^ 32 ≤ 2 ^ i := Nat.pow_le_pow_right (by omega) (by omega)
        have a1 : v.testBit i = false := Nat.testBit_lt_two_pow (Nat.lt_of_lt_of_le (show v < 2 ^ 32 by omega) hp)
        have a2 : Nat.testBit 2197175160 i = false := Nat.testBit_lt_two_pow (Nat.lt_of_lt_of_le (show 2197175160 < 2 ^ 32 by omega) hp)
        rw [a1, a2]; rfl
    have h2 : v ^^^ 2197175160 ^^^ 2197175160 = v := xor_self_right _ _
    generalize v ^^^ 2197175160 = y at h1 h2
    have h3 : y * 2 % 4294967296 ||| 1 = y * 2 + 1 := by
      rw [show y * 2 % 4294967296 = y * 2 by omega]
      exact nat_join 1 (y * 2) 1 (by omega) (by omega)
    rw [h3]
    unfold stp
    rw [if_pos (by omega), show (y * 2 + 1) / 2 = y by omega]
    exact h2
  · rw [if_neg h, show v * 2 % 4294967296 = v * 2 by omega]
    unfold stp
    rw [if_neg (by omega)]
    omega
theorem stps_unsts (n : Nat) : ∀ {v : Nat}, v < 4294967296 → stps n (unsts n v) = v := by
  induction n with
  | zero => intro v _; rfl
  | succ n ih =>
    intro v hv
    rw [stps_succ', show unsts (n + 1) v = unsts n (unst v) from rfl, ih (unst_lt v), stp_unst hv]

theorem stp_zero_iff {v : Nat} (hv : v < 4294967296) (h : stp v = 0) : v = 0 := by
  unfold stp at h
  split at h
  · rename_i h1
    have h2 : v / 2 = 2197175160 := by
      have := congrArg (· ^^^ 2197175160) h
      simp only [xor_self_right, Nat.zero_xor] at this
      exact this
    omega
  · omega
theorem stps_zero_iff (n : Nat) : ∀ {v : Nat}, v < 4294967296 → stps n v = 0 → v = 0 := by
  induction n with
  | zero => intro v _ h; exact h
  | succ n ih => intro v hv h; exact stp_zero_iff hv (ih (stp_lt hv) h)
theorem xor_eq_zero {a b : Nat} (h : a ^^^ b = 0) : a = b := by
  have := congrArg (· ^^^ b) h
  simpa only [xor_self_right, Nat.zero_xor] using this
theorem stps_inj (n : Nat) {a b : Nat} (ha : a < 4294967296) (hb : b < 4294967296) (h : stps n a = stps n b) : a = b := by
  apply xor_eq_zero
  apply stps_zero_iff n (Nat.xor_lt_two_pow (n := 32) (by omega) (by omega))
  rw [stps_xor, h, Nat.xor_self]

/-! four bytes as one number -/
theorem stps8_high (x : Nat) : stps 8 (x * 256) = x := by
  rw [show (8 : Nat) = 4 + 4 from rfl, stps_add, show x * 256 = x * 16 * 16 by omega, stps4_high, stps4_high]
def word4 (b0 b1 b2 b3 : Nat) : Nat := b0 ^^^ (b1 * 256) ^^^ (b2 * 65536) ^^^ (b3 * 16777216)
theorem takes4 (v b0 b1 b2 b3 : Nat) : takes v [b0, b1, b2, b3] = stps 32 (v ^^^ word4 b0 b1 b2 b3) := by
  have s1 : stps 32 (b1 * 256) = stps 24 b1 := by rw [show (32 : Nat) = 8 + 24 from rfl, stps_add, stps8_high]
  have s2 : stps 32 (b2 * 65536) = stps 16 b2 := by rw [show (32 : Nat) = 8 + (8 + 16) from rfl, stps_add, stps_add, show b2 * 65536 = b2 * 256 * 256 by omega, stps8_high, stps8_high]
  have s3 : stps 32 (b3 * 16777216) = stps 8 b3 := by rw [show (32 : Nat) = 8 + (8 + (8 + 8)) from rfl, stps_add, stps_add, stps_add, show b3 * 16777216 = b3 * 256 * 256 * 256 by omega, stps8_high, stps8_high, stps8_high]
  have e16 : ∀ x, stps 8 (stps 8 x) = stps 16 x := by
    intro x; rw [← stps_add]
  have f1 : ∀ x, stps 8 (stps 24 x) = stps 32 x := by
    intro x; rw [← stps_add]
  have f2 : ∀ x, stps 8 (stps 16 x) = stps 24 x := by
    intro x; rw [← stps_add]
  rw [takes_cons, takes_cons, takes_cons, takes_cons, takes_nil]
  unfold take1 word4
  simp only [stps_xor, s1, s2, s3, e16, f1, f2, Nat.xor_assoc]

/-! marks undone -/
theorem xor_add {x y k : Nat} (hy : y < 2 ^ k) : x * 2 ^ k ^^^ y = x * 2 ^ k + y := by
  have h1 : x * 2 ^ k ^^^ y = x * 2 ^ k ||| y := by
    apply Nat.eq_of_testBit_eq
    intro i
    rw [Nat.testBit_xor, Nat.testBit_or, Nat.mul_comm, Nat.testBit_two_pow_mul]
    by_cases hi : k ≤ i
    · have : y.testBit i = false := Nat.testBit_lt_two_pow (Nat.lt_of_lt_of_le hy (Nat.pow_le_pow_right (by omega) hi))
      simp [this]
    · simp [hi]
  rw [h1]
  exact nat_join k (x * 2 ^ k) y (by simp) hy
theorem drop_at {bs : List Nat} {k : Nat} (hk : k < bs.length) : bs.drop k = bs.getD k 0 :: bs.drop (k + 1) := by
  rw [List.getD, List.getElem?_eq_getElem hk, Option.getD_some]
  exact List.drop_eq_getElem_cons hk
theorem crc_set {bs : List Nat} {k d : Nat} (hk : k < bs.length) : crc (bs.set k (bs.getD k 0 ^^^ d)) = stps (8 * (bs.length - 1 - k)) (stps 8 d) ^^^ crc bs := by
  have e1 : bs = bs.take k ++ bs.getD k 0 :: bs.drop (k + 1) := by
    rw [← drop_at hk, List.take_append_drop]
  have e2 : bs.set k (bs.getD k 0 ^^^ d) = bs.take k ++ (bs.getD k 0 ^^^ d) :: bs.drop (k + 1) := by
    rw [List.set_eq_take_append_cons_drop, if_pos hk]
  have e3 : (bs.drop (k + 1)).length = bs.length - 1 - k := by rw [List.length_drop]; omega
  rw [e2, crc_turn, e3]
  exact congrArg (fun l => stps (8 * (bs.length - 1 - k)) (stps 8 d) ^^^ crc l) e1.symm
theorem set_bytes {bs : List Nat} (h : ∀ b ∈ bs, b < 256) {k y : Nat} (hy : y < 256) : ∀ b ∈ bs.set k y, b < 256 := by
  intro b hb
  rcases List.mem_or_eq_of_mem_set hb with h1 | h1
  · exact h b h1
  · omega
theorem stps_pow256 (i : Nat) : ∀ x : Nat, stps (8 * i) (x * 256 ^ i) = x := by
  induction i with
  | zero => intro x; simp [stps]
  | succ i ih =>
    intro x
    rw [show 8 * (i + 1) = 8 + 8 * i by omega, stps_add, Nat.pow_succ, ← Nat.mul_assoc, stps8_high, ih]

/-- how far the turning has come: i bytes are looked at; q is the text, u tells how many of its bytes are unlike -/
structure Told (bs : List Nat) (k i : Nat) (q : List Nat) (u : Nat) : Prop where
  len : q.length = bs.length
  byte : ∀ b ∈ q, b < 256
  least : u ≤ i
  none : u = 0 → q = bs
  one : u = 1 → ∃ pos y, pos < bs.length ∧ y < 256 ∧ y ≠ bs.getD pos 0 ∧ q = bs.set pos y
  word : ∃ W, W < 256 ^ i ∧ crc q = stps (8 * (bs.length - k)) W ^^^ crc bs ∧ (u ≠ 0 → W ≠ 0)

theorem Told.start {bs : List Nat} (hb : ∀ b ∈ bs, b < 256) (k : Nat) : Told bs k 0 bs 0 :=
  ⟨rfl, hb, Nat.le_refl _, fun _ => rfl, fun h => by omega, 0, by simp, by rw [stps_zero, Nat.zero_xor], fun h => absurd rfl h⟩

theorem Told.skip {bs q : List Nat} {k i u : Nat} (h : Told bs k i q u) : Told bs k (i + 1) q u := by
  obtain ⟨W, h1, h2, h3⟩ := h.word
  refine ⟨h.len, h.byte, by have := h.least; omega, h.none, h.one, W, ?_, h2, h3⟩
  exact Nat.lt_of_lt_of_le h1 (Nat.pow_le_pow_right (by omega) (by omega))

theorem set_same {q : List Nat} {p : Nat} (hp : p < q.length) : q.set p (q.getD p 0) = q := by
  rw [List.getD, List.getElem?_eq_getElem hp, Option.getD_some, List.set_getElem_self]

theorem Told.zero {bs q : List Nat} {k i u : Nat} (h : Told bs k i q u) (hp : k + i < bs.length) : Told bs k (i + 1) (q.set (k + i) (q.getD (k + i) 0 ^^^ 0)) u := by
  rw [Nat.xor_zero, set_same (by rw [h.len]; exact hp)]
  exact h.skip

theorem Told.turn {bs q : List Nat} {k i u d : Nat} (h : Told bs k i q u) (hb : ∀ b ∈ bs, b < 256) (hp : k + i < bs.length) (hd : d < 256) (hd0 : d ≠ 0) :
    Told bs k (i + 1) (q.set (k + i) (q.getD (k + i) 0 ^^^ d)) (u + 1) := by
  have hq : k + i < q.length := by rw [h.len]; exact hp
  have hx : q.getD (k + i) 0 < 256 := getD_lt8 h.byte hq
  have hy : q.getD (k + i) 0 ^^^ d < 256 := Nat.xor_lt_two_pow (n := 8) hx hd
  obtain ⟨W, h1, h2, h3⟩ := h.word
  refine ⟨by rw [List.length_set]; exact h.len, set_bytes h.byte hy, by have := h.least; omega, fun h => by omega, fun h4 => ?_, ?_⟩
  · have h5 : q = bs := h.none (by omega)
    subst h5
    refine ⟨k + i, _, hp, hy, fun e => hd0 ?_, rfl⟩
    have e2 : q.getD (k + i) 0 ^^^ d = q.getD (k + i) 0 ^^^ 0 := by rw [Nat.xor_zero]; exact e
    exact xor_cancel e2
  · have hpw : 256 ^ i = 2 ^ (8 * i) := by rw [Nat.pow_mul]
    have hadd : d * 256 ^ i ^^^ W = d * 256 ^ i + W := by
      rw [hpw]; exact xor_add (by rw [← hpw]; exact h1)
    refine ⟨d * 256 ^ i ^^^ W, ?_, ?_, fun _ e => ?_⟩
    · rw [hadd, Nat.pow_succ]
      have h6 : d * 256 ^ i ≤ 255 * 256 ^ i := Nat.mul_le_mul_right _ (by omega)
      have h7 : 0 < 256 ^ i := Nat.pow_pos (by omega)
      generalize 256 ^ i = z at h1 h6 h7
      omega
    · have e1 : stps (8 * (bs.length - k)) (d * 256 ^ i) = stps (8 * (q.length - 1 - (k + i))) (stps 8 d) := by
        rw [show 8 * (bs.length - k) = 8 * i + (8 + 8 * (q.length - 1 - (k + i))) by rw [h.len]; omega, stps_add, stps_pow256, stps_add]
      rw [crc_set hq, h2, stps_xor, e1, Nat.xor_assoc]
    · rw [hadd] at e
      have h7 : 0 < 256 ^ i := Nat.pow_pos (by omega)
      have h8 : 0 < d * 256 ^ i := Nat.mul_pos (by omega) h7
      omega

theorem Told.sums {bs q : List Nat} {k u : Nat} (h : Told bs k 4 q u) (hu : u ≠ 0) : crc bs ≠ crc q := by
  obtain ⟨W, h1, h2, h3⟩ := h.word
  intro e
  rw [← e] at h2
  have h4 : stps (8 * (bs.length - k)) W = 0 := by
    have h5 : crc bs ^^^ 0 = crc bs ^^^ stps (8 * (bs.length - k)) W := by
      rw [Nat.xor_zero, Nat.xor_comm]; exact h2
    exact (xor_cancel h5).symm
  exact h3 hu (stps_zero_iff _ (show W < 4294967296 by omega) h4)
end Go.Proofs.YtfhfkpgfnlmfhaaGreatDoor
