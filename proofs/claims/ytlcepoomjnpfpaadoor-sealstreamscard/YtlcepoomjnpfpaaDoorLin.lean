/- Plain arithmetic: what a turned byte does to a sum; four bytes as one number; steps undone; marks undone. -/
import Derived.Test.YtlcepoomjnpfpaaDoorMark
namespace Go.Proofs.YtlcepoomjnpfpaaDoor

theorem xor_swap (a b c : Nat) : a ^^^ b ^^^ c = a ^^^ c ^^^ b := by rw [Nat.xor_assoc, Nat.xor_comm b, ← Nat.xor_assoc]
theorem xor_self_right (a b : Nat) : a ^^^ b ^^^ b = a := by rw [Nat.xor_assoc, Nat.xor_self, Nat.xor_zero]
theorem xor_cancel {a b c : Nat} (h : a ^^^ b = a ^^^ c) : b = c := by
  have := congrArg (a ^^^ ·) h
  simpa [← Nat.xor_assoc] using this
theorem cpl_cpl (a : Nat) : cpl (cpl a) = a := xor_self_right _ _
theorem cpl_xor (a b : Nat) : cpl (a ^^^ b) = cpl a ^^^ b := xor_swap _ _ _

theorem take1_xor (v d b : Nat) : take1 (v ^^^ d) b = take1 v b ^^^ stps 8 d := by
  unfold take1
  rw [xor_swap, stps_xor]
theorem takes_xor (bs : List Nat) : ∀ v d : Nat, takes (v ^^^ d) bs = takes v bs ^^^ stps (8 * bs.length) d := by
  induction bs with
  | nil => intro v d; rw [takes_nil, takes_nil]; rfl
  | cons b bs ih =>
    intro v d
    rw [takes_cons, takes_cons, take1_xor, ih, List.length_cons, show 8 * (bs.length + 1) = 8 + 8 * bs.length by omega, stps_add]
theorem take1_byte (v b d : Nat) : take1 v (b ^^^ d) = take1 v b ^^^ stps 8 d := by
  unfold take1
  rw [← Nat.xor_assoc, stps_xor]

/-- a byte is turned -/
theorem crc_turn (l r : List Nat) (x d : Nat) : crc (l ++ (x ^^^ d) :: r) = stps (8 * r.length) (stps 8 d) ^^^ crc (l ++ x :: r) := by
  unfold crc grown
  rw [takes_append, takes_append, takes_cons, takes_cons, take1_byte, takes_xor, cpl_xor, Nat.xor_comm]

/-- two texts one behind the other -/
theorem crc_join (a b : List Nat) : crc (a ++ b) = stps (8 * b.length) (crc a) ^^^ crc b := by
  have e : takes (cpl 0) a = cpl 0 ^^^ crc a := by
    unfold crc grown
    have : ∀ x, cpl 0 ^^^ cpl x = x := by
      intro x
      unfold cpl
      rw [Nat.zero_xor, Nat.xor_comm x, ← Nat.xor_assoc, Nat.xor_self, Nat.zero_xor]
    rw [this]
  have h : crc (a ++ b) = cpl (takes (takes (cpl 0) a) b) := by
    unfold crc grown; rw [takes_append]
  rw [h, e, takes_xor, cpl_xor, Nat.xor_comm]
  rfl

theorem grown_append (s : Nat) (a b : List Nat) : grown s (a ++ b) = grown (grown s a) b := by
  unfold grown
  rw [takes_append, cpl_cpl]

/-! steps undone -/
theorem stp_unst {v : Nat} (hv : v < 4294967296) : stp (unst v) = v := by
  unfold unst
  by_cases h : v / 2147483648 = 1
  · rw [if_pos h]
    have h1 : v ^^^ 2197175160 < 2 ^ 31 := by
      apply Nat.lt_pow_two_of_testBit
      intro i hi
      rw [Nat.testBit_xor]
      by_cases e : i = 31
      · subst e
        have a1 : v.testBit 31 = true := by
          rw [Nat.testBit_eq_decide_div_mod_eq]
          simp [h]
        have a2 : Nat.testBit 2197175160 31 = true := by decide
        rw [a1, a2]; rfl
      · have hp : (2 : Nat) ^ 32 ≤ 2 ^ i := Nat.pow_le_pow_right (by omega) (by omega)
        have a1 : v.testBit i = false := Nat.testBit_lt_two_pow (Nat.lt_of_lt_of_le (show v < 2 ^ 32 by omega) hp)
        have a2 : Nat.testBit 2197175160 i = false := Nat.testBit_lt_two_pow (Nat.lt_of_lt_of_le (show 2197175160 < 2 ^ 32 by omega) hp)
        rw [a1, a2]; rfl
    have h2 : v ^^^ 2197175160 ^^^ 2197175160 = v := xor_self_right _ _
    generalize v ^^^ 2197175160 = y at h1 h2
    have h3 : y * 2 % 4294967296 ||| 1 = y * 2 + 1 := by
      rw [show y * 2 % 4294967296 = y * 2 by omega]
      exact nat_join 1 (y * 2) 1 (by omega) (by omega)
    rw [h3]
    unfold stp
    rw [if_pos (by omega), show (y * 2 + 1) / 2 = y by omega]
    exact h2
  · rw [if_neg h, show v * 2 % 4294967296 = v * 2 by omega]
    unfold stp
    rw [if_neg (by omega)]
    omega
theorem stps_unsts (n : Nat) : ∀ {v : Nat}, v < 4294967296 → stps n (unsts n v) = v := by
  induction n with
  | zero => intro v _; rfl
  | succ n ih =>
    intro v hv
    rw [stps_succ', show unsts (n + 1) v = unsts n (unst v) from rfl, ih (unst_lt v), stp_unst hv]

theorem stp_zero_iff {v : Nat} (hv : v < 4294967296) (h : stp v = 0) : v = 0 := by
  unfold stp at h
  split at h
  · rename_i h1
    have h2 : v / 2 = 2197175160 := by
      have := congrArg (· ^^^ 2197175160) h
      simp only [xor_self_right, Nat.zero_xor] at this
      exact this
    omega
  · omega
theorem stps_zero_iff (n : Nat) : ∀ {v : Nat}, v < 4294967296 → stps n v = 0 → v = 0 := by
  induction n with
  | zero => intro v _ h; exact h
  | succ n ih => intro v hv h; exact stp_zero_iff hv (ih (stp_lt hv) h)
theorem xor_eq_zero {a b : Nat} (h : a ^^^ b = 0) : a = b := by
  have := congrArg (· ^^^ b) h
  simpa only [xor_self_right, Nat.zero_xor] using this
theorem stps_inj (n : Nat) {a b : Nat} (ha : a < 4294967296) (hb : b < 4294967296) (h : stps n a = stps n b) : a = b := by
  apply xor_eq_zero
  apply stps_zero_iff n (Nat.xor_lt_two_pow (n := 32) (by omega) (by omega))
  rw [stps_xor, h, Nat.xor_self]

/-! four bytes as one number -/
theorem stps8_high (x : Nat) : stps 8 (x * 256) = x := by
  rw [show (8 : Nat) = 4 + 4 from rfl, stps_add, show x * 256 = x * 16 * 16 by omega, stps4_high, stps4_high]
def word4 (b0 b1 b2 b3 : Nat) : Nat := b0 ^^^ (b1 * 256) ^^^ (b2 * 65536) ^^^ (b3 * 16777216)
theorem takes4 (v b0 b1 b2 b3 : Nat) : takes v [b0, b1, b2, b3] = stps 32 (v ^^^ word4 b0 b1 b2 b3) := by
  have s1 : stps 32 (b1 * 256) = stps 24 b1 := by rw [show (32 : Nat) = 8 + 24 from rfl, stps_add, stps8_high]
  have s2 : stps 32 (b2 * 65536) = stps 16 b2 := by rw [show (32 : Nat) = 8 + (8 + 16) from rfl, stps_add, stps_add, show b2 * 65536 = b2 * 256 * 256 by omega, stps8_high, stps8_high]
  have s3 : stps 32 (b3 * 16777216) = stps 8 b3 := by rw [show (32 : Nat) = 8 + (8 + (8 + 8)) from rfl, stps_add, stps_add, stps_add, show b3 * 16777216 = b3 * 256 * 256 * 256 by omega, stps8_high, stps8_high, stps8_high]
  have e16 : ∀ x, stps 8 (stps 8 x) = stps 16 x := by
    intro x; rw [← stps_add]
  have f1 : ∀ x, stps 8 (stps 24 x) = stps 32 x := by
    intro x; rw [← stps_add]
  have f2 : ∀ x, stps 8 (stps 16 x) = stps 24 x := by
    intro x; rw [← stps_add]
  rw [takes_cons, takes_cons, takes_cons, takes_cons, takes_nil]
  unfold take1 word4
  simp only [stps_xor, s1, s2, s3, e16, f1, f2, Nat.xor_assoc]

/-! marks undone -/
theorem inv_once : 1099511628211 * 14886173955864302971 % 18446744073709551616 = 1 := by decide
theorem inv_mul {x : Nat} (hx : x < 18446744073709551616) : x * 1099511628211 % 18446744073709551616 * 14886173955864302971 % 18446744073709551616 = x := by
  rw [Nat.mod_mul_mod, Nat.mul_assoc, Nat.mul_mod, inv_once, Nat.mul_one, Nat.mod_mod, Nat.mod_eq_of_lt hx]
theorem back_mark1 {h b : Nat} (hh : h < 18446744073709551616) (hb : b < 256) : back1 b (mark1 h b) = h := by
  unfold back1 mark1
  rw [inv_mul (Nat.xor_lt_two_pow (n := 64) (by omega) (by omega)), xor_self_right]
theorem backs_marks (bs : List Nat) (hb : ∀ b ∈ bs, b < 256) : ∀ {h : Nat}, h < 18446744073709551616 → backs (marks h bs) bs = h := by
  induction bs with
  | nil => intro h _; rfl
  | cons b bs ih =>
    intro h hh
    rw [marks_cons, backs_cons, ih (fun x hx => hb x (by simp [hx])) (mark1_lt _ _), back_mark1 hh (hb b (by simp))]
theorem marks_inj (bs : List Nat) (hb : ∀ b ∈ bs, b < 256) {g h : Nat} (hg : g < 18446744073709551616) (hh : h < 18446744073709551616) (e : marks g bs = marks h bs) : g = h := by
  have := congrArg (fun x => backs x bs) e
  simpa only [backs_marks bs hb hg, backs_marks bs hb hh] using this
theorem mark1_inj {h b c : Nat} (hh : h < 18446744073709551616) (hb : b < 256) (hc : c < 256) (e : mark1 h b = mark1 h c) : b = c := by
  unfold mark1 at e
  have h1 := inv_mul (Nat.xor_lt_two_pow (n := 64) (show h < 2 ^ 64 by omega) (show b < 2 ^ 64 by omega))
  have h2 := inv_mul (Nat.xor_lt_two_pow (n := 64) (show h < 2 ^ 64 by omega) (show c < 2 ^ 64 by omega))
  rw [e, h2] at h1
  exact (xor_cancel h1).symm
end Go.Proofs.YtlcepoomjnpfpaaDoor
