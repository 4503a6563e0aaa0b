/- Plain arithmetic: the four bytes behind a text. -/
import Derived.Test.YtlcepoomjnpfpabDoorLin
namespace Go.Proofs.YtlcepoomjnpfpabDoor

theorem xor_add {x y k : Nat} (hy : y < 2 ^ k) : x * 2 ^ k ^^^ y = x * 2 ^ k + y := by
  have h1 : x * 2 ^ k ^^^ y = x * 2 ^ k ||| y := by
    apply Nat.eq_of_testBit_eq
    intro i
    rw [Nat.testBit_xor, Nat.testBit_or, Nat.mul_comm, Nat.testBit_two_pow_mul]
    by_cases hi : k ≤ i
    · have : y.testBit i = false := Nat.testBit_lt_two_pow (Nat.lt_of_lt_of_le hy (Nat.pow_le_pow_right (by omega) hi))
      simp [this]
    · simp [hi]
  rw [h1]
  exact nat_join k (x * 2 ^ k) y (by simp) hy
theorem word4_sum {b0 b1 b2 b3 : Nat} (h0 : b0 < 256) (h1 : b1 < 256) (h2 : b2 < 256) : word4 b0 b1 b2 b3 = b0 + b1 * 256 + b2 * 65536 + b3 * 16777216 := by
  unfold word4
  have e1 := xor_add (x := b1) (y := b0) (k := 8) (by omega)
  have e2 := xor_add (x := b2) (y := b1 * 256 + b0) (k := 16) (by omega)
  have e3 := xor_add (x := b3) (y := b2 * 65536 + (b1 * 256 + b0)) (k := 24) (by omega)
  simp only [show (2 : Nat) ^ 8 = 256 by rfl, show (2 : Nat) ^ 16 = 65536 by rfl, show (2 : Nat) ^ 24 = 16777216 by rfl] at e1 e2 e3
  rw [Nat.xor_comm b0, e1, Nat.xor_comm _ (b2 * 65536), e2, Nat.xor_comm _ (b3 * 16777216), e3]
  omega

theorem crc4 (bs : List Nat) (b0 b1 b2 b3 : Nat) : crc (bs ++ [b0, b1, b2, b3]) = cpl (stps 32 (cpl (crc bs) ^^^ word4 b0 b1 b2 b3)) := by
  have h : cpl (crc bs) = takes (cpl 0) bs := by unfold crc grown; rw [cpl_cpl]
  rw [h]
  unfold crc grown
  rw [takes_append, takes4]

/-- the bytes of a number -/
def tb (x : Nat) : List Nat := [x % 256, x / 256 % 256, x / 65536 % 256, x / 16777216]
theorem tb_word {x : Nat} : word4 (x % 256) (x / 256 % 256) (x / 65536 % 256) (x / 16777216) = x := by
  rw [word4_sum (by omega) (by omega) (by omega)]
  omega
theorem tb_bytes {x : Nat} (hx : x < 4294967296) : ∀ b ∈ tb x, b < 256 := by
  intro b hb
  simp only [tb, List.mem_cons, List.not_mem_nil, or_false] at hb
  omega

theorem tailWord_lt {a b : Nat} (ha : a < 4294967296) (hb : b < 4294967296) : tailWord a b < 4294967296 := Nat.xor_lt_two_pow (n := 32) (cpl_lt ha) (unsts_lt 32 (cpl_lt hb))

theorem forged (bs : List Nat) {want : Nat} (hw : want < 4294967296) : crc (bs ++ tb (tailWord (crc bs) want)) = want := by
  unfold tb
  rw [crc4, tb_word]
  unfold tailWord
  rw [← Nat.xor_assoc, Nat.xor_self, Nat.zero_xor, stps_unsts 32 (cpl_lt hw), cpl_cpl]

theorem forged_only {bs : List Nat} (hb : crc bs < 4294967296) {want : Nat} (hw : want < 4294967296) {o0 o1 o2 o3 : Nat} (h0 : o0 < 256) (h1 : o1 < 256) (h2 : o2 < 256) (h3 : o3 < 256)
    (h : crc (bs ++ [o0, o1, o2, o3]) = want) : [o0, o1, o2, o3] = tb (tailWord (crc bs) want) := by
  have e := h.trans (forged bs hw).symm
  unfold tb at e
  rw [crc4, crc4, tb_word] at e
  have e2 := congrArg cpl e
  rw [cpl_cpl, cpl_cpl] at e2
  have hs := word4_sum (b3 := o3) h0 h1 h2
  have hl : word4 o0 o1 o2 o3 < 4294967296 := by omega
  have e3 := stps_inj 32 (Nat.xor_lt_two_pow (n := 32) (cpl_lt hb) hl) (Nat.xor_lt_two_pow (n := 32) (cpl_lt hb) (tailWord_lt hb hw)) e2
  have e4 := xor_cancel e3
  rw [hs] at e4
  unfold tb
  rw [← e4]
  simp
  omega
end Go.Proofs.YtlcepoomjnpfpabDoor
