/- The jump in plain numbers: a quotient and a product of real numbers of 53 bits, and what they come to. -/
import Derived.Laws.FloatArith
namespace Go.Proofs.Ytiafnfjgmfnnoab
open Go Ieee

/-- the whole number nearest to X / d, of two the even one -/
def rhd (X d : Nat) : Nat := X / d + (if d < 2 * (X % d) ∨ (d = 2 * (X % d) ∧ X / d % 2 = 1) then 1 else 0)

theorem rhd_ge (X d : Nat) : X / d ≤ rhd X d := Nat.le_add_right _ _
theorem rhd_le (X d : Nat) : rhd X d ≤ X / d + 1 := by unfold rhd; split <;> omega

theorem rhd_scale (a X d : Nat) (ha : 0 < a) : rhd (a * X) (a * d) = rhd X d := by
  have h1 : (a * d < 2 * (a * (X % d))) ↔ (d < 2 * (X % d)) := by
    rw [Nat.mul_left_comm]; exact Nat.mul_lt_mul_left ha
  have h2 : (a * d = 2 * (a * (X % d))) ↔ (d = 2 * (X % d)) := by
    rw [Nat.mul_left_comm]; exact Nat.mul_right_inj (by omega)
  unfold rhd
  rw [Nat.mul_div_mul_left _ _ ha, Nat.mul_mod_mul_left]
  simp only [h1, h2]

theorem cut_even (neg : Bool) (n k : Nat) (h : k ≤ n.log2 + 2) : Toward.even.cut neg n k = rhd n (2 ^ k) := by
  unfold Toward.cut rhd
  simp only [Nat.min_eq_left h, Nat.shiftLeft_eq, Nat.one_mul]
  by_cases h1 : 2 ^ k < 2 * (n % 2 ^ k)
  · simp [h1]
  · by_cases h2 : 2 ^ k = 2 * (n % 2 ^ k)
    · by_cases h3 : n / 2 ^ k % 2 = 1 <;> simp [← h2, h3]
    · simp [h1, h2]

theorem log2_of {n k : Nat} (h1 : 2 ^ k ≤ n) (h2 : n < 2 ^ (k + 1)) : n.log2 = k :=
  (Nat.log2_eq_iff (by have := Nat.two_pow_pos k; omega)).2 ⟨h1, h2⟩

/-- a number of 53 bits at a place e, as a word -/
def wd (m : Nat) (e : Int) : Nat := (e + 1074).toNat * 2 ^ 52 + m

theorem read_wd {m : Nat} {e : Int} (h1 : 2 ^ 52 ≤ m) (h2 : m < 2 ^ 53) (h3 : -1074 ≤ e) (h4 : e ≤ 900) : double.read (wd m e) = .number false m e := by
  obtain ⟨k, rfl⟩ : ∃ k : Nat, e = (k : Int) - 1074 := ⟨(e + 1074).toNat, by omega⟩
  have hk : k ≤ 1974 := by omega
  have e1 : wd m ((k : Int) - 1074) = k * 2 ^ 52 + m := by
    unfold wd
    have : ((k : Int) - 1074 + 1074).toNat = k := by omega
    rw [this]
  rw [e1]
  have hb : k * 2 ^ 52 + m < 2 ^ 63 := by omega
  have hd : (k * 2 ^ 52 + m) / 2 ^ 52 = k + 1 := by omega
  have hm : (k * 2 ^ 52 + m) % 2 ^ 52 = m - 2 ^ 52 := by omega
  unfold Format.read
  have s1 : double.signWeight = 2 ^ 63 := rfl
  have s2 : double.binade = 2 ^ 52 := rfl
  have s3 : double.infRung = 2047 * 2 ^ 52 := rfl
  have s4 : double.leastPlace = -1074 := rfl
  simp only [s1, s2, s3, s4, Nat.mod_eq_of_lt hb, Nat.div_eq_of_lt hb, hd, hm]
  have c1 : ¬ (k * 2 ^ 52 + m < 2 ^ 52) := by omega
  have c2 : k * 2 ^ 52 + m < 2047 * 2 ^ 52 := by omega
  simp only [c1, c2, if_false, if_true]
  have e2 : 2 ^ 52 + (m - 2 ^ 52) = m := by omega
  have e3 : (-1074 : Int) + ((k + 1 - 1 : Nat) : Int) = (k : Int) - 1074 := by omega
  rw [e2, e3]
  rfl

/-- rounding up to 2^53 is the next place's least -/
theorem wd_carry {e : Int} (h3 : -1074 ≤ e) : wd (2 ^ 53) e = wd (2 ^ 52) (e + 1) := by
  unfold wd; omega

theorem nearest_big {mag : Nat} {place : Int} (h : 52 ≤ mag.log2) (h0 : mag ≠ 0) (h3 : -1074 ≤ place + (mag.log2 - 52 : Nat)) (h4 : place + (mag.log2 - 52 : Nat) ≤ 900) :
    double.nearest false mag place = wd (rhd mag (2 ^ (mag.log2 - 52))) (place + (mag.log2 - 52 : Nat)) := by
  have s2 : double.binade = 2 ^ 52 := rfl
  have s3 : double.infRung = 2047 * 2 ^ 52 := rfl
  have s4 : double.leastPlace = -1074 := rfl
  have s5 : double.fractionBits = 52 := rfl
  obtain ⟨k, hk⟩ : ∃ k, mag.log2 = k + 52 := ⟨mag.log2 - 52, by omega⟩
  have e1 : max (place + (mag.log2 : Int) - 52) (-1074) = place + (k : Int) := by rw [hk]; simp at h3 ⊢; omega
  have hle := Nat.log2_self_le h0
  have hlt := Nat.lt_log2_self (n := mag)
  rw [hk] at hle hlt h3 h4 ⊢
  have e2 : k + 52 - 52 = k := by omega
  rw [e2] at h3 h4 ⊢
  unfold Format.nearest
  rw [hk] at e1
  simp only [h0, if_false, s2, s3, s4, s5, hk]
  have e1' : max (place + ((k + 52 : Nat) : Int) - ((52 : Nat) : Int)) (-1074) = place + (k : Int) := by
    rw [← e1]; rfl
  rw [e1']
  have e3 : (place - (place + (k : Int))).toNat = 0 := by omega
  have e4 : (place + (k : Int) - place).toNat = k := by omega
  rw [e3, e4, Nat.shiftLeft_zero, cut_even _ _ _ (by omega)]
  unfold Format.word wd
  simp only [Bool.false_eq_true, if_false]
  have e5 : (place + (k : Int) - -1074) = place + (k : Int) + 1074 := by omega
  rw [e5]
  have hr := rhd_le mag (2 ^ k)
  have : mag / 2 ^ k < 2 ^ 53 := by
    rw [Nat.div_lt_iff_lt_mul (Nat.two_pow_pos k)]
    calc mag < 2 ^ (k + 52 + 1) := hlt
      _ = 2 ^ 53 * 2 ^ k := by rw [← Nat.pow_add]; congr 1; omega
  refine Nat.min_eq_left ?_
  have : (place + (k : Int) + 1074).toNat ≤ 1974 := by omega
  omega

theorem nearest_small {mag : Nat} (h : mag.log2 ≤ 52) (h0 : mag ≠ 0) :
    double.nearest false mag 0 = wd (mag * 2 ^ (52 - mag.log2)) (-((52 - mag.log2 : Nat) : Int)) := by
  have s2 : double.binade = 2 ^ 52 := rfl
  have s3 : double.infRung = 2047 * 2 ^ 52 := rfl
  have s4 : double.leastPlace = -1074 := rfl
  have s5 : double.fractionBits = 52 := rfl
  obtain ⟨k, hk⟩ : ∃ k, mag.log2 + k = 52 := ⟨52 - mag.log2, by omega⟩
  have hlt := Nat.lt_log2_self (n := mag)
  have ek : 52 - mag.log2 = k := by omega
  rw [ek]
  unfold Format.nearest
  simp only [h0, if_false, s2, s3, s4, s5]
  have e1' : max ((0 : Int) + (mag.log2 : Int) - ((52 : Nat) : Int)) (-1074) = -(k : Int) := by omega
  rw [e1']
  have e3 : ((0 : Int) - -(k : Int)).toNat = k := by omega
  have e4 : (-(k : Int) - 0).toNat = 0 := by omega
  rw [e3, e4, cut_even _ _ _ (by omega), Nat.shiftLeft_eq]
  have e6 : rhd (mag * 2 ^ k) (2 ^ 0) = mag * 2 ^ k := by unfold rhd; simp [Nat.mod_one]
  rw [e6]
  unfold Format.word wd
  simp only [Bool.false_eq_true, if_false]
  have e5 : (-(k : Int) - -1074) = -(k : Int) + 1074 := by omega
  rw [e5]
  refine Nat.min_eq_left ?_
  have : mag * 2 ^ k < 2 ^ 53 := by
    calc mag * 2 ^ k < 2 ^ (mag.log2 + 1) * 2 ^ k := (Nat.mul_lt_mul_right (Nat.two_pow_pos k)).2 hlt
      _ = 2 ^ 53 := by rw [← Nat.pow_add]; congr 1; omega
  have : (-(k : Int) + 1074).toNat ≤ 1974 := by omega
  omega

/-- so many places has the quotient 2^31 / d -/
def pl (d : Nat) : Nat := if d = 2 ^ d.log2 then 21 + d.log2 else 22 + d.log2
/-- its 53 bits -/
def qm (d : Nat) : Nat := rhd (2 ^ (31 + pl d)) d

theorem dbl {X d m r : Nat} (hm : X / d = m) (hr : X % d = r) (hd : 0 < d) : 2 * X / d = 2 * m + (if d ≤ 2 * r then 1 else 0) ∧ 2 * X % d = 2 * r - (if d ≤ 2 * r then d else 0) := by
  have hX : X = d * m + r := by rw [← hm, ← hr]; exact (Nat.div_add_mod X d).symm
  have hlt : r < d := by rw [← hr]; exact Nat.mod_lt _ hd
  have e : 2 * X = d * (2 * m) + 2 * r := by rw [hX, Nat.mul_add, Nat.mul_left_comm]
  by_cases h : d ≤ 2 * r
  · simp only [h, if_true]
    have e2 : 2 * X = d * (2 * m + 1) + (2 * r - d) := by rw [e, Nat.mul_add]; omega
    rw [e2, Nat.mul_add_div hd, Nat.mul_add_mod, Nat.div_eq_of_lt (by omega), Nat.mod_eq_of_lt (by omega)]
    exact ⟨rfl, rfl⟩
  · simp only [h, if_false]
    rw [e, Nat.mul_add_div hd, Nat.mul_add_mod, Nat.div_eq_of_lt (by omega), Nat.mod_eq_of_lt (by omega)]
    exact ⟨rfl, rfl⟩

theorem pl_bounds {d : Nat} (h1 : 1 ≤ d) (h2 : d ≤ 2 ^ 31) : 21 ≤ pl d ∧ pl d ≤ 52 := by
  have h0 : d ≠ 0 := by omega
  unfold pl
  by_cases h : d = 2 ^ d.log2
  · rw [if_pos h]
    have : d.log2 < 32 := (Nat.log2_lt h0).2 (by omega)
    omega
  · rw [if_neg h]
    have hle := Nat.log2_self_le h0
    have : d.log2 < 31 := by
      rcases Nat.lt_or_ge d.log2 31 with g | g
      · exact g
      · have : 2 ^ 31 ≤ 2 ^ d.log2 := Nat.pow_le_pow_right (by omega) g
        omega
    omega

/-- the quotient's bits, d being no power of two -/
theorem qm_mid {d : Nat} (h1 : 1 ≤ d) (h2 : d ≤ 2 ^ 31) (h : d ≠ 2 ^ d.log2) : 2 ^ 52 ≤ 2 ^ (53 + d.log2) / d ∧ 2 ^ (53 + d.log2) / d ≤ 2 ^ 53 - 2 := by
  have h0 : d ≠ 0 := by omega
  have hle := Nat.log2_self_le h0
  have hlt := Nat.lt_log2_self (n := d)
  generalize d.log2 = L at *
  have hL : L ≤ 31 := by
    rcases Nat.lt_or_ge L 32 with g | g
    · omega
    · have : 2 ^ 32 ≤ 2 ^ L := Nat.pow_le_pow_right (by omega) g
      omega
  have eY : 2 ^ (53 + L) = 2 ^ 53 * 2 ^ L := Nat.pow_add ..
  have eZ : 2 ^ (L + 1) = 2 * 2 ^ L := by rw [Nat.pow_succ, Nat.mul_comm]
  have hp : 2 ^ L ≤ 2 ^ 31 := Nat.pow_le_pow_right (by omega) hL
  rw [eZ] at hlt
  rw [eY]
  generalize 2 ^ L = T at *
  constructor
  · rw [Nat.le_div_iff_mul_le (by omega)]; omega
  · have : 2 ^ 53 * T / d < 2 ^ 53 - 1 := by
      rw [Nat.div_lt_iff_lt_mul (by omega)]; omega
    omega

theorem qm_pow {d : Nat} (h : d = 2 ^ d.log2) : qm d = 2 ^ 52 := by
  have e1 : pl d = 21 + d.log2 := by unfold pl; rw [if_pos h]
  unfold qm
  rw [e1]
  have : 31 + (21 + d.log2) = 52 + d.log2 := by omega
  rw [this]
  generalize hL : d.log2 = L at *
  subst h
  have e : 2 ^ (52 + L) = 2 ^ L * 2 ^ 52 := by rw [Nat.pow_add, Nat.mul_comm]
  have := rhd_scale (2 ^ L) (2 ^ 52) 1 (Nat.two_pow_pos L)
  rw [Nat.mul_one, ← e] at this
  rw [this]; decide

theorem qm_bounds {d : Nat} (h1 : 1 ≤ d) (h2 : d ≤ 2 ^ 31) : 2 ^ 52 ≤ qm d ∧ qm d < 2 ^ 53 := by
  by_cases h : d = 2 ^ d.log2
  · rw [qm_pow h]; omega
  · obtain ⟨a, b⟩ := qm_mid h1 h2 h
    have e1 : pl d = 22 + d.log2 := by unfold pl; rw [if_neg h]
    unfold qm
    rw [e1]
    have : 31 + (22 + d.log2) = 53 + d.log2 := by omega
    rw [this]
    have := rhd_ge (2 ^ (53 + d.log2)) d
    have := rhd_le (2 ^ (53 + d.log2)) d
    omega

theorem qm_one {d : Nat} (h1 : 1 ≤ d) (h2 : d ≤ 2 ^ 31) : 2 ^ pl d ≤ qm d := by
  refine Nat.le_trans ?_ (rhd_ge _ _)
  rw [Nat.le_div_iff_mul_le (by omega), Nat.pow_add, Nat.mul_comm]
  exact Nat.mul_le_mul_right _ h2

theorem div_word {d : Nat} (h1 : 1 ≤ d) (h2 : d ≤ 2 ^ 31) : double.div (wd (2 ^ 52) (-21)) (double.nearest false d 0) = some (wd (qm d) (-(pl d : Int))) := by
  have h0 : d ≠ 0 := by omega
  have hL : d.log2 ≤ 31 := by have := (Nat.log2_lt (k := 32) h0).2 (by omega); omega
  have hle := Nat.log2_self_le h0
  have hlt := Nat.lt_log2_self (n := d)
  rw [nearest_small (by omega) h0]
  generalize hk : 52 - d.log2 = k
  have hLk : d.log2 + k = 52 := by omega
  have eP : 2 ^ 52 = 2 ^ d.log2 * 2 ^ k := by rw [← Nat.pow_add, hLk]
  have hD1 : 2 ^ 52 ≤ d * 2 ^ k := by rw [eP]; exact Nat.mul_le_mul_right _ hle
  have hD2 : d * 2 ^ k < 2 ^ 53 := by
    have : 2 ^ 53 = 2 ^ (d.log2 + 1) * 2 ^ k := by rw [← Nat.pow_add]; congr 1; omega
    rw [this]; exact (Nat.mul_lt_mul_right (Nat.two_pow_pos k)).2 hlt
  unfold Format.div
  rw [read_wd (by omega) (by omega) (by omega) (by omega), read_wd hD1 hD2 (by omega) (by omega)]
  have hDl : (d * 2 ^ k).log2 = 52 := log2_of hD1 hD2
  have h2l : (2 ^ 52).log2 = 52 := log2_of (by omega) (by omega)
  have hD0 : d * 2 ^ k ≠ 0 := by omega
  have s5 : double.fractionBits = 52 := rfl
  simp only [Datum.quotient, hD0, if_false, Option.map_some, hDl, h2l, s5, Format.write, Bool.xor_false]
  congr 1
  have ed : (2 ^ 52) <<< (52 + 2 + 52 - 52) = 2 ^ k * 2 ^ (54 + d.log2) := by
    rw [Nat.shiftLeft_eq, ← Nat.pow_add, ← Nat.pow_add]; congr 1; omega
  rw [ed, Nat.mul_comm d, Nat.mul_div_mul_left _ _ (Nat.two_pow_pos k), Nat.mul_mod_mul_left]
  have eb : ((2 ^ k * (2 ^ (54 + d.log2) % d) != 0) = (2 ^ (54 + d.log2) % d != 0)) := by
    have := Nat.two_pow_pos k
    by_cases g : 2 ^ (54 + d.log2) % d = 0
    · rw [g, Nat.mul_zero]
    · have g2 : 2 ^ k * (2 ^ (54 + d.log2) % d) ≠ 0 := Nat.mul_ne_zero (by omega) g
      rw [bne_iff_ne.2 g2, bne_iff_ne.2 g]
  rw [eb]
  have epl : (-21 - -(k : Int) - ((52 + 2 + 52 - 52 : Nat) : Int) - 1) = -24 - (d.log2 : Int) := by omega
  rw [epl]
  have ex : 2 ^ (54 + d.log2) = 2 * 2 ^ (53 + d.log2) := by rw [← Nat.pow_succ']; congr 1; omega
  by_cases h : d = 2 ^ d.log2
  · have e1 : pl d = 21 + d.log2 := by unfold pl; rw [if_pos h]
    have eq : 2 ^ (54 + d.log2) / d = 2 ^ 54 := by
      rw [Nat.pow_add]; conv => lhs; rhs; rw [h]
      exact Nat.mul_div_cancel _ (Nat.two_pow_pos _)
    have em : 2 ^ (54 + d.log2) % d = 0 := by
      rw [Nat.pow_add]; conv => lhs; rhs; rw [h]
      exact Nat.mul_mod_left _ _
    rw [eq, em, qm_pow h, e1]
    have hl : (2 * 2 ^ 54 + ((0 : Nat) != 0).toNat).log2 = 55 := log2_of (by decide) (by decide)
    rw [nearest_big (by rw [hl]; omega) (by decide) (by rw [hl]; omega) (by rw [hl]; omega), hl]
    have er : rhd (2 * 2 ^ 54 + ((0 : Nat) != 0).toNat) (2 ^ (55 - 52)) = 2 ^ 52 := by decide
    rw [er]; congr 1; omega
  · have e1 : pl d = 22 + d.log2 := by unfold pl; rw [if_neg h]
    obtain ⟨a, b⟩ := qm_mid h1 h2 h
    obtain ⟨q1, q2⟩ := dbl (X := 2 ^ (53 + d.log2)) (d := d) rfl rfl (by omega)
    rw [ex, q1, q2]
    have e53 : 31 + (22 + d.log2) = 53 + d.log2 := by omega
    have eqm : qm d = rhd (2 ^ (53 + d.log2)) d := by unfold qm; rw [e1, e53]
    rw [eqm, e1]
    unfold rhd
    have hr := Nat.mod_lt (2 ^ (53 + d.log2)) (show d > 0 by omega)
    generalize 2 ^ (53 + d.log2) / d = m at *
    generalize 2 ^ (53 + d.log2) % d = r at *
    generalize hM : 2 * (2 * m + if d ≤ 2 * r then 1 else 0) + (2 * r - (if d ≤ 2 * r then d else 0) != 0).toNat = M
    have hMb : M / 4 = m ∧ (M % 4 = (if d ≤ 2 * r then 2 else 0) + (2 * r - (if d ≤ 2 * r then d else 0) != 0).toNat) := by
      rw [← hM]
      have : ((2 * r - (if d ≤ 2 * r then d else 0) != 0)).toNat ≤ 1 := Bool.toNat_le _
      generalize ((2 * r - (if d ≤ 2 * r then d else 0) != 0)).toNat = s at *
      split <;> omega
    have hl : M.log2 = 54 := log2_of (by omega) (by omega)
    rw [nearest_big (by omega) (by omega) (by rw [hl]; omega) (by rw [hl]; omega), hl]
    have e4 : 2 ^ (54 - 52) = 4 := by decide
    rw [e4]
    have er : rhd M 4 = m + if d < 2 * r ∨ d = 2 * r ∧ m % 2 = 1 then 1 else 0 := by
      unfold rhd
      rw [hMb.1, hMb.2]
      congr 1
      by_cases g : d ≤ 2 * r
      · by_cases g2 : d = 2 * r
        · subst g2; simp
        · have g3 : d < 2 * r := by omega
          have g4 : (2 * r - d != 0) = true := by simp; omega
          simp [g, g3, g4]
      · have g2 : ¬ d < 2 * r := by omega
        have g3 : d ≠ 2 * r := by omega
        have : (2 * r - 0 != 0).toNat ≤ 1 := Bool.toNat_le _
        simp only [g, g2, g3, if_false, false_and, or_self]
        rw [if_neg]; omega
    rw [er]; congr 1; omega

/-- so many bits of a product are cut off -/
def ct (n m : Nat) : Nat := (n * m).log2 - 52
/-- where the jump with d comes to from the bucket ahead of n -/
def lp (n d : Nat) : Nat := rhd (n * qm d) (2 ^ ct n (qm d)) / 2 ^ (pl d - ct n (qm d))

theorem ct_bounds {n m : Nat} (h1 : 1 ≤ n) (h2 : n ≤ 2 ^ 20) (m1 : 2 ^ 52 ≤ m) (m2 : m < 2 ^ 53) : (n * m).log2 = 52 + ct n m ∧ ct n m ≤ 20 ∧ 2 ^ 52 ≤ rhd (n * m) (2 ^ ct n m) ∧ rhd (n * m) (2 ^ ct n m) ≤ 2 ^ 53 := by
  have hX1 : 2 ^ 52 ≤ n * m := Nat.le_trans m1 (Nat.le_mul_of_pos_left _ h1)
  have h0 : n * m ≠ 0 := by omega
  have hX2 : n * m < 2 ^ 73 := by
    have : n * m ≤ 2 ^ 20 * m := Nat.mul_le_mul_right _ h2
    omega
  have l1 : 52 ≤ (n * m).log2 := (Nat.le_log2 h0).2 hX1
  have l2 : (n * m).log2 < 73 := (Nat.log2_lt h0).2 hX2
  have hc : (n * m).log2 = 52 + ct n m := by unfold ct; omega
  refine ⟨hc, by unfold ct; omega, ?_, ?_⟩
  · refine Nat.le_trans ?_ (rhd_ge _ _)
    rw [Nat.le_div_iff_mul_le (Nat.two_pow_pos _), ← Nat.pow_add, ← hc]
    exact Nat.log2_self_le h0
  · have hd : n * m / 2 ^ ct n m < 2 ^ 53 := by
      rw [Nat.div_lt_iff_lt_mul (Nat.two_pow_pos _), ← Nat.pow_add]
      have := Nat.lt_log2_self (n := n * m)
      rw [hc] at this
      have e : 53 + ct n m = 52 + ct n m + 1 := by omega
      rw [e]; exact this
    have := rhd_le (n * m) (2 ^ ct n m)
    omega

theorem mul_word {n m P : Nat} (h1 : 1 ≤ n) (h2 : n ≤ 2 ^ 20) (m1 : 2 ^ 52 ≤ m) (m2 : m < 2 ^ 53) (p1 : 21 ≤ P) (p2 : P ≤ 52) :
    double.mul (double.nearest false n 0) (wd m (-(P : Int))) = some (wd (rhd (n * m) (2 ^ ct n m)) ((ct n m : Int) - P)) := by
  have h0 : n ≠ 0 := by omega
  have hL : n.log2 ≤ 20 := by have := (Nat.log2_lt (k := 21) h0).2 (by omega); omega
  have hle := Nat.log2_self_le h0
  have hlt := Nat.lt_log2_self (n := n)
  obtain ⟨c1, c2, c3, c4⟩ := ct_bounds h1 h2 m1 m2
  rw [nearest_small (by omega) h0]
  generalize hk : 52 - n.log2 = k
  have hLk : n.log2 + k = 52 := by omega
  have eP : 2 ^ 52 = 2 ^ n.log2 * 2 ^ k := by rw [← Nat.pow_add, hLk]
  have hD1 : 2 ^ 52 ≤ n * 2 ^ k := by rw [eP]; exact Nat.mul_le_mul_right _ hle
  have hD2 : n * 2 ^ k < 2 ^ 53 := by
    have : 2 ^ 53 = 2 ^ (n.log2 + 1) * 2 ^ k := by rw [← Nat.pow_add]; congr 1; omega
    rw [this]; exact (Nat.mul_lt_mul_right (Nat.two_pow_pos k)).2 hlt
  unfold Format.mul
  rw [read_wd hD1 hD2 (by omega) (by omega), read_wd m1 m2 (by omega) (by omega)]
  simp only [Datum.product, Option.map_some, Format.write, Bool.xor_false]
  congr 1
  have ex : n * 2 ^ k * m = 2 ^ k * (n * m) := by rw [Nat.mul_comm n, Nat.mul_assoc]
  rw [ex]
  have hX0 : n * m ≠ 0 := Nat.mul_ne_zero h0 (by omega)
  have l1 := Nat.log2_self_le hX0
  have l2 := Nat.lt_log2_self (n := n * m)
  rw [c1] at l1 l2
  have hl : (2 ^ k * (n * m)).log2 = 52 + (k + ct n m) := by
    refine log2_of ?_ ?_
    · have : 2 ^ (52 + (k + ct n m)) = 2 ^ k * 2 ^ (52 + ct n m) := by rw [← Nat.pow_add]; congr 1; omega
      rw [this]; exact Nat.mul_le_mul_left _ l1
    · have : 2 ^ (52 + (k + ct n m) + 1) = 2 ^ k * 2 ^ (52 + ct n m + 1) := by rw [← Nat.pow_add]; congr 1; omega
      rw [this]; exact (Nat.mul_lt_mul_left (Nat.two_pow_pos k)).2 l2
  have hM0 : 2 ^ k * (n * m) ≠ 0 := Nat.mul_ne_zero (by have := Nat.two_pow_pos k; omega) hX0
  have e52 : 52 + (k + ct n m) - 52 = k + ct n m := by omega
  rw [nearest_big (by omega) hM0 (by rw [hl, e52]; omega) (by rw [hl, e52]; omega), hl, e52, Nat.pow_add, rhd_scale _ _ _ (Nat.two_pow_pos k)]
  congr 1; omega

theorem int_word {v c P : Nat} (v1 : 2 ^ 52 ≤ v) (v2 : v ≤ 2 ^ 53) (hc : c ≤ 20) (p1 : 21 ≤ P) (p2 : P ≤ 52) :
    (double.read (wd v ((c : Int) - P))).toInt .zero = some ((v / 2 ^ (P - c) : Nat) : Int) := by
  have key : ∀ (u k : Nat), 2 ^ 52 ≤ u → u < 2 ^ 53 → k ≤ 52 → (double.read (wd u (-(k : Int)))).toInt .zero = some ((u / 2 ^ k : Nat) : Int) := by
    intro u k u1 u2 hk
    rw [read_wd u1 u2 (by omega) (by omega)]
    have hl : u.log2 = 52 := log2_of u1 u2
    have e1 : (-(k : Int)).toNat = 0 := by omega
    have e2 : (- -(k : Int)).toNat = k := by omega
    have e3 : min k (52 + 2) = k := by omega
    simp only [Datum.toInt, Datum.integral, Toward.cut, e1, e2, hl, e3, Nat.shiftLeft_eq, Nat.one_mul, signed, Nat.pow_zero, Nat.mul_one]
    simp
  by_cases h : v = 2 ^ 53
  · subst h
    rw [wd_carry (by omega)]
    have e : (c : Int) - P + 1 = -((P - c - 1 : Nat) : Int) := by omega
    rw [e, key _ _ (by omega) (by omega) (by omega)]
    obtain ⟨j, hj⟩ : ∃ j, P - c = j + 1 := ⟨P - c - 1, by omega⟩
    rw [hj, Nat.add_sub_cancel, Nat.pow_succ 2 j, Nat.mul_comm (2 ^ j) 2, ← Nat.div_div_eq_div_mul]
  · have e : (c : Int) - P = -((P - c : Nat) : Int) := by omega
    rw [e, key _ _ v1 (by omega) (by omega)]

theorem lp_int {n d : Nat} (h1 : 1 ≤ n) (h2 : n ≤ 2 ^ 20) (d1 : 1 ≤ d) (d2 : d ≤ 2 ^ 31) :
    (double.read (wd (rhd (n * qm d) (2 ^ ct n (qm d))) ((ct n (qm d) : Int) - pl d))).toInt .zero = some (lp n d : Int) := by
  obtain ⟨m1, m2⟩ := qm_bounds d1 d2
  obtain ⟨c1, c2, c3, c4⟩ := ct_bounds h1 h2 m1 m2
  obtain ⟨p1, p2⟩ := pl_bounds d1 d2
  exact int_word c3 c4 c2 p1 p2

theorem lp_le {n d : Nat} (h1 : 1 ≤ n) (h2 : n ≤ 2 ^ 20) (d1 : 1 ≤ d) (d2 : d ≤ 2 ^ 31) : lp n d ≤ 2 ^ 53 := by
  obtain ⟨m1, m2⟩ := qm_bounds d1 d2
  obtain ⟨c1, c2, c3, c4⟩ := ct_bounds h1 h2 m1 m2
  exact Nat.le_trans (Nat.div_le_self _ _) c4

/-- the way rises -/
theorem lp_ge {n d : Nat} (h1 : 1 ≤ n) (h2 : n ≤ 2 ^ 20) (d1 : 1 ≤ d) (d2 : d ≤ 2 ^ 31) : n ≤ lp n d := by
  obtain ⟨m1, m2⟩ := qm_bounds d1 d2
  obtain ⟨c1, c2, c3, c4⟩ := ct_bounds h1 h2 m1 m2
  obtain ⟨p1, p2⟩ := pl_bounds d1 d2
  unfold lp
  generalize ct n (qm d) = c at *
  rw [Nat.le_div_iff_mul_le (Nat.two_pow_pos _)]
  refine Nat.le_trans ?_ (rhd_ge _ _)
  rw [Nat.le_div_iff_mul_le (Nat.two_pow_pos _), Nat.mul_assoc, ← Nat.pow_add]
  have : pl d - c + c = pl d := by omega
  rw [this]
  exact Nat.mul_le_mul_left _ (qm_one d1 d2)

/-- the factor of a state -/
def nx (x : Nat) : Nat := (x * 2862933555777941757 + 1) % 2 ^ 64
/-- where a jump comes to from the bucket b with the state x -/
def leapN (b x : Nat) : Nat := lp (b + 1) (x / 2 ^ 33 + 1)

theorem nx_lt (x : Nat) : nx x < 2 ^ 64 := Nat.mod_lt _ (by decide)
theorem d_bounds {x : Nat} (h : x < 2 ^ 64) : 1 ≤ x / 2 ^ 33 + 1 ∧ x / 2 ^ 33 + 1 ≤ 2 ^ 31 := by omega
theorem leapN_gt {b x : Nat} (hb : b < 2 ^ 20) (hx : x < 2 ^ 64) : b < leapN b x := by
  have := lp_ge (n := b + 1) (by omega) (by omega) (d_bounds hx).1 (d_bounds hx).2
  unfold leapN; omega
theorem leapN_le {b x : Nat} (hb : b < 2 ^ 20) (hx : x < 2 ^ 64) : leapN b x ≤ 2 ^ 53 :=
  lp_le (n := b + 1) (by omega) (by omega) (d_bounds hx).1 (d_bounds hx).2
end Go.Proofs.Ytiafnfjgmfnnoab
