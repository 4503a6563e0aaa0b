/- The table of four steps; slices of bytes as lists; grow. -/
import Derived.Test.YtlcepoomjnpfpaaJoin
namespace Go.Proofs.Ytlcepoomjnpfpaa
open Go.RowKit

theorem stp_double (x : Nat) : stp (x * 2) = x := by
  unfold stp
  rw [if_neg (by omega)]
  omega
theorem stps4_high (x : Nat) : stps 4 (x * 16) = x := by
  have e : x * 16 = x * 2 * 2 * 2 * 2 := by omega
  rw [e]
  simp only [stps, stp_double]
theorem split16 (v : Nat) : v = (v / 16 * 16) ^^^ (v % 16) := by
  have h := Nat.div_add_mod v 16
  have hd : ∀ x y : Nat, y < 16 → x * 16 ^^^ y = x * 16 + y := by
    intro x y hy
    have h1 : x * 16 ^^^ y = x * 16 ||| y := by
      apply Nat.eq_of_testBit_eq
      intro i
      have e : x * 16 = 2 ^ 4 * x := by rw [Nat.mul_comm]
      rw [Nat.testBit_xor, Nat.testBit_or, e, Nat.testBit_two_pow_mul]
      by_cases hi : 4 ≤ i
      · have : y.testBit i = false := Nat.testBit_lt_two_pow (Nat.lt_of_lt_of_le (show y < 2 ^ 4 by omega) (Nat.pow_le_pow_right (by omega) hi))
        simp [this]
      · simp [hi]
    rw [h1]
    exact nat_join 4 (x * 16) y (by omega) (by omega)
  rw [hd _ _ (Nat.mod_lt _ (by omega))]
  omega
theorem stps4_eq (v : Nat) : stps 4 v = (v / 16) ^^^ stps 4 (v % 16) := by
  have h := congrArg (stps 4) (split16 v)
  rw [stps_xor, stps4_high] at h
  exact h

/-- the table that the program keeps: what four steps make of 0 to 15 -/
def four (i : Nat) : Nat := stps 4 i
/-- the table lies in its place -/
def Tab (w : World) : Prop := 0 < w.heap.size ∧ ∀ i, i < 16 → w.cell? ⟨0, i, none⟩ = some (.int .u32 (four i : Nat))
theorem Tab.kept {F : List Nat} {w w' : World} (h : Tab w) (hk : Kept F w w') (hn : 0 ∉ F) : Tab w' :=
  ⟨Nat.lt_of_lt_of_le h.1 hk.size, fun i hi => (hk.cell (p := ⟨0, i, none⟩) h.1 hn).trans (h.2 i hi)⟩

/-- The slice v reads as the bytes bs. -/
def Sees (w : World) (v : Value) (bs : List Nat) : Prop :=
  ∃ a cap, v = .slice a bs.length cap ∧ bs.length ≤ cap ∧ cap ≤ maxLen ∧ (∀ b ∈ bs, b < 256) ∧
    (bs = [] ∨ ∃ b off, a = some ⟨b, off, none⟩ ∧ b < w.heap.size ∧ ∀ j, j < bs.length → w.cell? ⟨b, off + j, none⟩ = some (.int .u8 (bs.getD j 0 : Nat)))

theorem Sees.kept {F : List Nat} {w w' : World} {v : Value} {bs : List Nat} (h : Sees w v bs) (hk : Kept F w w') (hn : bs = [] ∨ ∀ k, v.ownBlock = some k → k ∉ F) : Sees w' v bs := by
  obtain ⟨a, cap, rfl, h1, h2, h3, h4⟩ := h
  refine ⟨a, cap, rfl, h1, h2, h3, ?_⟩
  rcases h4 with h4 | ⟨b, off, rfl, h5, h6⟩
  · exact Or.inl h4
  · rcases hn with hn | hn
    · exact Or.inl hn
    · refine Or.inr ⟨b, off, rfl, Nat.lt_of_lt_of_le h5 hk.size, fun j hj => ?_⟩
      rw [hk.cell (p := ⟨b, off + j, none⟩) h5 (hn b rfl)]
      exact h6 j hj

/-- a register takes a byte; bytes -/
def take1 (v b : Nat) : Nat := stps 8 (v ^^^ b)
def takes (v : Nat) (bs : List Nat) : Nat := bs.foldl take1 v
theorem take1_lt {v b : Nat} (hv : v < 4294967296) (hb : b < 256) : take1 v b < 4294967296 := stps_lt 8 (Nat.xor_lt_two_pow (n := 32) hv (by omega))
theorem takes_nil (v : Nat) : takes v [] = v := rfl
theorem takes_cons (v b : Nat) (bs : List Nat) : takes v (b :: bs) = takes (take1 v b) bs := rfl
theorem takes_append (v : Nat) (a b : List Nat) : takes v (a ++ b) = takes (takes v a) b := List.foldl_append ..
theorem takes_lt {v : Nat} (hv : v < 4294967296) (bs : List Nat) (h : ∀ b ∈ bs, b < 256) : takes v bs < 4294967296 := by
  induction bs generalizing v with
  | nil => rw [takes_nil]; exact hv
  | cons x bs ih =>
    rw [takes_cons]
    exact ih (take1_lt hv (h x (by simp))) (fun b hb => h b (by simp [hb]))
theorem takes_succ (v : Nat) (bs : List Nat) (k : Nat) (hk : k < bs.length) : takes v (bs.take (k + 1)) = take1 (takes v (bs.take k)) (bs.getD k 0) := by
  rw [List.take_add_one, takes_append, List.getElem?_eq_getElem hk, List.getD, List.getElem?_eq_getElem hk]
  rfl
/-- the sum grows -/
def grown (s : Nat) (bs : List Nat) : Nat := cpl (takes (cpl s) bs)

theorem and15 (v : Nat) (hv : v < 4294967296) : bits .and .u32 (v : Int) 15 = ((v % 16 : Nat) : Int) := by
  have := u32_and_nat v 15 hv (by omega)
  rw [nat_mask4] at this
  exact this

end Go.Proofs.Ytlcepoomjnpfpaa
