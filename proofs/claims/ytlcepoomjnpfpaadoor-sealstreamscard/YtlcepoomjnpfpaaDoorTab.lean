/- The table of four steps; slices of bytes as lists; grow. -/
import Derived.Test.YtlcepoomjnpfpaaDoorJoin
namespace Go.Proofs.YtlcepoomjnpfpaaDoor
open Go.RowKit

theorem stp_double (x : Nat) : stp (x * 2) = x := by
  unfold stp
  rw [if_neg (by omega)]
  omega
theorem stps4_high (x : Nat) : stps 4 (x * 16) = x := by
  have e : x * 16 = x * 2 * 2 * 2 * 2 := by omega
  rw [e]
  simp only [stps, stp_double]
theorem split16 (v : Nat) : v = (v / 16 * 16) ^^^ (v % 16) := by
  have h := Nat.div_add_mod v 16
  have hd : ∀ x y : Nat, y < 16 → x * 16 ^^^ y = x * 16 + y := by
    intro x y hy
    have h1 : x * 16 ^^^ y = x * 16 ||| y := by
      apply Nat.eq_of_testBit_eq
      intro i
      have e : x * 16 = 2 ^ 4 * x := by rw [Nat.mul_comm]
      rw [Nat.testBit_xor, Nat.testBit_or, e, Nat.testBit_two_pow_mul]
      by_cases hi : 4 ≤ i
      · have : y.testBit i = false := Nat.testBit_lt_two_pow (Nat.lt_of_lt_of_le (show y < 2 ^ 4 by omega) (Nat.pow_le_pow_right (by omega) hi))
        simp [this]
      · simp [hi]
    rw [h1]
    exact nat_join 4 (x * 16) y (by omega) (by omega)
  rw [hd _ _ (Nat.mod_lt _ (by omega))]
  omega
theorem stps4_eq (v : Nat) : stps 4 v = (v / 16) ^^^ stps 4 (v % 16) := by
  have h := congrArg (stps 4) (split16 v)
  rw [stps_xor, stps4_high] at h
  exact h

/-- the table that the program keeps: what four steps make of 0 to 15 -/
def four (i : Nat) : Nat := stps 4 i
/-- the table lies in its place -/
def Tab (w : World) : Prop := 0 < w.heap.size ∧ ∀ i, i < 16 → w.cell? ⟨0, i, none⟩ = some (.int .u32 (four i : Nat))
theorem Tab.kept {F : List Nat} {w w' : World} (h : Tab w) (hk : Kept F w w') (hn : 0 ∉ F) : Tab w' :=
  ⟨Nat.lt_of_lt_of_le h.1 hk.size, fun i hi => (hk.cell (p := ⟨0, i, none⟩) h.1 hn).trans (h.2 i hi)⟩

/-- The slice v reads as the bytes bs. -/
def Sees (w : World) (v : Value) (bs : List Nat) : Prop :=
  ∃ a cap, v = .slice a bs.length cap ∧ bs.length ≤ cap ∧ cap ≤ maxLen ∧ (∀ b ∈ bs, b < 256) ∧
    (bs = [] ∨ ∃ b off, a = some ⟨b, off, none⟩ ∧ b < w.heap.size ∧ ∀ j, j < bs.length → w.cell? ⟨b, off + j, none⟩ = some (.int .u8 (bs.getD j 0 : Nat)))

theorem Sees.kept {F : List Nat} {w w' : World} {v : Value} {bs : List Nat} (h : Sees w v bs) (hk : Kept F w w') (hn : bs = [] ∨ ∀ k, v.ownBlock = some k → k ∉ F) : Sees w' v bs := by
  obtain ⟨a, cap, rfl, h1, h2, h3, h4⟩ := h
  refine ⟨a, cap, rfl, h1, h2, h3, ?_⟩
  rcases h4 with h4 | ⟨b, off, rfl, h5, h6⟩
  · exact Or.inl h4
  · rcases hn with hn | hn
    · exact Or.inl hn
    · refine Or.inr ⟨b, off, rfl, Nat.lt_of_lt_of_le h5 hk.size, fun j hj => ?_⟩
      rw [hk.cell (p := ⟨b, off + j, none⟩) h5 (hn b rfl)]
      exact h6 j hj

/-- a register takes a byte; bytes -/
def take1 (v b : Nat) : Nat := stps 8 (v ^^^ b)
def takes (v : Nat) (bs : List Nat) : Nat := bs.foldl take1 v
theorem take1_lt {v b : Nat} (hv : v < 4294967296) (hb : b < 256) : take1 v b < 4294967296 := stps_lt 8 (Nat.xor_lt_two_pow (n := 32) hv (by omega))
theorem takes_nil (v : Nat) : takes v [] = v := rfl
theorem takes_cons (v b : Nat) (bs : List Nat) : takes v (b :: bs) = takes (take1 v b) bs := rfl
theorem takes_append (v : Nat) (a b : List Nat) : takes v (a ++ b) = takes (takes v a) b := List.foldl_append ..
theorem takes_lt {v : Nat} (hv : v < 4294967296) (bs : List Nat) (h : ∀ b ∈ bs, b < 256) : takes v bs < 4294967296 := by
  induction bs generalizing v with
  | nil => rw [takes_nil]; exact hv
  | cons x bs ih =>
    rw [takes_cons]
    exact ih (take1_lt hv (h x (by simp))) (fun b hb => h b (by simp [hb]))
theorem takes_succ (v : Nat) (bs : List Nat) (k : Nat) (hk : k < bs.length) : takes v (bs.take (k + 1)) = take1 (takes v (bs.take k)) (bs.getD k 0) := by
  rw [List.take_add_one, takes_append, List.getElem?_eq_getElem hk, List.getD, List.getElem?_eq_getElem hk]
  rfl
/-- the sum grows -/
def grown (s : Nat) (bs : List Nat) : Nat := cpl (takes (cpl s) bs)

theorem and15 (v : Nat) (hv : v < 4294967296) : bits .and .u32 (v : Int) 15 = ((v % 16 : Nat) : Int) := by
  have := u32_and_nat v 15 hv (by omega)
  rw [nat_mask4] at this
  exact this

set_option maxRecDepth 100000 in
set_option maxHeartbeats 400000 in
theorem grow_any {w : World} {v : Value} {bs : List Nat} (ht : Tab w) (hs : Sees w v bs) (s : Nat) (hsl : s < 4294967296) :
    Calls Tryd.prog 26 #[.int .u32 s, v] w fun e w' => e = .returned (.int .u32 (grown s bs : Nat)) ∧ w' = w := by
  obtain ⟨a, cap, rfl, h1, h2, h3, h4⟩ := hs
  have hcs := cpl_bits hsl
  have hcl := cpl_lt hsl
  have hsg : IntKind.u32.signed = false := rfl
  have HG : Hid (grown s bs = cpl (takes (cpl s) bs)) := rfl
  generalize cpl s = c at hcs hcl HG
  have HT := hide ht
  have H3 := hide h3
  have H4 := hide h4
  have hml : bs.length ≤ 9223372036854775807 := by unfold maxLen at h2; omega
  clear h3 h4 ht
  generalize hL : bs.length = L at *
  have HL := hide hL
  clear hL
  go_enter Tryd.func26, Tryd.ntmps26
  go_wp2_with fail
  go_loop [5, 12] (fun r i => ∃ k : Nat, k ≤ L ∧ i = .int .i64 k ∧ r = .int .u32 (takes c (bs.take k) : Nat)) (fun _ i => L - (intOf i).toNat)
  case atStart => exact ⟨0, by omega, rfl, rfl⟩
  case round =>
    obtain ⟨k, hk, rfl, rfl⟩ := hrel
    have hlt := takes_lt hcl (bs.take k) (fun b hb => unhide H3 b (List.mem_of_mem_take hb))
    by_cases hkl : k < L
    · obtain ⟨b, off, rfl, hbl, hce⟩ : ∃ b off, a = some ⟨b, off, none⟩ ∧ b < w.heap.size ∧ ∀ j, j < L → w.cell? ⟨b, off + j, none⟩ = some (.int .u8 (bs.getD j 0 : Nat)) := by
        rcases unhide H4 with h | h
        · exact absurd (unhide HL) (by rw [h]; simp; omega)
        · exact h
      have hc := hce k hkl
      clear hce
      have HE : Hid (takes c (bs.take (k + 1)) = take1 (takes c (bs.take k)) (bs.getD k 0)) := takes_succ c bs k (by rw [unhide HL]; exact hkl)
      have hx : bs.getD k 0 < 256 := by
        have hk2 : k < bs.length := by rw [unhide HL]; exact hkl
        rw [List.getD, List.getElem?_eq_getElem hk2]
        exact unhide H3 _ (List.getElem_mem hk2)
      generalize bs.getD k 0 = x at hc HE hx
      generalize takes c (bs.take k) = r at hlt HE
      have e1 := u32_xor_nat r x hlt (by omega)
      have l1 : r ^^^ x < 4294967296 := Nat.xor_lt_two_pow (n := 32) hlt (by omega)
      have HE2 : Hid (takes c (bs.take (k + 1)) = stps 4 (stps 4 (r ^^^ x))) := (unhide HE).trans (stps_add 4 4 _)
      clear HE
      generalize r ^^^ x = y at e1 l1 HE2
      have hT := (unhide HT).2
      have a1 := and15 y l1
      have c1 := hT (y % 16) (Nat.mod_lt _ (by omega))
      have e2 := u32_xor_nat (y / 16) (four (y % 16)) (by omega) (stps_lt 4 (by omega))
      have q1 : y / 16 ^^^ four (y % 16) = stps 4 y := (stps4_eq y).symm
      have l2 := stps_lt 4 l1
      rw [q1] at e2
      generalize stps 4 y = z at e2 l2 HE2 q1
      generalize hf1 : four (y % 16) = f1 at c1 e2
      have a2 := and15 z l2
      have c2 := hT (z % 16) (Nat.mod_lt _ (by omega))
      have e3 := u32_xor_nat (z / 16) (four (z % 16)) (by omega) (stps_lt 4 (by omega))
      have q2 : z / 16 ^^^ four (z % 16) = stps 4 z := (stps4_eq z).symm
      rw [q2] at e3
      generalize stps 4 z = t at e3 HE2 q2
      generalize hf2 : four (z % 16) = f2 at c2 e3
      clear q1 q2 hf1 hf2 hT
      have m1 : y % 16 < 16 := Nat.mod_lt _ (by omega)
      have m2 : z % 16 < 16 := Nat.mod_lt _ (by omega)
      have e2' : bits .xor .u32 ((y : Int) / 16) (f1 : Int) = (z : Int) := by simpa using e2
      have e3' : bits .xor .u32 ((z : Int) / 16) (f2 : Int) = (t : Int) := by simpa using e3
      clear e2 e3
      go_wp2
      exact ⟨⟨k + 1, by omega, by simp, by rw [unhide HE2]⟩, by simp [intOf]; omega⟩
    · obtain rfl : k = L := by omega
      have hfull : bs.take k = bs := by rw [← unhide HL, List.take_length]
      rw [hfull] at hlt ⊢
      have e4 := cpl_bits hlt
      rw [← unhide HG] at e4
      generalize hgg : grown s bs = g at e4
      have HGG := hide hgg
      clear hgg
      generalize takes c bs = q at hlt e4
      go_wp2
      go_ret
      exact ⟨by rw [unhide HGG]; rfl, rfl⟩
end Go.Proofs.YtlcepoomjnpfpaaDoor
