/- A text of the base. -/
import Derived.Test.YtkejpbfbpomjfabPkD
import Derived.Test.YtkejpbfbpomjfabPkK
import Derived.Lib.BitFns
import Derived.Lib.Strings
import Derived.Lib.Slices
import Derived.Lib.Small
import Derived.Lib.Tables
import Derived.Lib.Walk
import Derived.Deep.Light
/- How many bytes the form of a number has. -/
namespace Go.Proofs.Ytkejpbfbpomjfab.tre
open Go.RowKit

theorem ret_int {a b : Int} (h : a = b) : Ending.returned (.int .i64 a) = Ending.returned (.int .i64 b) := by rw [h]
theorem tab_at {y : Int} (h : y.toNat < Lib.len8tab.size) : (Lib.len8tab[y.toNat]'h).toNat = Lib.bitLen y.toNat := by
  have hy : y.toNat < 256 := by rw [Lib.len8tab_size] at h; exact h
  have e := Lib.len8_eq ⟨y.toNat, hy⟩
  unfold Lib.len8 at e
  simp only [Int.toNat_natCast] at e
  rw [getElem?_pos Lib.len8tab y.toNat h] at e
  simp only [Option.getD_some] at e
  omega
theorem leaf {k : Nat} {y x : Int} {h : y.toNat < Lib.len8tab.size} (hk : k ≤ 56) (hb : Lib.bitLen x.toNat = k + Lib.bitLen y.toNat) : wrap64 ((k : Int) + wrap64 (((Lib.len8tab[y.toNat]'h).toNat : Nat) : Int)) = (Lib.bitLen x.toNat : Int) := by
  have h8 := Lib.bitLen_le8 ⟨y.toNat, by rw [Lib.len8tab_size] at h; exact h⟩
  rw [tab_at h, hb]
  simp only at h8
  unfold wrap64
  omega
theorem leaf0 {x : Int} {h : x.toNat < Lib.len8tab.size} : wrap64 (wrap64 (((Lib.len8tab[x.toNat]'h).toNat : Nat) : Int)) = (Lib.bitLen x.toNat : Int) := by
  have h8 := Lib.bitLen_le8 ⟨x.toNat, by rw [Lib.len8tab_size] at h; exact h⟩
  rw [tab_at h]
  simp only at h8
  unfold wrap64
  omega
theorem shift_by {k d : Nat} {x y : Int} (hd : d = 2 ^ k) (h0 : 0 ≤ x) (h1 : x ≤ 18446744073709551615) (hy : y.toNat = x.toNat / d) (hge : d ≤ x.toNat) : Lib.bitLen x.toNat = k + Lib.bitLen y.toNat := by
  rw [hy, hd]
  exact Lib.bitLen_shift k x.toNat (by rw [← hd]; exact hge) (by omega)
set_option maxRecDepth 100000 in
set_option maxHeartbeats 4000000 in
theorem len64_any (w : World) (x : Int) (h0 : 0 ≤ x) (h1 : x ≤ 18446744073709551615) : Calls Try.prog 80 #[.int .u64 x] w fun e w' => e = .returned (.int .i64 (Lib.bitLen x.toNat : Int)) ∧ w' = w := by
  go_enter Try.func80, Try.ntmps80
  go_wp2
  all_goals first
    | (go_ret; refine ⟨ret_int ?_, rfl⟩; go_light)
    | (exfalso; go_light; have hs := Lib.len8tab_size; omega)
  · exact leaf (k := 56) (by omega) (shift_by (d := 72057594037927936) (by decide) h0 h1 (by omega) (by omega))
  · exact leaf (k := 48) (by omega) (shift_by (d := 281474976710656) (by decide) h0 h1 (by omega) (by omega))
  · exact leaf (k := 40) (by omega) (shift_by (d := 1099511627776) (by decide) h0 h1 (by omega) (by omega))
  · exact leaf (k := 32) (by omega) (shift_by (d := 4294967296) (by decide) h0 h1 (by omega) (by omega))
  · exact leaf (k := 24) (by omega) (shift_by (d := 16777216) (by decide) h0 h1 (by omega) (by omega))
  · exact leaf (k := 16) (by omega) (shift_by (d := 65536) (by decide) h0 h1 (by omega) (by omega))
  · exact leaf (k := 8) (by omega) (shift_by (d := 256) (by decide) h0 h1 (by omega) (by omega))
  · first | exact leaf0 | exact leaf (k := 0) (by omega) (by omega)

end Go.Proofs.Ytkejpbfbpomjfab.tre
