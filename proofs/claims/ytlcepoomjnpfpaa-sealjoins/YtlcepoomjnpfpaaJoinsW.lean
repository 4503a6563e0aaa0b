/- The law SealJoins, walked. -/
import Derived.Test.YtlcepoomjnpfpaaJoins
import Derived.Deep.RegionWith
namespace Go.Proofs.Ytlcepoomjnpfpaa
open Go.RowKit

theorem cellsOf5 : Try.prog.cellsOf 5 = 1 := by kernel_rfl
theorem info5 : (Try.prog.info? 5).isSome = true := by kernel_rfl

theorem eql25 (x y : Nat) (w : World) : ∃ r : Bool, (Op.equal 25 (.agg (bytes4 x)) (.agg (bytes4 y))).run Try.prog w = .ok r w ∧ (r = true ↔ bytes4 x = bytes4 y) := by
  obtain ⟨i, hi⟩ := Option.isSome_iff_exists.1 info5
  let f (x : Nat) (i : Nat) : Nat := if i = 0 then x % 256 else if i = 1 then x / 256 % 256 else if i = 2 then x / 65536 % 256 else x / 16777216
  have hf : ∀ x i, i < 4 → (bytes4 x)[i]? = some (.int .u8 (f x i : Nat)) := by
    intro x i hi
    obtain rfl | rfl | rfl | rfl : i = 0 ∨ i = 1 ∨ i = 2 ∨ i = 3 := by omega
    all_goals rfl
  obtain ⟨r, h1, h2⟩ := run_equal_ints w Try.underlying25 Try.underlying5 hi cellsOf5 _ _ (f x) (f y) (hf x) (hf y)
  refine ⟨r, h1, h2.trans ⟨fun h => ?_, fun h i hi => ?_⟩⟩
  · have a0 := h 0 (by omega)
    have a1 := h 1 (by omega)
    have a2 := h 2 (by omega)
    have a3 := h 3 (by omega)
    simp [f] at a0 a1 a2 a3
    simp [bytes4]
    omega
  · have := hf x i hi
    rw [h, hf y i hi] at this
    simp at this
    omega

theorem eql25_same (x : Nat) (w : World) : (Op.equal 25 (.agg (bytes4 x)) (.agg (bytes4 x))).run Try.prog w = .ok true w := by
  obtain ⟨r, h1, h2⟩ := eql25 x x w
  rw [h1, h2.2 rfl]

set_option maxRecDepth 100000 in
set_option maxHeartbeats 1000000 in
theorem joins_walk (a b by' : Nat) (ha : a < 4294967296) (hb : b < 4294967296) (hy : by' < 256) (n : Int) (hn : n ≤ 9223372036854775807) (hn0 : -9223372036854775808 ≤ n) (w : World) :
    Calls Try.prog 3 #[.int .u32 a, .int .u32 b, .int .i64 n, .int .u8 by'] w fun e w' => e = .returned (.bool true) ∧ Kept [] w w' := by
  have HJ := hide (join_any a b ha hb n hn hn0)
  have HRJ := hide (rjoin_any a b ha hb n hn hn0)
  have HU := hide (turn_any a by' ha hy n hn hn0)
  have HRU := hide (rturn_any a by' ha hy n hn hn0)
  have HT := hide (tail_any a b ha hb)
  have HRT := hide (rtail_any a b ha hb)
  generalize stps (8 * n.toNat) a ^^^ b = j at HJ HRJ
  generalize stps (8 * n.toNat) (stps 8 by') ^^^ a = u at HU HRU
  obtain ⟨b0, b1, b2, b3, hb4⟩ : ∃ b0 b1 b2 b3 : Value, bytes4 (tailWord a b) = #[b0, b1, b2, b3] := ⟨_, _, _, _, rfl⟩
  have HE := hide (eql25_same (tailWord a b))
  rw [hb4] at HT HRT HE
  have h1 : (#[b0, b1, b2, b3] : Array Value).all (·.oneCell') = true := by rw [← hb4]; simp [bytes4, Value.oneCell']
  clear hb4
  go_enter Try.func3, Try.ntmps3
  go_wp2_with (first | (go_at_call 5; refine (unhide HRJ _).mono ?_; rintro e w' ⟨rfl, hq⟩; have hq' := hq.symm; subst hq') | (go_at_call 6; refine (unhide HRU _).mono ?_; rintro e w' ⟨rfl, hq⟩; have hq' := hq.symm; subst hq') | (go_at_call 7; refine (unhide HRT _).mono ?_; rintro e w1 ⟨rfl, hk1⟩) | (guard_target =~ wpList _ _ _ _ _ _; refine wpList_store_arr _ _ 25 rfl rfl w1.heap.size _ #[b0, b1, b2, b3] rfl rfl (Blk.new _ _ _) info25 rfl h1 rfl ?_))
  refine world_at (R := fun wr => Blk wr w1.heap.size #[b0, b1, b2, b3] 25 ∧ Kept [] w wr) ⟨(Blk.new _ _ _).row, (hk1.alloc _).row (Or.inr hk1.size) _⟩ ?_
  rintro wr ⟨hb5, hk⟩
  have HB := hide hb5
  have HK := hide hk
  have hlt := hb5.lt
  clear hk1 hb5 hk
  have HC : Hid (∀ wx, Kept [] wr wx → wx.cell? ⟨w1.heap.size, 0, none⟩ = some b0 ∧ wx.cell? ⟨w1.heap.size, 1, none⟩ = some b1 ∧ wx.cell? ⟨w1.heap.size, 2, none⟩ = some b2 ∧ wx.cell? ⟨w1.heap.size, 3, none⟩ = some b3) := by
    intro wx hx
    have := (unhide HB).kept hx (by simp)
    exact ⟨by rw [this.cell]; rfl, by rw [this.cell]; rfl, by rw [this.cell]; rfl, by rw [this.cell]; rfl⟩
  have he : ∀ wx, Sem.run Try.prog (Op.equalIn 10000 25 (Value.agg #[b0, b1, b2, b3]) (Value.agg #[b0, b1, b2, b3])) wx = Result.ok true wx := unhide HE
  go_region_with (first
    | (go_at_call 8; refine (unhide HJ _).mono ?_; rintro e w2 ⟨rfl, hk2⟩; have HK2 : Hid (Kept [] wr w2) := ((Kept.refl [] wr).drew).trans hk2 (by simp); clear hk2)
    | (go_at_call 9; refine (unhide HU _).mono ?_; rintro e w3 ⟨rfl, hk3⟩; have HK3 : Hid (Kept [] wr w3) := (unhide HK2).trans hk3 (by simp); obtain ⟨c0, c1, c2, c3⟩ := unhide HC w3 (unhide HK3); clear hk3)
    | (go_at_call 10; refine (unhide HT _).mono ?_; rintro e w4 ⟨rfl, hk4⟩; have HK4 : Hid (Kept [] wr w4) := (unhide HK3).trans hk4 (by simp); obtain ⟨d0, d1, d2, d3⟩ := unhide HC w4 (unhide HK4); clear hk4))
  all_goals
    go_wp2
    go_ret
    exact ⟨rfl, (unhide HK).trans (unhide HK4) (by simp)⟩
end Go.Proofs.Ytlcepoomjnpfpaa
