/- New. -/
import Derived.Test.YthhgeobfolhpoaaVHit
namespace Go.Proofs.Ythhgeobfolhpoaa
open Go.RowKit

theorem infoFp : (Try.prog.info? 46).map (fun i => (i.zero, i.size, i.bytes)) = some (some (.float .f64 0), 1, 8) := by kernel_rfl
theorem madeF (n : Nat) : madeCells (Value.float .f64 0).cells n = (flts (List.replicate n 0)).toArray := by
  apply Array.ext_getElem?
  intro i
  by_cases hi : i < n
  · have e1 : (flts (List.replicate n 0)).toArray[i]? = some (.float .f64 0) := by
      simp only [flts, List.getElem?_toArray, List.getElem?_map, List.getElem?_replicate, if_pos hi]; rfl
    rw [e1]
    have hv : (Value.float .f64 0).cells = #[.float .f64 0] := rfl
    rw [hv]
    simp [madeCells, hi, Nat.mod_one]
  · rw [Array.getElem?_eq_none (by rw [size_madeCells]; omega), Array.getElem?_eq_none (by simp [flts_length]; omega)]
theorem wpList_make_flts (w : World) {ops : Array Oper} {rest : List Oper} {o : Oper} {a : Act} {Q : Exit → Act → World → Prop} (hg : o.guard = none) (l c : Operand) (hop : o.op = Op.makeSlice 43 l c) (n : Nat) (hn : n ≤ 64)
    (hl : a.eval l = .int .i64 (n : Int)) (hc : a.eval c = .int .i64 (n : Int))
    (hK : wpList Try.prog ops Q rest (a.put o.dst (.slice (some ⟨w.heap.size, 0, none⟩) n n)) (w.alloc (.cells (flts (List.replicate n 0)).toArray 46))) : wpList Try.prog ops Q (o :: rest) a w := by
  obtain ⟨i0, hi, hz0, hz1, hz2⟩ := info_parts infoFp
  refine wpList_plain hg fun K hK' => ?_
  have hr := run_make (P := Try.prog) w 43 46 i0 _ Try.underlying43 hi hz0 .i64 .i64 n n (by omega) (by omega) (by rw [hz2]; omega) (by omega)
  simp only [Int.toNat_natCast, hz1, Nat.mul_one] at hr
  rw [madeF] at hr
  unfold Oper.wp
  simp [execOp, hop, hl, hc, hr, Result.andThen]
  exact hK' _ _ hK

set_option maxRecDepth 100000 in
set_option maxHeartbeats 2000000 in
theorem new_yes (w : World) {n h : Nat} (h1 : 1 ≤ n) (h2 : n ≤ 64) (h3 : 1 ≤ h) (h4 : h ≤ 1048576) : Calls Try.prog 9 #[.int .i64 (n : Int), .int .i64 (h : Int)] w fun e w' => ∃ b g, e = .returned (.tuple #[.pointer (some ⟨b, 0, none⟩), .int .i64 0]) ∧ Mp w' b g (Mt.new n h) ∧ Kept [] w w' ∧ w.heap.size ≤ b ∧ w.heap.size ≤ g := by
  have t1 : ((n : Int) < 1) = False := by simp; omega
  have t2 : ((64 : Int) < (n : Int)) = False := by simp; omega
  have t3 : ((h : Int) < 1) = False := by simp; omega
  have t4 : ((1048576 : Int) < (h : Int)) = False := by simp; omega
  go_enter Try.func9, Try.ntmps9
  go_wp2_with (first | (at_make; refine wpList_make_flts _ rfl _ _ rfl n h2 rfl rfl ?_))
  go_ret2
  refine ⟨_, w.heap.size, rfl, ⟨Mt.new_ok h1 h2 h3 h4, ?_, ?_, ?_⟩, ((Kept.refl _ _).alloc _).alloc _, ?_, Nat.le_refl _⟩
  · have := Blk.new (w.alloc (.cells (flts (List.replicate n 0)).toArray 46)) (mcells (Mt.new n h) w.heap.size).toArray 65
    simpa [mcells, Mt.new, flts] using this
  · exact (Blk.new _ _ _).alloc _
  · simp
  · simp
/-- may a meter be made so -/
def fits (s h : Int) : Prop := 1 ≤ s ∧ s ≤ 64 ∧ 1 ≤ h ∧ h ≤ 1048576
instance (s h : Int) : Decidable (fits s h) := by unfold fits; infer_instance
set_option maxRecDepth 100000 in
theorem new_no (w : World) {s h : Int} (hx : ¬ fits s h) : Calls Try.prog 9 #[.int .i64 s, .int .i64 h] w fun e w' => e = .returned (.tuple #[.pointer none, .int .i64 2]) ∧ w' = w := by
  unfold fits at hx
  by_cases h1 : s < 1
  · have t1 : (s < 1) = True := by simp; omega
    clear hx h1
    go_enter Try.func9, Try.ntmps9
    go_wp2
    go_ret2
    exact ⟨rfl, rfl⟩
  · have t1 : (s < 1) = False := by simp; omega
    by_cases h2 : 64 < s
    · have t2 : ((64 : Int) < s) = True := by simp; omega
      clear hx h1 h2
      go_enter Try.func9, Try.ntmps9
      go_wp2
      go_ret2
      exact ⟨rfl, rfl⟩
    · have t2 : ((64 : Int) < s) = False := by simp; omega
      by_cases h3 : h < 1
      · have t3 : (h < 1) = True := by simp; omega
        clear hx h1 h2 h3
        go_enter Try.func9, Try.ntmps9
        go_wp2
        go_ret2
        exact ⟨rfl, rfl⟩
      · have t3 : (h < 1) = False := by simp; omega
        have t4 : ((1048576 : Int) < h) = True := by simp; omega
        clear hx h1 h2 h3
        go_enter Try.func9, Try.ntmps9
        go_wp2
        go_ret2
        exact ⟨rfl, rfl⟩
theorem new_yesI (w : World) {s h : Int} (hx : fits s h) : Calls Try.prog 9 #[.int .i64 s, .int .i64 h] w fun e w' => ∃ b g, e = .returned (.tuple #[.pointer (some ⟨b, 0, none⟩), .int .i64 0]) ∧ Mp w' b g (Mt.new s.toNat h.toNat) ∧ Kept [] w w' ∧ w.heap.size ≤ b ∧ w.heap.size ≤ g := by
  unfold fits at hx
  have := new_yes w (n := s.toNat) (h := h.toNat) (by omega) (by omega) (by omega) (by omega)
  rwa [show ((s.toNat : Nat) : Int) = s by omega, show ((h.toNat : Nat) : Int) = h by omega] at this
end Go.Proofs.Ythhgeobfolhpoaa
