/- A nil meter's Wave. -/
import Derived.Test.YthhgeobfolhpoaaVNil
import Derived.Deep.DeepCutAuto
namespace Go.Proofs.Ythhgeobfolhpoaa
open Go.RowKit

theorem zc_one : ∀ v ∈ zc, v.oneCell' = true := by
  intro v hv
  rw [List.eq_of_mem_replicate hv]; rfl
set_option maxRecDepth 100000 in
set_option maxHeartbeats 1000000 in
theorem nwave (w : World) : Calls Try.prog 22 #[.pointer none] w fun e w' => e = .returned (.agg zc.toArray) ∧ Kept [] w w' := by
  obtain ⟨W, hW⟩ : ∃ W, W = (w.alloc (.cells zc.toArray 51)).alloc (.cells zc.toArray 51) := ⟨_, rfl⟩
  have hka : Kept [] w W := by rw [hW]; exact ((Kept.refl _ _).alloc _).alloc _
  have hb0 : Blk W w.heap.size zc.toArray 51 := by rw [hW]; exact (Blk.new w zc.toArray 51).alloc _
  have hb1 : Blk W (w.heap.size + 1) zc.toArray 51 := by
    rw [hW]
    have := Blk.new (w.alloc (.cells zc.toArray 51)) zc.toArray 51
    rw [show (w.alloc (.cells zc.toArray 51)).heap.size = w.heap.size + 1 by simp] at this
    exact this
  have HRC : Hid (W.rangeAt (w.heap.size + 1) 0 zc) := fun j v hv => by rw [Nat.zero_add, hb1.cell]; simpa using hv
  have HTH : Hid (W.there w.heap.size 0 zc.toArray.size) := there_blk hb0 (by simp [zc])
  have HFB : Hid (Blk (W.setCells w.heap.size 0 zc) w.heap.size zc.toArray 51) := by
    have := blk_range zc 0 W zc hb0 (by simp)
    rw [List.take_zero, List.nil_append, List.drop_eq_nil_of_le (by simp), List.append_nil] at this
    exact this
  have HFK : Hid (Kept [] w (W.setCells w.heap.size 0 zc)) := kept_setCells (Or.inr (Nat.le_refl _)) _ _ _ hka
  have HW := hide hW
  clear hka hb0 hb1
  have hzc : zc = [.complex .f64 0 0, .complex .f64 0 0, .complex .f64 0 0, .complex .f64 0 0, .complex .f64 0 0, .complex .f64 0 0, .complex .f64 0 0, .complex .f64 0 0] := rfl
  rw [hzc] at hW
  go_enter Try.func22, Try.ntmps22
  go_upto_region 3 with fail
  rw [← hW]
  clear hW hzc
  have HSZ : Hid ((Try.prog.info? 51).map (·.size) = some zc.toArray.size) := sizeWave
  go_wp2_with (first
    | (guard_target =~ wpList _ _ _ _ _ _; refine wpList_load_mid rfl 51 _ rfl (w.heap.size + 1) 0 rfl zc _ (unhide HRC) Try.underlying51 rfl sizeWave ?_)
    | (guard_target =~ wpList _ _ _ _ _ _; refine wpList_store_mid rfl 51 _ _ rfl w.heap.size 0 zc.toArray rfl rfl (unhide HTH) (unhide HSZ) (all_oneCell_toArray zc_one) ?_))
  refine ret_arr rfl rfl (unhide HFB) Try.underlying51 (unhide HSZ) rfl ?_
  exact ⟨rfl, unhide HFK⟩
end Go.Proofs.Ythhgeobfolhpoaa
