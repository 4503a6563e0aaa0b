/- The law's step: Go, what is asked, Row, Wave. -/
import Derived.Test.YthhgeobfolhpoaaVPl3
namespace Go.Proofs.Ythhgeobfolhpoaa
open Go.RowKit

theorem wre_fin {w : World} {p : Value} {X : List Nat} {o : Option Mt} (h : Mh w p X o) (k : Nat) : fin (wre o k) := by
  cases o with
  | none => exact fin_zero
  | some m => exact wv_fin re_part h.ok.wi k 8
theorem wim_fin {w : World} {p : Value} {X : List Nat} {o : Option Mt} (h : Mh w p X o) (k : Nat) : fin (wim o k) := by
  cases o with
  | none => exact fin_zero
  | some m => exact wv_fin im_part h.ok.wi k 8
theorem ne_self {a : Nat} (h : fin a) : (FloatKind.f64.format.order a a != some Ordering.eq) = false := by
  have := eq_fin h
  simpa [bne] using this
theorem wav_one (s : Option Mt) : ∀ v ∈ wavO s, v.oneCell' = true := cplx_one _ (by
  intro v hv
  obtain ⟨k, -, rfl⟩ := List.mem_map.1 hv
  exact ⟨_, _, rfl⟩)
theorem wav_size (s : Option Mt) : (Try.prog.info? 51).map (·.size) = some (wavO s).length := by
  rw [show (wavO s).length = 8 by simp [wavO]]; exact sizeWave
theorem wav_at (s : Option Mt) {k : Nat} (hk : k < 8) : (wavO s).toArray[k]? = some (.complex .f64 (wre s k) (wim s k)) := by simp [wavO, hk]

set_option maxRecDepth 100000 in
set_option maxHeartbeats 1000000 in
theorem step_wave {w : World} {p q : Value} {X Y : List Nat} {s : Option Mt} {N : Nat} {o : OpM} (h : StepIn w p q X Y s N o) (hk : o.kind = 5) :
    Calls Try.prog 13 #[p, q, .agg (oc o).toArray] w fun e w' => e = .returned (.bool true) ∧ Out w p q X Y N w' := by
  rcases o with ⟨kd, who, sh, nw, wt⟩
  simp only at hk
  subst hk
  obtain ⟨W, hW⟩ : ∃ W, W = w.alloc (.cells (oc ⟨5, who, sh, nw, wt⟩).toArray 36) := ⟨_, rfl⟩
  have hka : Kept [] w W := by rw [hW]; exact (Kept.refl _ _).alloc _
  have hB : Blk W w.heap.size (oc ⟨5, who, sh, nw, wt⟩).toArray 36 := by rw [hW]; exact Blk.new _ _ _
  have HBX : Hid (w.heap.size ∉ X) := fun hm => by have := h.mh.1 _ hm; omega
  have HBY : Hid (w.heap.size ∉ Y) := fun hm => by have := h.dh.1 _ hm; omega
  have HEND : Hid (∀ w', Out W p q X Y N w' → Out w p q X Y N w') := fun w' hw => out_after hka hw
  have HH := hide (h.quiet hka)
  have HB := hide hB
  have d0 : W.cell? ⟨w.heap.size, 0, none⟩ = some (.int .i64 5) := by rw [hB.cell]; simp [oc]
  have d2 : W.cell? ⟨w.heap.size, 2, none⟩ = some (.int .i64 sh) := by rw [hB.cell]; simp [oc]
  have d3 : W.cell? ⟨w.heap.size, 3, none⟩ = some (.int .i64 nw) := by rw [hB.cell]; simp [oc]
  have hoc : (oc ⟨5, who, sh, nw, wt⟩).toArray = #[.int .i64 5, .int .i64 who, .int .i64 sh, .int .i64 nw, .int .u64 (wt : Int)] := rfl
  rw [hoc] at hW ⊢
  clear h hB hka hoc
  have HA := hide (wave_h (unhide HH).mh)
  go_enter Try.func13, Try.ntmps13
  go_wp2_with fail
  rw [← hW]
  clear hW
  have HON := hide (wav_one s)
  have HSZ := hide (wav_size s)
  go_wp2_with (first
    | (go_at_call 22; refine (unhide HA).mono ?_; rintro e w1 ⟨rfl, hk1⟩; have HK1 := hide hk1; clear HA hk1)
    | (guard_target =~ wpList _ _ _ _ _ _; refine wpList_store_newC _ _ 51 _ (wavO s) rfl rfl rfl rfl (unhide HSZ) rfl (unhide HON) rfl ?_))
  have HB1 := hide (Blk.new w1 (wavO s).toArray 51)
  have HKA := hide ((unhide HK1).alloc (.cells (wavO s).toArray 51))
  go_loopw [9] (fun i wr => ∃ k : Nat, k ≤ 8 ∧ i = .int .i64 (k : Int) ∧ Kept [] W wr ∧ Blk wr w1.heap.size (wavO s).toArray 51) (fun i _ => 8 - (intOf i).toNat)
  case atStart => exact ⟨0, by omega, rfl, unhide HKA, unhide HB1⟩
  case round =>
    clear HKA HB1
    obtain ⟨k, hk, rfl, hkp, hbk⟩ := hrel
    have HKP := hide hkp
    have HBK := hide hbk
    by_cases hlt : k < 8
    · have HC := hide (rwave_h ((unhide HH).dh.quiet hkp) (by have := (unhide HH).n; omega) hlt)
      have t1 : (k : Int) < 8 := by omega
      have t0 : (0 : Int) ≤ (k : Int) := by omega
      have u1 := ne_self (wre_fin (unhide HH).mh k)
      have u2 := ne_self (wim_fin (unhide HH).mh k)
      have HAT := hide (wav_at s hlt)
      generalize wre s k = a at *
      generalize wim s k = b at *
      clear hkp hbk
      go_wp2_with (first
        | (go_at_call 38; refine (unhide HC).mono ?_; rintro e w2 ⟨rfl, hk2⟩; have HK2 := hide ((unhide HKP).trans hk2 (by simp)); have HB2 := hide ((unhide HBK).kept hk2 (by simp)); have c2 := ((unhide HB2).cell k).trans (unhide HAT); clear HC hk2))
      exact ⟨⟨k + 1, by omega, by simp, unhide HK2, unhide HB2⟩, by simp [intOf]; omega⟩
    · obtain rfl : k = 8 := by omega
      clear hkp hbk
      go_wp2_with fail
      go_ret
      exact ⟨rfl, unhide HEND _ (out_quiet (unhide HH) (unhide HKP))⟩

set_option maxRecDepth 100000 in
set_option maxHeartbeats 1000000 in
theorem step_else {w : World} {p q : Value} {X Y : List Nat} {s : Option Mt} {N : Nat} {o : OpM} (h : StepIn w p q X Y s N o) (h1 : (o.kind == 1) = false) (h2 : (o.kind == 2) = false) (h3 : (o.kind == 3) = false) (h4 : (o.kind == 4) = false) (h5 : (o.kind == 5) = false) :
    Calls Try.prog 13 #[p, q, .agg (oc o).toArray] w fun e w' => e = .returned (.bool true) ∧ Out w p q X Y N w' := by
  have HO := hide (out_quiet h ((Kept.refl [] w).alloc (.cells (oc o).toArray 36)))
  rcases o with ⟨kd, who, sh, nw, wt⟩
  simp only at h1 h2 h3 h4 h5
  simp only [oc]
  simp only [oc] at HO
  clear h
  go_enter Try.func13, Try.ntmps13
  go_wp2_with fail
  go_ret
  exact ⟨rfl, unhide HO⟩
end Go.Proofs.Ythhgeobfolhpoaa
