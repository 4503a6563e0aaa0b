/- The law's step: Go, what is asked, Row, Wave. -/
import Derived.Test.YthhgeobfolhpoaaVPl2
namespace Go.Proofs.Ythhgeobfolhpoaa
open Go.RowKit

theorem good_zero : good 0 := by unfold good; omega
theorem ofO_good {w : World} {p : Value} {X : List Nat} {o : Option Mt} (h : Mh w p X o) (s : Int) : good (ofO o s) := by
  cases o with
  | none => exact good_zero
  | some m =>
    show good (m.of s)
    unfold Mt.of
    split
    · exact good_zero
    · exact (h.ok.lo _).good
theorem sumO_good {w : World} {p : Value} {X : List Nat} {o : Option Mt} (h : Mh w p X o) : good (sumO o) := by
  cases o with
  | none => exact good_zero
  | some m => exact (Mt.sum_mid h.ok _).good
theorem meanO_good {w : World} {p : Value} {X : List Nat} {o : Option Mt} (h : Mh w p X o) : good (meanO o) := by
  cases o with
  | none => exact good_zero
  | some m => exact Mt.mean_good h.ok
theorem sprO_good {w : World} {p : Value} {X : List Nat} {o : Option Mt} (h : Mh w p X o) : good (sprO o) := by
  cases o with
  | none => exact good_zero
  | some m => exact Mt.spread_good h.ok
theorem rowO_good {w : World} {p : Value} {X : List Nat} {o : Option Mt} (h : Mh w p X o) : (rowO o).length ≤ 64 ∧ ∀ j, good ((rowO o).getD j 0) := by
  cases o with
  | none => exact ⟨by simp [rowO], fun j => good_zero⟩
  | some m => exact ⟨h.ok.l2, fun j => (h.ok.lo j).good⟩

set_option maxRecDepth 100000 in
set_option maxHeartbeats 1000000 in
theorem step_go {w : World} {p q : Value} {X Y : List Nat} {s : Option Mt} {N : Nat} {o : OpM} (h : StepIn w p q X Y s N o) (hk : o.kind = 2) :
    Calls Try.prog 13 #[p, q, .agg (oc o).toArray] w fun e w' => e = .returned (.bool true) ∧ Out w p q X Y N w' := by
  rcases o with ⟨kd, who, sh, nw, wt⟩
  simp only at hk
  subst hk
  obtain ⟨W, hW⟩ : ∃ W, W = w.alloc (.cells (oc ⟨2, who, sh, nw, wt⟩).toArray 36) := ⟨_, rfl⟩
  have hka : Kept [] w W := by rw [hW]; exact (Kept.refl _ _).alloc _
  have hB : Blk W w.heap.size (oc ⟨2, who, sh, nw, wt⟩).toArray 36 := by rw [hW]; exact Blk.new _ _ _
  have HBX : Hid (w.heap.size ∉ X) := fun hm => by have := h.mh.1 _ hm; omega
  have HBY : Hid (w.heap.size ∉ Y) := fun hm => by have := h.dh.1 _ hm; omega
  have HEND : Hid (∀ w', Out W p q X Y N w' → Out w p q X Y N w') := fun w' hw => out_after hka hw
  have HH := hide (h.quiet hka)
  have HB := hide hB
  have d0 : W.cell? ⟨w.heap.size, 0, none⟩ = some (.int .i64 2) := by rw [hB.cell]; simp [oc]
  have d2 : W.cell? ⟨w.heap.size, 2, none⟩ = some (.int .i64 sh) := by rw [hB.cell]; simp [oc]
  have d3 : W.cell? ⟨w.heap.size, 3, none⟩ = some (.int .i64 nw) := by rw [hB.cell]; simp [oc]
  have hoc : (oc ⟨2, who, sh, nw, wt⟩).toArray = #[.int .i64 2, .int .i64 who, .int .i64 sh, .int .i64 nw, .int .u64 (wt : Int)] := rfl
  rw [hoc] at hW ⊢
  clear h hB hka hoc
  have HNM := fun x W => hide (num_any W x)
  have HHI : Hid (∀ W', Quiet W W' → Calls Try.prog 18 #[p, .int .i64 nw] W' fun e w' => e = .returned (.int .i64 (errG s nw : Nat)) ∧ Mh w' p X (onG s nw) ∧ Nx X W X w') := fun W' hq => (go_h ((unhide HH).mh.quiet hq.kept) nw).mono fun e w' ⟨he, h1, h2⟩ => ⟨he, h1, Nx.after hq.kept h2⟩
  generalize hE : errG s nw = er at *
  have HE := hide hE
  clear hE
  go_enter Try.func13, Try.ntmps13
  go_wp2_with fail
  rw [← hW]
  clear hW
  go_wp2_with fail
  go_region_held3 (fun w' => w'.cell? ⟨w.heap.size, 3, none⟩ = some (.int .i64 nw)) (first | (with_reducible exact d3) | exact HS1 | exact HS2 | exact d3) (first
      | (go_at_call 18; refine (unhide HHI _ (by first | exact Quiet.refl _ | exact (Quiet.refl _).drew | exact (Quiet.refl _).drewN _)).mono ?_; rintro e w1 ⟨rfl, hm1, hn1⟩
         have HM1 := hide hm1
         have HN1 := hide hn1
         have HB1 := hide ((unhide HB).kept hn1.kept (unhide HBX))
         have HS1 := (unhide HB1).cell 3; simp [oc] at HS1
         have HRH : Hid (∀ W', Quiet w1 W' → Calls Try.prog 31 #[q, .int .i64 nw] W' fun e w' => e = .returned (.int .i64 (er : Nat)) ∧ Dh w' q Y (onG s nw) N ∧ Nx Y w1 Y w') := fun W' hq => by
           have h0 := rgo_h ((((unhide HH).dh.keep (unhide HN1).kept (fun x hx hm => (unhide HH).ap x hm hx)).quiet hq.kept)) nw
           simp only [unhide HE] at h0
           exact h0.mono fun e w' ⟨he, h1, h2⟩ => ⟨he, h1, Nx.after hq.kept h2⟩
         clear HHI hm1 hn1 d3)
      | (go_at_call 31; refine (unhide HRH _ (by first | exact Quiet.refl _ | exact (Quiet.refl _).drew | exact (Quiet.refl _).drewN _)).mono ?_; rintro e w3 ⟨rfl, hd3, hn3⟩
         have HD3 := hide hd3
         have HN3 := hide hn3
         have HB3 := hide ((unhide HB1).kept hn3.kept (unhide HBY))
         have HS2 := (unhide HB3).cell 3; simp [oc] at HS2
         clear HRH hd3 hn3)
      | (go_at_call 11; refine (unhide (HNM _ _)).mono ?_; rintro e wq ⟨rfl, hq⟩; have hq' := hq.symm; subst hq'; clear hq))
  go_wp2_with fail
  go_ret
  refine ⟨?_, unhide HEND _ (out_mk (unhide HH).mh.1 (unhide HH).ap (unhide HM1) (unhide HN1) (Kept.refl _ _) ((unhide HD3).more (by omega)) (unhide HN3) (Kept.refl _ _))⟩
  first | rfl | simp

set_option maxRecDepth 100000 in
set_option maxHeartbeats 1000000 in
theorem step_row {w : World} {p q : Value} {X Y : List Nat} {s : Option Mt} {N : Nat} {o : OpM} (h : StepIn w p q X Y s N o) (hk : o.kind = 4) :
    Calls Try.prog 13 #[p, q, .agg (oc o).toArray] w fun e w' => e = .returned (.bool true) ∧ Out w p q X Y N w' := by
  rcases o with ⟨kd, who, sh, nw, wt⟩
  simp only at hk
  subst hk
  obtain ⟨W, hW⟩ : ∃ W, W = w.alloc (.cells (oc ⟨4, who, sh, nw, wt⟩).toArray 36) := ⟨_, rfl⟩
  have hka : Kept [] w W := by rw [hW]; exact (Kept.refl _ _).alloc _
  have hB : Blk W w.heap.size (oc ⟨4, who, sh, nw, wt⟩).toArray 36 := by rw [hW]; exact Blk.new _ _ _
  have HBX : Hid (w.heap.size ∉ X) := fun hm => by have := h.mh.1 _ hm; omega
  have HBY : Hid (w.heap.size ∉ Y) := fun hm => by have := h.dh.1 _ hm; omega
  have HEND : Hid (∀ w', Out W p q X Y N w' → Out w p q X Y N w') := fun w' hw => out_after hka hw
  have HH := hide (h.quiet hka)
  have HB := hide hB
  have d0 : W.cell? ⟨w.heap.size, 0, none⟩ = some (.int .i64 4) := by rw [hB.cell]; simp [oc]
  have d2 : W.cell? ⟨w.heap.size, 2, none⟩ = some (.int .i64 sh) := by rw [hB.cell]; simp [oc]
  have d3 : W.cell? ⟨w.heap.size, 3, none⟩ = some (.int .i64 nw) := by rw [hB.cell]; simp [oc]
  have hoc : (oc ⟨4, who, sh, nw, wt⟩).toArray = #[.int .i64 4, .int .i64 who, .int .i64 sh, .int .i64 nw, .int .u64 (wt : Int)] := rfl
  rw [hoc] at hW ⊢
  clear h hB hka hoc
  have HA := hide (row_h (unhide HH).mh)
  obtain ⟨HG1, HG2⟩ := rowO_good (unhide HH).mh
  have HG := hide HG2
  have HGL := hide HG1
  clear HG1 HG2
  go_enter Try.func13, Try.ntmps13
  go_wp2_with fail
  rw [← hW]
  clear hW
  go_wp2_with (first
    | (go_at_call 17; refine (unhide HA).mono ?_; rintro e w1 ⟨v1, rfl, hs1, hk1⟩; have HS1 := hide hs1; have HK1 := hide hk1; clear HA hs1 hk1; have HC := hide (rrow_h ((unhide HH).dh.quiet (unhide HK1)) (by have := (unhide HH).n; omega)))
    | (go_at_call 37; refine (unhide HC).mono ?_; rintro e w2 ⟨v2, rfl, hs2, hk2⟩; have HK2 := hide ((unhide HK1).trans hk2 (by simp)); have HSM := hide (rows_same ((unhide HS1).kept hk2 (Or.inr (by simp))) hs2 (by have := unhide HGL; omega) (unhide HG)); clear HC hs2 hk2)
    | (go_at_call 21; refine (unhide HSM).mono ?_; rintro e w3 ⟨rfl, hq3⟩; have HK3 := hide ((unhide HK2).trans hq3.kept (by simp)); clear HSM hq3))
  go_ret
  exact ⟨rfl, unhide HEND _ (out_quiet (unhide HH) (unhide HK3))⟩

end Go.Proofs.Ythhgeobfolhpoaa
