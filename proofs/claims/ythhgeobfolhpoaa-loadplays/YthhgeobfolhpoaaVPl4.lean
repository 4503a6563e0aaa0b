/- The law's step: Go, what is asked, Row, Wave. -/
import Derived.Test.YthhgeobfolhpoaaVPl3
namespace Go.Proofs.Ythhgeobfolhpoaa
open Go.RowKit

set_option maxRecDepth 100000 in
set_option maxHeartbeats 1000000 in
theorem step_ask {w : World} {p q : Value} {X Y : List Nat} {s : Option Mt} {N : Nat} {o : OpM} (h : StepIn w p q X Y s N o) (hk : o.kind = 3) :
    Calls Try.prog 13 #[p, q, .agg (oc o).toArray] w fun e w' => e = .returned (.bool true) ∧ Out w p q X Y N w' := by
  rcases o with ⟨kd, who, sh, nw, wt⟩
  simp only at hk
  subst hk
  obtain ⟨W, hW⟩ : ∃ W, W = w.alloc (.cells (oc ⟨3, who, sh, nw, wt⟩).toArray 36) := ⟨_, rfl⟩
  have hka : Kept [] w W := by rw [hW]; exact (Kept.refl _ _).alloc _
  have hB : Blk W w.heap.size (oc ⟨3, who, sh, nw, wt⟩).toArray 36 := by rw [hW]; exact Blk.new _ _ _
  have HBX : Hid (w.heap.size ∉ X) := fun hm => by have := h.mh.1 _ hm; omega
  have HBY : Hid (w.heap.size ∉ Y) := fun hm => by have := h.dh.1 _ hm; omega
  have HEND : Hid (∀ w', Out W p q X Y N w' → Out w p q X Y N w') := fun w' hw => out_after hka hw
  have HH := hide (h.quiet hka)
  have HB := hide hB
  have d0 : W.cell? ⟨w.heap.size, 0, none⟩ = some (.int .i64 3) := by rw [hB.cell]; simp [oc]
  have d2 : W.cell? ⟨w.heap.size, 2, none⟩ = some (.int .i64 sh) := by rw [hB.cell]; simp [oc]
  have d3 : W.cell? ⟨w.heap.size, 3, none⟩ = some (.int .i64 nw) := by rw [hB.cell]; simp [oc]
  have hoc : (oc ⟨3, who, sh, nw, wt⟩).toArray = #[.int .i64 3, .int .i64 who, .int .i64 sh, .int .i64 nw, .int .u64 (wt : Int)] := rfl
  rw [hoc] at hW ⊢
  clear h hB hka hoc
  have HA1 : Hid (∀ W', Kept [] W W' → Calls Try.prog 20 #[p, .int .i64 sh] W' fun e w' => e = .returned (.float .f64 (ofO s sh)) ∧ Kept [] W w') := fun W' hk => (of_h ((unhide HH).mh.quiet hk) sh).mono fun e w' ⟨he, h1⟩ => ⟨he, hk.trans h1 (by simp)⟩
  have HC1 : Hid (∀ W', Kept [] W W' → Calls Try.prog 32 #[q, .int .i64 sh] W' fun e w' => e = .returned (.float .f64 (ofO s sh)) ∧ Kept [] W w') := fun W' hk => (rof_h ((unhide HH).dh.quiet hk) sh (by have := (unhide HH).n; omega)).mono fun e w' ⟨he, h1⟩ => ⟨he, hk.trans h1 (by simp)⟩
  have HA2 : Hid (∀ W', Kept [] W W' → Calls Try.prog 26 #[p] W' fun e w' => e = .returned (.float .f64 (sumO s)) ∧ Kept [] W w') := fun W' hk => (sum_h ((unhide HH).mh.quiet hk)).mono fun e w' ⟨he, h1⟩ => ⟨he, hk.trans h1 (by simp)⟩
  have HC2 : Hid (∀ W', Kept [] W W' → Calls Try.prog 33 #[q] W' fun e w' => e = .returned (.float .f64 (sumO s)) ∧ Kept [] W w') := fun W' hk => (rsum_h ((unhide HH).dh.quiet hk) (by have := (unhide HH).n; omega)).mono fun e w' ⟨he, h1⟩ => ⟨he, hk.trans h1 (by simp)⟩
  have HA3 : Hid (∀ W', Kept [] W W' → Calls Try.prog 27 #[p] W' fun e w' => e = .returned (.float .f64 (meanO s)) ∧ Kept [] W w') := fun W' hk => (mean_h ((unhide HH).mh.quiet hk)).mono fun e w' ⟨he, h1⟩ => ⟨he, hk.trans h1 (by simp)⟩
  have HC3 : Hid (∀ W', Kept [] W W' → Calls Try.prog 34 #[q] W' fun e w' => e = .returned (.float .f64 (meanO s)) ∧ Kept [] W w') := fun W' hk => (rmean_h ((unhide HH).dh.quiet hk) (by have := (unhide HH).n; omega)).mono fun e w' ⟨he, h1⟩ => ⟨he, hk.trans h1 (by simp)⟩
  have HA4 : Hid (∀ W', Kept [] W W' → Calls Try.prog 23 #[p] W' fun e w' => e = .returned (.float .f64 (sprO s)) ∧ Kept [] W w') := fun W' hk => (spread_h ((unhide HH).mh.quiet hk)).mono fun e w' ⟨he, h1⟩ => ⟨he, hk.trans h1 (by simp)⟩
  have HC4 : Hid (∀ W', Kept [] W W' → Calls Try.prog 35 #[q] W' fun e w' => e = .returned (.float .f64 (sprO s)) ∧ Kept [] W w') := fun W' hk => (rspread_h ((unhide HH).dh.quiet hk) (by have := (unhide HH).n; omega)).mono fun e w' ⟨he, h1⟩ => ⟨he, hk.trans h1 (by simp)⟩
  have HA5 : Hid (∀ W', Kept [] W W' → Calls Try.prog 28 #[p] W' fun e w' => e = .returned (.int .i64 (topO s)) ∧ Kept [] W w') := fun W' hk => (top_h ((unhide HH).mh.quiet hk)).mono fun e w' ⟨he, h1⟩ => ⟨he, hk.trans h1 (by simp)⟩
  have HC5 : Hid (∀ W', Kept [] W W' → Calls Try.prog 36 #[q] W' fun e w' => e = .returned (.int .i64 (topO s)) ∧ Kept [] W w') := fun W' hk => (rtop_h ((unhide HH).dh.quiet hk) (by have := (unhide HH).n; omega)).mono fun e w' ⟨he, h1⟩ => ⟨he, hk.trans h1 (by simp)⟩
  have HL1 := fun W => hide (like_same W (ofO_good (unhide HH).mh sh))
  have HL2 := fun W => hide (like_same W (sumO_good (unhide HH).mh))
  have HL3 := fun W => hide (like_same W (meanO_good (unhide HH).mh))
  have HL4 := fun W => hide (like_same W (sprO_good (unhide HH).mh))
  generalize ofO s sh = v1 at *
  generalize sumO s = v2 at *
  generalize meanO s = v3 at *
  generalize sprO s = v4 at *
  generalize topO s = v5 at *
  have hKl : Kept [] W W := Kept.refl _ _
  have HCE : Hid (∀ W', Kept [] W W' → W'.cell? ⟨w.heap.size, 2, none⟩ = some (.int .i64 sh)) := fun W' hk => (hk.cell (p := ⟨w.heap.size, 2, none⟩) (unhide HB).lt (by simp)).trans d2
  go_enter Try.func13, Try.ntmps13
  go_wp2_with fail
  rw [← hW]
  clear hW
  go_wp2_with fail
  go_region_held3 (fun w' => w'.cell? ⟨w.heap.size, 2, none⟩ = some (.int .i64 sh)) (first | (with_reducible exact d2) | exact unhide HCE _ (by first | exact hKl | exact hKl.drew | exact hKl.drewN _)) (first
      | (go_at_call 20; refine (unhide HA1 _ (by first | exact hKl | exact hKl.drew | exact hKl.drewN _)).mono ?_; rintro e wa1 ⟨rfl, hKn⟩; clear hKl; have hKl := hKn; clear hKn)
      | (go_at_call 32; refine (unhide HC1 _ (by first | exact hKl | exact hKl.drew | exact hKl.drewN _)).mono ?_; rintro e wb1 ⟨rfl, hKn⟩; clear hKl; have hKl := hKn; clear hKn)
      | (go_at_call 26; refine (unhide HA2 _ (by first | exact hKl | exact hKl.drew | exact hKl.drewN _)).mono ?_; rintro e wa2 ⟨rfl, hKn⟩; clear hKl; have hKl := hKn; clear hKn)
      | (go_at_call 33; refine (unhide HC2 _ (by first | exact hKl | exact hKl.drew | exact hKl.drewN _)).mono ?_; rintro e wb2 ⟨rfl, hKn⟩; clear hKl; have hKl := hKn; clear hKn)
      | (go_at_call 27; refine (unhide HA3 _ (by first | exact hKl | exact hKl.drew | exact hKl.drewN _)).mono ?_; rintro e wa3 ⟨rfl, hKn⟩; clear hKl; have hKl := hKn; clear hKn)
      | (go_at_call 34; refine (unhide HC3 _ (by first | exact hKl | exact hKl.drew | exact hKl.drewN _)).mono ?_; rintro e wb3 ⟨rfl, hKn⟩; clear hKl; have hKl := hKn; clear hKn)
      | (go_at_call 23; refine (unhide HA4 _ (by first | exact hKl | exact hKl.drew | exact hKl.drewN _)).mono ?_; rintro e wa4 ⟨rfl, hKn⟩; clear hKl; have hKl := hKn; clear hKn)
      | (go_at_call 35; refine (unhide HC4 _ (by first | exact hKl | exact hKl.drew | exact hKl.drewN _)).mono ?_; rintro e wb4 ⟨rfl, hKn⟩; clear hKl; have hKl := hKn; clear hKn)
      | (go_at_call 28; refine (unhide HA5 _ (by first | exact hKl | exact hKl.drew | exact hKl.drewN _)).mono ?_; rintro e wa5 ⟨rfl, hKn⟩; clear hKl; have hKl := hKn; clear hKn)
      | (go_at_call 36; refine (unhide HC5 _ (by first | exact hKl | exact hKl.drew | exact hKl.drewN _)).mono ?_; rintro e wb5 ⟨rfl, hKn⟩; clear hKl; have hKl := hKn; clear hKn)
      | (go_at_call_of 19 (Value.float FloatKind.f64 v1); refine (unhide (HL1 _)).mono ?_; rintro e wq ⟨rfl, hq⟩; have hq' := hq.symm; subst hq'; clear hq)
      | (go_at_call_of 19 (Value.float FloatKind.f64 v2); refine (unhide (HL2 _)).mono ?_; rintro e wq ⟨rfl, hq⟩; have hq' := hq.symm; subst hq'; clear hq)
      | (go_at_call_of 19 (Value.float FloatKind.f64 v3); refine (unhide (HL3 _)).mono ?_; rintro e wq ⟨rfl, hq⟩; have hq' := hq.symm; subst hq'; clear hq)
      | (go_at_call_of 19 (Value.float FloatKind.f64 v4); refine (unhide (HL4 _)).mono ?_; rintro e wq ⟨rfl, hq⟩; have hq' := hq.symm; subst hq'; clear hq))
  go_wp2_with fail
  go_ret
  exact ⟨rfl, unhide HEND _ (out_quiet (unhide HH) hKl)⟩

end Go.Proofs.Ythhgeobfolhpoaa
