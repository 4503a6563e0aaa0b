/- The law's step, on a meter and the document's. -/
import Derived.Test.YthhgeobfolhpoaaVPl1
namespace Go.Proofs.Ythhgeobfolhpoaa
open Go.RowKit

/-- both sides behind a step -/
def Out (w : World) (p q : Value) (X Y : List Nat) (N : Nat) (w' : World) : Prop :=
  ∃ X' Y' s', Mh w' p X' s' ∧ Dh w' q Y' s' (N + 1) ∧ (∀ x ∈ X', x ∉ Y') ∧ Nx (X ++ Y) w (X' ++ Y') w'
theorem out_mk {w w1 w2 w3 w4 : World} {p q : Value} {X Y Y' : List Nat} {s' : Option Mt} {N : Nat} (hX : ∀ x ∈ X, x < w.heap.size) (hd : ∀ x ∈ X, x ∉ Y)
    (h1 : Mh w1 p X s') (n1 : Nx X w X w1) (k2 : Kept [] w1 w2) (h3 : Dh w3 q Y' s' (N + 1)) (n3 : Nx Y w2 Y' w3) (k4 : Kept [] w3 w4) : Out w p q X Y N w4 := by
  have z1 := n1.kept.size
  have z2 := k2.size
  have hXY : ∀ x ∈ X, x ∉ Y' := fun x hx hm => by
    rcases n3.sub x hm with h | h
    · exact hd x hx h
    · have := hX x hx; omega
  have m3 : Mh w3 p X s' := (h1.quiet k2).keep n3.kept hd
  refine ⟨X, Y', s', m3.quiet k4, h3.quiet k4, hXY, ⟨?_, ?_⟩⟩
  · have a1 : Kept (X ++ Y) w w1 := n1.kept.mono (fun x hx => Or.inl (by simp [hx]))
    exact ((a1.trans k2 (fun x hx => by cases hx)).trans n3.kept (fun x hx => Or.inl (by simp [hx]))).trans k4 (fun x hx => by cases hx)
  · intro x hx
    rcases List.mem_append.1 hx with h | h
    · left; simp [h]
    · rcases n3.sub x h with h | h
      · left; simp [h]
      · right; omega
structure StepIn (w : World) (p q : Value) (X Y : List Nat) (s : Option Mt) (N : Nat) (o : OpM) : Prop where
  mh : Mh w p X s
  dh : Dh w q Y s N
  ap : ∀ x ∈ X, x ∉ Y
  wt : o.wt < 18446744073709551616
  n : (N + 1) * 24 ≤ 140737488355328
theorem StepIn.quiet {w w' : World} {p q : Value} {X Y : List Nat} {s : Option Mt} {N : Nat} {o : OpM} (h : StepIn w p q X Y s N o) (hk : Kept [] w w') : StepIn w' p q X Y s N o := ⟨h.mh.quiet hk, h.dh.quiet hk, h.ap, h.wt, h.n⟩
theorem out_after {w wA w' : World} {p q : Value} {X Y : List Nat} {N : Nat} (hk : Kept [] w wA) (h : Out wA p q X Y N w') : Out w p q X Y N w' := by
  obtain ⟨X', Y', s', h1, h2, h3, h4⟩ := h
  exact ⟨X', Y', s', h1, h2, h3, Nx.after hk h4⟩
theorem out_quiet {w w' : World} {p q : Value} {X Y : List Nat} {s : Option Mt} {N : Nat} {o : OpM} (h : StepIn w p q X Y s N o) (hk : Kept [] w w') : Out w p q X Y N w' :=
  out_mk h.mh.1 h.ap h.mh (Nx.refl _ _) (Kept.refl _ _) (h.dh.more (by omega)) (Nx.refl _ _) hk

set_option maxRecDepth 100000 in
set_option maxHeartbeats 2000000 in
theorem step_hit {w : World} {p q : Value} {X Y : List Nat} {s : Option Mt} {N : Nat} {o : OpM} (h : StepIn w p q X Y s N o) (hk : o.kind = 1) :
    Calls Try.prog 13 #[p, q, .agg (oc o).toArray] w fun e w' => e = .returned (.bool true) ∧ Out w p q X Y N w' := by
  rcases o with ⟨kd, who, sh, nw, wt⟩
  simp only at hk
  subst hk
  obtain ⟨W, hW⟩ : ∃ W, W = w.alloc (.cells (oc ⟨1, who, sh, nw, wt⟩).toArray 36) := ⟨_, rfl⟩
  have hka : Kept [] w W := by rw [hW]; exact (Kept.refl _ _).alloc _
  have hB : Blk W w.heap.size (oc ⟨1, who, sh, nw, wt⟩).toArray 36 := by rw [hW]; exact Blk.new _ _ _
  have HBX : Hid (w.heap.size ∉ X) := fun hm => by have := h.mh.1 _ hm; omega
  have HBY : Hid (w.heap.size ∉ Y) := fun hm => by have := h.dh.1 _ hm; omega
  have HEND : Hid (∀ w', Out W p q X Y N w' → Out w p q X Y N w') := fun w' hw => out_after hka hw
  have HH := hide (h.quiet hka)
  have HB := hide hB
  have d0 : W.cell? ⟨w.heap.size, 0, none⟩ = some (.int .i64 1) := by rw [hB.cell]; simp [oc]
  have d2 : W.cell? ⟨w.heap.size, 2, none⟩ = some (.int .i64 sh) := by rw [hB.cell]; simp [oc]
  have d3 : W.cell? ⟨w.heap.size, 3, none⟩ = some (.int .i64 nw) := by rw [hB.cell]; simp [oc]
  have d4 : W.cell? ⟨w.heap.size, 4, none⟩ = some (.int .u64 (wt : Int)) := by rw [hB.cell]; simp [oc]
  have hoc : (oc ⟨1, who, sh, nw, wt⟩).toArray = #[.int .i64 1, .int .i64 who, .int .i64 sh, .int .i64 nw, .int .u64 (wt : Int)] := rfl
  rw [hoc] at hW ⊢
  have HNM := fun x W => hide (num_any W x)
  have HF := kf
  have hwt : ((wt : Nat) : Int).toNat = wt := by omega
  have HHI : Hid (∀ W', Quiet W W' → Calls Try.prog 29 #[p, .int .i64 sh, .int .i64 nw, .float .f64 wt] W' fun e w' => e = .returned (.int .i64 (errH s sh nw wt : Nat)) ∧ Mh w' p X (onH s sh nw wt) ∧ Nx X W X w') := fun W' hq => (hit_h ((unhide HH).mh.quiet hq.kept) sh nw (unhide HH).wt).mono fun e w' ⟨he, h1, h2⟩ => ⟨he, h1, Nx.after hq.kept h2⟩
  generalize hE : errH s sh nw wt = er at *
  have HE := hide hE
  clear h hB hka hoc hE
  go_enter Try.func13, Try.ntmps13
  go_wp2_with fail
  rw [← hW]
  clear hW
  go_wp2_with fail
  go_region_held3 (fun w' => w'.cell? ⟨w.heap.size, 2, none⟩ = some (.int .i64 sh) ∧ w'.cell? ⟨w.heap.size, 3, none⟩ = some (.int .i64 nw)) (first | (with_reducible exact ⟨d2, d3⟩) | exact HS1 | exact HS2 | exact ⟨d2, d3⟩) (first
      | (go_at_call 29; refine (unhide HHI _ (by first | exact Quiet.refl _ | exact (Quiet.refl _).drew | exact (Quiet.refl _).drewN _)).mono ?_; rintro e w1 ⟨rfl, hm1, hn1⟩
         have HM1 := hide hm1
         have HN1 := hide hn1
         have HB1 := hide ((unhide HB).kept hn1.kept (unhide HBX))
         have e2 := (unhide HB1).cell 2; have e3 := (unhide HB1).cell 3; simp [oc] at e2 e3
         have HS1 := (⟨e2, e3⟩ : w1.cell? ⟨w.heap.size, 2, none⟩ = some (.int .i64 sh) ∧ w1.cell? ⟨w.heap.size, 3, none⟩ = some (.int .i64 nw))
         have HRH : Hid (∀ W', Quiet w1 W' → Calls Try.prog 30 #[q, .int .i64 sh, .int .i64 nw, .float .f64 wt] W' fun e w' => ∃ Y', e = .returned (.int .i64 (er : Nat)) ∧ Dh w' q Y' (onH s sh nw wt) (N + 1) ∧ Nx Y w1 Y' w') := fun W' hq => by
           have h0 := rhit_h ((((unhide HH).dh.keep (unhide HN1).kept (fun x hx hm => (unhide HH).ap x hm hx)).quiet hq.kept)) sh nw (unhide HH).wt (unhide HH).n
           simp only [unhide HE] at h0
           exact h0.mono fun e w' ⟨Y', he, h1, h2⟩ => ⟨Y', he, h1, Nx.after hq.kept h2⟩
         clear HHI hm1 hn1 d2 d3)
      | (go_at_call 30; refine (unhide HRH _ (by first | exact Quiet.refl _ | exact (Quiet.refl _).drew | exact (Quiet.refl _).drewN _)).mono ?_; rintro e w3 ⟨Y3, rfl, hd3, hn3⟩
         have HD3 := hide hd3
         have HN3 := hide hn3
         have HB3 := hide ((unhide HB1).kept hn3.kept (unhide HBY))
         have g2 := (unhide HB3).cell 2; have g3 := (unhide HB3).cell 3; simp [oc] at g2 g3
         have HS2 := (⟨g2, g3⟩ : w3.cell? ⟨w.heap.size, 2, none⟩ = some (.int .i64 sh) ∧ w3.cell? ⟨w.heap.size, 3, none⟩ = some (.int .i64 nw))
         clear HRH hd3 hn3)
      | (go_at_call 11; refine (unhide (HNM _ _)).mono ?_; rintro e wq ⟨rfl, hq⟩; have hq' := hq.symm; subst hq'; clear hq))
  go_wp2_with fail
  go_ret
  refine ⟨?_, unhide HEND _ (out_mk (unhide HH).mh.1 (unhide HH).ap (unhide HM1) (unhide HN1) (Kept.refl _ _) (unhide HD3) (unhide HN3) (Kept.refl _ _))⟩
  first | rfl | simp
end Go.Proofs.Ythhgeobfolhpoaa
