/- The law's step, on a disk and the document's. -/
import Derived.Test.YtfaoblnghkiibaaQScrH
import Derived.Test.YtfaoblnghkiibaaQSafe
namespace Go.Proofs.Ytfaoblnghkiibaa
open Go.RowKit

/-- both sides behind a step -/
def Out (w : World) (p q : Value) (X Y : List Nat) (s : Option Dm) (w' : World) : Prop :=
  ∃ X' Y' s', Dh w' p X' s' ∧ Rh w' q Y' s' ∧ (∀ x ∈ X', x ∉ Y') ∧ Nx (X ++ Y) w (X' ++ Y') w' ∧ lenP s' ≤ lenP s + 1

theorem out_mk {w w1 w2 w3 w4 : World} {p q : Value} {X Y X' Y' : List Nat} {s s' : Option Dm} (hX : ∀ x ∈ X, x < w.heap.size) (hd : ∀ x ∈ X, x ∉ Y)
    (h1 : Rh w1 q Y' s') (n1 : Nx Y w Y' w1) (k2 : Kept [] w1 w2) (h3 : Dh w3 p X' s') (n3 : Nx X w2 X' w3) {H : List Nat} (hg : ∀ g ∈ H, w1.heap.size ≤ g ∧ g ∉ X') (k4 : Kept H w3 w4) (hl : lenP s' ≤ lenP s + 1) : Out w p q X Y s w4 := by
  have z1 := n1.kept.size
  have z2 := k2.size
  have z3 := n3.kept.size
  have hYX : ∀ x ∈ Y', x ∉ X := fun x hx hm => by
    rcases n1.sub x hx with h | h
    · exact hd x hm h
    · have := hX x hm; omega
  have hdd : ∀ x ∈ X', x ∉ Y' := fun x hx hy => by
    have := h1.1 x hy
    rcases n3.sub x hx with h | h
    · exact hYX x hy h
    · omega
  have r2 : Rh w2 q Y' s' := h1.quiet k2
  have r3 : Rh w3 q Y' s' := r2.keep n3.kept hYX
  have r4 : Rh w4 q Y' s' := r3.keep k4 (fun x hx hm => by have h5 := h1.1 _ hx; have h6 := (hg x hm).1; omega)
  have d4 : Dh w4 p X' s' := h3.keep k4 (fun x hx hm => (hg x hm).2 hx)
  refine ⟨X', Y', s', d4, r4, hdd, ⟨?_, ?_⟩, hl⟩
  · have a1 : Kept (X ++ Y) w w1 := n1.kept.mono (fun x hx => Or.inl (by simp [hx]))
    have a2 := a1.trans k2 (fun x hx => by cases hx)
    have a3 := a2.trans n3.kept (fun x hx => Or.inl (by simp [hx]))
    exact a3.trans k4 (fun x hx => by right; have := (hg x hx).1; omega)
  · intro x hx
    rcases List.mem_append.1 hx with h | h
    · rcases n3.sub x h with h | h
      · left; simp [h]
      · right; omega
    · rcases n1.sub x h with h | h
      · left; simp [h]
      · exact Or.inr h

/-- what a step comes upon -/
structure StepIn (w : World) (p q : Value) (X Y : List Nat) (s : Option Dm) (o : OpM) : Prop where
  dh : Dh w p X s
  rh : Rh w q Y s
  ap : ∀ x ∈ X, x ∉ Y
  ok : OpOk w o
  dl : o.dl.length ≤ 1048576
  kl : o.kl.length ≤ 1048576
  da : o.dl = [] ∨ ∀ k, o.dv.ownBlock = some k → k ∉ X ∧ k ∉ Y
  ka : o.kl = [] ∨ ∀ k, o.kv.ownBlock = some k → k ∉ X ∧ k ∉ Y
  pl : (lenP s + 1) * 72 ≤ 140737488355328
theorem out_quiet {w w' : World} {p q : Value} {X Y : List Nat} {s : Option Dm} {o : OpM} (h : StepIn w p q X Y s o) {H : List Nat} (hg : ∀ g ∈ H, w.heap.size ≤ g) (hk : Kept H w w') : Out w p q X Y s w' :=
  out_mk h.dh.1 h.ap h.rh (Nx.refl _ _) (Kept.refl _ _) h.dh (Nx.refl _ _) (fun g hm => ⟨hg g hm, fun hx => by have h1 := h.dh.1 _ hx; have h2 := hg g hm; omega⟩) hk (by omega)
theorem Lent.mine {w : World} {base g cap : Nat} {bs : List Nat} (h : Lent w base g cap bs.length bs) : Mine base w (.slice (some ⟨g, 0, none⟩) bs.length cap) bs :=
  ⟨h.sees, Or.inr ⟨g, cap, rfl, h.caps.2.2.1, h.caps.2.2.2, h.frozen⟩⟩
theorem nx_back {X X' : List Nat} {w w' : World} (h : Nx X w X' w') {g : Nat} (hg : g ∉ X) (hl : g < w.heap.size) : g ∉ X' := h.away hg hl

theorem StepIn.quiet {w w' : World} {p q : Value} {X Y : List Nat} {s : Option Dm} {o : OpM} (h : StepIn w p q X Y s o) (hk : Kept [] w w') : StepIn w' p q X Y s o :=
  ⟨h.dh.quiet hk, h.rh.quiet hk, h.ap, h.ok.kept hk, h.dl, h.kl, h.da, h.ka, h.pl⟩
theorem out_after {w wA w' : World} {p q : Value} {X Y : List Nat} {s : Option Dm} (hk : Kept [] w wA) (h : Out wA p q X Y s w') : Out w p q X Y s w' := by
  obtain ⟨X', Y', s', h1, h2, h3, h4, h5⟩ := h
  exact ⟨X', Y', s', h1, h2, h3, Nx.after hk h4, h5⟩

set_option maxRecDepth 100000 in
set_option maxHeartbeats 2000000 in
theorem step_write {w : World} {p q : Value} {X Y : List Nat} {s : Option Dm} {o : OpM} (h : StepIn w p q X Y s o) (hk : o.kind = 0) :
    Calls Try.prog 16 #[p, q, .agg (oc o).toArray] w fun e w' => e = .returned (.bool true) ∧ Out w p q X Y s w' := by
  obtain ⟨who, kind, n, dv, dl, kv, kl, torn, cut⟩ := o
  simp only at hk
  subst hk
  have h' := h.quiet ((Kept.refl [] w).alloc (.cells (oc ⟨who, 0, n, dv, dl, kv, kl, torn, cut⟩).toArray 41))
  have HB0 := hide (Blk.new w (oc ⟨who, 0, n, dv, dl, kv, kl, torn, cut⟩).toArray 41)
  have HBX : Hid (w.heap.size ∉ X) := fun hm => by have := h.dh.1 _ hm; omega
  have HBY : Hid (w.heap.size ∉ Y) := fun hm => by have := h.rh.1 _ hm; omega
  have HEND : Hid (∀ w', Out (w.alloc (.cells (oc ⟨who, 0, n, dv, dl, kv, kl, torn, cut⟩).toArray 41)) p q X Y s w' → Out w p q X Y s w') := fun w' hw => out_after ((Kept.refl [] w).alloc _) hw
  clear h
  have h := h'
  clear h'
  have HM := hide (rwrite_h h.rh (x := n) h.ok.data h.pl)
  have HH := hide h
  have HNUM := hide num_any
  clear h
  simp only [oc]
  simp only [oc] at HM
  generalize hS1 : errW s n dl.length = er at *
  have HE := hide hS1
  clear hS1
  go_enter Try.func16, Try.ntmps16
  go_wp2_with (first
    | (go_at_call 31; refine (unhide HM).mono ?_; rintro e w1 ⟨Y1, rfl, hr1, hn1⟩; have HR1 := hide hr1; have HN1 := hide hn1; clear HM
       have HS1 : Hid (Sees w1 dv dl) := (unhide HH).ok.data.kept hn1.kept ((unhide HH).da.imp id (fun f k hk => (f k hk).2)); have HB1 := hide ((unhide HB0).kept hn1.kept (unhide HBY)); clear hr1 hn1
       have q3 := (unhide HB1).cell 3; simp [oc] at q3
       have HL := hide (lent_any (unhide HS1) (Nat.le_trans (unhide HH).dl (by omega))))
    | (go_at_call 8; refine (unhide HL).mono ?_; rintro e w2 ⟨g, cap, rfl, hl2, hk2⟩; have HL2 := hide hl2; have HK2 := hide hk2; clear HL hl2 hk2
       have HB2 := hide ((unhide HB1).kept (unhide HK2) (by simp)); have r2 := (unhide HB2).cell 2; simp [oc] at r2
       have HX2 : Hid (Dh w2 p X s) := ((unhide HH).dh.keep (unhide HN1).kept (unhide HH).ap).quiet (unhide HK2)
       have HG : Hid (g ∉ X) := fun hm => by have h1 := (unhide HH).dh.1 _ hm; have h2 := (unhide HL2).caps.2.2.1; have h3 := (unhide HN1).kept.size; exact absurd h1 (Nat.not_lt.2 (Nat.le_trans h3 h2))
       have HD := hide (write_h (unhide HX2) (x := n) (unhide HL2).sees (fun _ k hk => by simp [Value.ownBlock] at hk; subst hk; exact unhide HG) (unhide HH).pl)
       rw [show errW s n dl.length = er from unhide HE] at HD)
    | (go_at_call 19; refine (unhide HD).mono ?_; rintro e w3 ⟨X3, rfl, hd3, hn3⟩; have HD3 := hide hd3; have HN3 := hide hn3; clear HD hd3 hn3
       have HB3 := hide ((unhide HB2).kept (unhide HN3).kept (unhide HBX)); have z3 := (unhide HB3).cell 3; simp [oc] at z3
       have HL3 := hide ((unhide HL2).kept (unhide HN3).kept (unhide HG))
       have HS3 : Hid (Sees w3 dv dl) := ((unhide HS1).kept (unhide HK2) (Or.inr (by simp))).kept (unhide HN3).kept ((unhide HH).da.imp id (fun f k hk => (f k hk).1))
       have HKP := hide (kept_any (unhide HL3) (unhide HS3)))
    | (go_at_call 13; refine (unhide HNUM _ _).mono ?_; rintro e wq ⟨rfl, hq⟩; have hq' := hq.symm; subst hq'; clear hq)
    | (go_at_call 14; refine (unhide HKP).mono ?_; rintro e w4 ⟨rfl, hq4⟩; have HQ4 := hide hq4; clear HKP hq4
       have HOV := hide (over_h ((unhide HL3).mine.quiet (unhide HQ4).kept)))
    | (go_at_call 15; refine (unhide HOV).mono ?_; rintro e w5 ⟨rfl, hk5⟩; have HK5 := hide hk5; clear HOV hk5))
  go_ret
  refine ⟨rfl, unhide HEND _ <| out_mk (unhide HH).dh.1 (unhide HH).ap (unhide HR1) (unhide HN1) (unhide HK2) (unhide HD3) (unhide HN3) (H := [g]) (fun k hk => ?_) ((((unhide HQ4).kept).mono (fun x hx => by cases hx)).trans (unhide HK5) (fun x hx => by left; simpa [Value.ownBlock] using hx)) (lenW_le _ _ _)⟩
  simp at hk
  subst hk
  exact ⟨(unhide HL2).caps.2.2.1, (unhide HN3).away (unhide HG) (unhide HL2).caps.2.2.2⟩

set_option maxRecDepth 100000 in
set_option maxHeartbeats 2000000 in
theorem step_read {w : World} {p q : Value} {X Y : List Nat} {s : Option Dm} {o : OpM} (h : StepIn w p q X Y s o) (hk : o.kind = 1) :
    Calls Try.prog 16 #[p, q, .agg (oc o).toArray] w fun e w' => e = .returned (.bool true) ∧ Out w p q X Y s w' := by
  obtain ⟨who, kind, n, dv, dl, kv, kl, torn, cut⟩ := o
  simp only at hk
  subst hk
  have h' := h.quiet ((Kept.refl [] w).alloc (.cells (oc ⟨who, 1, n, dv, dl, kv, kl, torn, cut⟩).toArray 41))
  have HB0 := hide (Blk.new w (oc ⟨who, 1, n, dv, dl, kv, kl, torn, cut⟩).toArray 41)
  have HBX : Hid (w.heap.size ∉ X) := fun hm => by have := h.dh.1 _ hm; omega
  have HBY : Hid (w.heap.size ∉ Y) := fun hm => by have := h.rh.1 _ hm; omega
  have HEND : Hid (∀ w', Out (w.alloc (.cells (oc ⟨who, 1, n, dv, dl, kv, kl, torn, cut⟩).toArray 41)) p q X Y s w' → Out w p q X Y s w') := fun w' hw => out_after ((Kept.refl [] w).alloc _) hw
  clear h
  have h := h'
  clear h'
  have HM := hide (rread_h h.rh (x := n) (by have := h.pl; omega))
  have HH := hide h
  have HNUM := hide num_any
  clear h
  simp only [oc]
  simp only [oc] at HM
  generalize hS1 : errR s n = er at *
  have HE := hide hS1
  clear hS1
  go_enter Try.func16, Try.ntmps16
  go_wp2_with (first
    | (go_at_call 32; refine (unhide HM).mono ?_; rintro e w1 ⟨v1, rfl, hm1, hk1⟩; have HM1 := hide hm1; have HK1 := hide hk1; clear HM hm1 hk1
       have q2 := ((unhide HB0).kept (unhide HK1) (by simp)).cell 2; simp [oc] at q2
       have HD := hide (read_h ((unhide HH).dh.quiet (unhide HK1)) (x := n) (by have := (unhide HH).pl; omega))
       rw [unhide HE] at HD)
    | (go_at_call 21; refine (unhide HD).mono ?_; rintro e w2 ⟨v2, rfl, hm2, hk2⟩; have HM2 := hide hm2; have HK2 := hide hk2; clear HD hm2 hk2
       have HSM := hide (same_q (unhide HM2).sees ((unhide HM1).quiet (unhide HK2)).sees))
    | (go_at_call 13; refine (unhide HNUM _ _).mono ?_; rintro e wq ⟨rfl, hq⟩; have hq' := hq.symm; subst hq'; clear hq)
    | (go_at_call 28; refine (unhide HSM).mono ?_; rintro e w3 ⟨rfl, hq3⟩; have HQ3 := hide hq3; clear HSM hq3
       have HOV := hide (over_h ((unhide HM2).quiet (unhide HQ3).kept)))
    | (go_at_call 15; refine (unhide HOV).mono ?_; rintro e w4 ⟨rfl, hk4⟩; have HK4 := hide hk4; clear HOV hk4))
  go_ret
  have k12 := (unhide HK1).trans (unhide HK2) (fun x hx => by cases hx)
  have k13 := k12.trans (unhide HQ3).kept (fun x hx => by cases hx)
  have hbs : ∀ g ∈ v2.ownBlock.toList, (w.alloc (.cells (oc ⟨who, 1, n, dv, dl, kv, kl, torn, cut⟩).toArray 41)).heap.size ≤ g := fun g hg => Nat.le_trans (unhide HK1).size ((unhide HM2).base g hg)
  exact ⟨rfl, unhide HEND _ <| out_quiet (unhide HH) hbs ((k13.mono (fun x hx => by cases hx)).trans (unhide HK4) (fun x hx => Or.inl hx))⟩

set_option maxRecDepth 100000 in
set_option maxHeartbeats 2000000 in
theorem step_sync {w : World} {p q : Value} {X Y : List Nat} {s : Option Dm} {o : OpM} (h : StepIn w p q X Y s o) (hk : o.kind = 2) :
    Calls Try.prog 16 #[p, q, .agg (oc o).toArray] w fun e w' => e = .returned (.bool true) ∧ Out w p q X Y s w' := by
  obtain ⟨who, kind, n, dv, dl, kv, kl, torn, cut⟩ := o
  simp only at hk
  subst hk
  have h' := h.quiet ((Kept.refl [] w).alloc (.cells (oc ⟨who, 2, n, dv, dl, kv, kl, torn, cut⟩).toArray 41))
  have HB0 := hide (Blk.new w (oc ⟨who, 2, n, dv, dl, kv, kl, torn, cut⟩).toArray 41)
  have HBX : Hid (w.heap.size ∉ X) := fun hm => by have := h.dh.1 _ hm; omega
  have HBY : Hid (w.heap.size ∉ Y) := fun hm => by have := h.rh.1 _ hm; omega
  have HEND : Hid (∀ w', Out (w.alloc (.cells (oc ⟨who, 2, n, dv, dl, kv, kl, torn, cut⟩).toArray 41)) p q X Y s w' → Out w p q X Y s w') := fun w' hw => out_after ((Kept.refl [] w).alloc _) hw
  clear h
  have h := h'
  clear h'
  have HM := hide (rsync_h h.rh (by have := h.pl; omega))
  have HH := hide h
  have HNUM := hide num_any
  clear h
  simp only [oc]
  simp only [oc] at HM
  generalize hS1 : errS s = er at *
  have HE := hide hS1
  clear hS1
  go_enter Try.func16, Try.ntmps16
  go_wp2_with (first
    | (go_at_call 33; refine (unhide HM).mono ?_; rintro e w1 ⟨rfl, hr1, hn1⟩; have HR1 := hide hr1; have HN1 := hide hn1; clear HM hr1 hn1
       have HD := hide (sync_h ((unhide HH).dh.keep (unhide HN1).kept (unhide HH).ap) (by have := (unhide HH).pl; omega))
       rw [unhide HE] at HD)
    | (go_at_call 22; refine (unhide HD).mono ?_; rintro e w2 ⟨rfl, hd2, hn2⟩; have HD2 := hide hd2; have HN2 := hide hn2; clear HD hd2 hn2)
    | (go_at_call 13; refine (unhide HNUM _ _).mono ?_; rintro e wq ⟨rfl, hq⟩; have hq' := hq.symm; subst hq'; clear hq))
  go_ret
  refine ⟨?_, unhide HEND _ <| out_mk (unhide HH).dh.1 (unhide HH).ap (unhide HR1) (unhide HN1) (Kept.refl _ _) (unhide HD2) (unhide HN2) (H := []) (fun k hk => by cases hk) (Kept.refl _ _) (Nat.le_trans (lenS_le _) (by omega))⟩
  first | rfl | simp

set_option maxRecDepth 100000 in
set_option maxHeartbeats 2000000 in
theorem step_pending {w : World} {p q : Value} {X Y : List Nat} {s : Option Dm} {o : OpM} (h : StepIn w p q X Y s o) (hk : o.kind = 3) :
    Calls Try.prog 16 #[p, q, .agg (oc o).toArray] w fun e w' => e = .returned (.bool true) ∧ Out w p q X Y s w' := by
  obtain ⟨who, kind, n, dv, dl, kv, kl, torn, cut⟩ := o
  simp only at hk
  subst hk
  have h' := h.quiet ((Kept.refl [] w).alloc (.cells (oc ⟨who, 3, n, dv, dl, kv, kl, torn, cut⟩).toArray 41))
  have HB0 := hide (Blk.new w (oc ⟨who, 3, n, dv, dl, kv, kl, torn, cut⟩).toArray 41)
  have HBX : Hid (w.heap.size ∉ X) := fun hm => by have := h.dh.1 _ hm; omega
  have HBY : Hid (w.heap.size ∉ Y) := fun hm => by have := h.rh.1 _ hm; omega
  have HEND : Hid (∀ w', Out (w.alloc (.cells (oc ⟨who, 3, n, dv, dl, kv, kl, torn, cut⟩).toArray 41)) p q X Y s w' → Out w p q X Y s w') := fun w' hw => out_after ((Kept.refl [] w).alloc _) hw
  clear h
  have h := h'
  clear h'
  have HM := hide (rpending_h h.rh)
  have HD := hide (pending_h h.dh)
  have HH := hide h
  clear h
  simp only [oc]
  simp only [oc] at HM
  simp only [oc] at HD
  generalize hS1 : lenP s = er at HM HD
  clear hS1
  go_enter Try.func16, Try.ntmps16
  go_wp2_with (first
    | (go_at_call 34; refine (unhide HM).mono ?_; rintro e wq ⟨rfl, hq⟩; have hq' := hq.symm; subst hq'; clear hq)
    | (go_at_call 23; refine (unhide HD).mono ?_; rintro e wq ⟨rfl, hq⟩; have hq' := hq.symm; subst hq'; clear hq))
  go_ret
  refine ⟨?_, unhide HEND _ <| out_quiet (unhide HH) (H := []) (fun k hk => by cases hk) (Kept.refl _ _)⟩
  first | rfl | simp

set_option maxRecDepth 100000 in
set_option maxHeartbeats 2000000 in
theorem step_fuse {w : World} {p q : Value} {X Y : List Nat} {s : Option Dm} {o : OpM} (h : StepIn w p q X Y s o) (hk : o.kind = 4) :
    Calls Try.prog 16 #[p, q, .agg (oc o).toArray] w fun e w' => e = .returned (.bool true) ∧ Out w p q X Y s w' := by
  obtain ⟨who, kind, n, dv, dl, kv, kl, torn, cut⟩ := o
  simp only at hk
  subst hk
  have h' := h.quiet ((Kept.refl [] w).alloc (.cells (oc ⟨who, 4, n, dv, dl, kv, kl, torn, cut⟩).toArray 41))
  have HB0 := hide (Blk.new w (oc ⟨who, 4, n, dv, dl, kv, kl, torn, cut⟩).toArray 41)
  have HBX : Hid (w.heap.size ∉ X) := fun hm => by have := h.dh.1 _ hm; omega
  have HBY : Hid (w.heap.size ∉ Y) := fun hm => by have := h.rh.1 _ hm; omega
  have HEND : Hid (∀ w', Out (w.alloc (.cells (oc ⟨who, 4, n, dv, dl, kv, kl, torn, cut⟩).toArray 41)) p q X Y s w' → Out w p q X Y s w') := fun w' hw => out_after ((Kept.refl [] w).alloc _) hw
  clear h
  have h := h'
  clear h'
  have HM := hide (rfuse_h h.rh n h.ok.n)
  have HH := hide h
  clear h
  simp only [oc]
  simp only [oc] at HM
  go_enter Try.func16, Try.ntmps16
  go_wp2_with (first
    | (go_at_call 35; refine (unhide HM).mono ?_; rintro e w1 ⟨rfl, hr1, hn1⟩; have HR1 := hide hr1; have HN1 := hide hn1; clear HM hr1 hn1
       have q2 := ((unhide HB0).kept (unhide HN1).kept (unhide HBY)).cell 2; simp [oc] at q2
       have HD := hide (fuse_h ((unhide HH).dh.keep (unhide HN1).kept (unhide HH).ap) n (unhide HH).ok.n))
    | (go_at_call 18; refine (unhide HD).mono ?_; rintro e w2 ⟨rfl, hd2, hn2⟩; have HD2 := hide hd2; have HN2 := hide hn2; clear HD hd2 hn2))
  go_ret
  exact ⟨rfl, unhide HEND _ <| out_mk (unhide HH).dh.1 (unhide HH).ap (unhide HR1) (unhide HN1) (Kept.refl _ _) (unhide HD2) (unhide HN2) (H := []) (fun k hk => by cases hk) (Kept.refl _ _) (Nat.le_trans (lenF_le _ _) (by omega))⟩

set_option maxRecDepth 100000 in
set_option maxHeartbeats 2000000 in
theorem step_image {w : World} {p q : Value} {X Y : List Nat} {s : Option Dm} {o : OpM} (h : StepIn w p q X Y s o) (hk : o.kind = 6) :
    Calls Try.prog 16 #[p, q, .agg (oc o).toArray] w fun e w' => e = .returned (.bool true) ∧ Out w p q X Y s w' := by
  obtain ⟨who, kind, n, dv, dl, kv, kl, torn, cut⟩ := o
  simp only at hk
  subst hk
  have h' := h.quiet ((Kept.refl [] w).alloc (.cells (oc ⟨who, 6, n, dv, dl, kv, kl, torn, cut⟩).toArray 41))
  have HB0 := hide (Blk.new w (oc ⟨who, 6, n, dv, dl, kv, kl, torn, cut⟩).toArray 41)
  have HBX : Hid (w.heap.size ∉ X) := fun hm => by have := h.dh.1 _ hm; omega
  have HBY : Hid (w.heap.size ∉ Y) := fun hm => by have := h.rh.1 _ hm; omega
  have HEND : Hid (∀ w', Out (w.alloc (.cells (oc ⟨who, 6, n, dv, dl, kv, kl, torn, cut⟩).toArray 41)) p q X Y s w' → Out w p q X Y s w') := fun w' hw => out_after ((Kept.refl [] w).alloc _) hw
  clear h
  have h := h'
  clear h'
  have HD := hide (image_h h.dh)
  have HH := hide h
  clear h
  simp only [oc]
  simp only [oc] at HD
  go_enter Try.func16, Try.ntmps16
  go_wp2_with (first
    | (go_at_call 27; refine (unhide HD).mono ?_; rintro e w1 ⟨v1, rfl, hm1, hk1⟩; have HM1 := hide hm1; have HK1 := hide hk1; clear HD hm1 hk1
       have HM := hide (rimage_h ((unhide HH).rh.quiet (unhide HK1))))
    | (go_at_call 37; refine (unhide HM).mono ?_; rintro e w2 ⟨v2, rfl, hm2, hk2⟩; have HM2 := hide hm2; have HK2 := hide hk2; clear HM hm2 hk2
       have HM3 := hide ((unhide HM1).quiet (unhide HK2))
       have HSM := hide (same_q (unhide HM3).sees (unhide HM2).sees))
    | (go_at_call 28; refine (unhide HSM).mono ?_; rintro e w3 ⟨rfl, hq3⟩; have HQ3 := hide hq3; clear HSM hq3
       have HK13 : Hid (Kept [] (w.alloc (.cells (oc ⟨who, 6, n, dv, dl, kv, kl, torn, cut⟩).toArray 41)) w3) := ((unhide HK1).trans (unhide HK2) (fun x hx => by cases hx)).trans (unhide HQ3).kept (fun x hx => by cases hx)
       have HSD := hide (sectors_h ((unhide HH).dh.quiet (unhide HK13)))
       have HSR := hide (rsectors_h ((unhide HH).rh.quiet (unhide HK13)))
       have HOV := hide (over_h ((unhide HM3).quiet (unhide HQ3).kept))
       generalize hS1 : secN s = er at HSD HSR
       clear hS1)
    | (go_at_call 26; refine (unhide HSD).mono ?_; rintro e wq ⟨rfl, hq⟩; have hq' := hq.symm; subst hq'; clear hq HSD)
    | (go_at_call 38; refine (unhide HSR).mono ?_; rintro e wq ⟨rfl, hq⟩; have hq' := hq.symm; subst hq'; clear hq HSR)
    | (go_at_call 15; refine (unhide HOV).mono ?_; rintro e w4 ⟨rfl, hk4⟩; have HK4 := hide hk4; clear HOV hk4))
  go_ret
  exact ⟨rfl, unhide HEND _ <| out_quiet (unhide HH) (unhide HM1).base (((unhide HK13).mono (fun x hx => by cases hx)).trans (unhide HK4) (fun x hx => Or.inl hx))⟩

set_option maxRecDepth 100000 in
set_option maxHeartbeats 2000000 in
theorem step_counts {w : World} {p q : Value} {X Y : List Nat} {s : Option Dm} {o : OpM} (h : StepIn w p q X Y s o) (hk : o.kind = 7) :
    Calls Try.prog 16 #[p, q, .agg (oc o).toArray] w fun e w' => e = .returned (.bool true) ∧ Out w p q X Y s w' := by
  obtain ⟨who, kind, n, dv, dl, kv, kl, torn, cut⟩ := o
  simp only at hk
  subst hk
  have h' := h.quiet ((Kept.refl [] w).alloc (.cells (oc ⟨who, 7, n, dv, dl, kv, kl, torn, cut⟩).toArray 41))
  have HB0 := hide (Blk.new w (oc ⟨who, 7, n, dv, dl, kv, kl, torn, cut⟩).toArray 41)
  have HBX : Hid (w.heap.size ∉ X) := fun hm => by have := h.dh.1 _ hm; omega
  have HBY : Hid (w.heap.size ∉ Y) := fun hm => by have := h.rh.1 _ hm; omega
  have HEND : Hid (∀ w', Out (w.alloc (.cells (oc ⟨who, 7, n, dv, dl, kv, kl, torn, cut⟩).toArray 41)) p q X Y s w' → Out w p q X Y s w') := fun w' hw => out_after ((Kept.refl [] w).alloc _) hw
  clear h
  have h := h'
  clear h'
  have HD := hide (counts_h h.dh)
  have HH := hide h
  clear h
  simp only [oc]
  simp only [oc] at HD
  go_enter Try.func16, Try.ntmps16
  go_wp2_with (first
    | (go_at_call 24; refine (unhide HD).mono ?_; rintro e w1 ⟨rfl, hk1⟩; have HK1 := hide hk1; clear HD hk1
       have HM := hide (rcounts_h ((unhide HH).rh.quiet (unhide HK1))))
    | (go_at_call 39; refine (unhide HM).mono ?_; rintro e w2 ⟨rfl, hk2⟩; have HK2 := hide hk2; clear HM hk2))
  go_ret
  refine ⟨?_, unhide HEND _ <| out_quiet (unhide HH) (H := []) (fun k hk => by cases hk) ((unhide HK1).trans (unhide HK2) (fun x hx => by cases hx))⟩
  first | rfl | simp

set_option maxRecDepth 100000 in
set_option maxHeartbeats 2000000 in
theorem step_else {w : World} {p q : Value} {X Y : List Nat} {s : Option Dm} {o : OpM} (h : StepIn w p q X Y s o) (h0 : (o.kind == 0) = false) (h1 : (o.kind == 1) = false) (h2 : (o.kind == 2) = false) (h3 : (o.kind == 3) = false) (h4 : (o.kind == 4) = false) (h5 : (o.kind == 5) = false) (h6 : (o.kind == 6) = false) (h7 : (o.kind == 7) = false) :
    Calls Try.prog 16 #[p, q, .agg (oc o).toArray] w fun e w' => e = .returned (.bool true) ∧ Out w p q X Y s w' := by
  obtain ⟨who, kind, n, dv, dl, kv, kl, torn, cut⟩ := o
  simp only at h0 h1 h2 h3 h4 h5 h6 h7
  have h' := h.quiet ((Kept.refl [] w).alloc (.cells (oc ⟨who, kind, n, dv, dl, kv, kl, torn, cut⟩).toArray 41))
  have HB0 := hide (Blk.new w (oc ⟨who, kind, n, dv, dl, kv, kl, torn, cut⟩).toArray 41)
  have HBX : Hid (w.heap.size ∉ X) := fun hm => by have := h.dh.1 _ hm; omega
  have HBY : Hid (w.heap.size ∉ Y) := fun hm => by have := h.rh.1 _ hm; omega
  have HEND : Hid (∀ w', Out (w.alloc (.cells (oc ⟨who, kind, n, dv, dl, kv, kl, torn, cut⟩).toArray 41)) p q X Y s w' → Out w p q X Y s w') := fun w' hw => out_after ((Kept.refl [] w).alloc _) hw
  clear h
  have h := h'
  clear h'
  have HH := hide h
  clear h
  simp only [oc]
  go_enter Try.func16, Try.ntmps16
  go_wp2_with fail
  go_ret
  exact ⟨rfl, unhide HEND _ <| out_quiet (unhide HH) (H := []) (fun k hk => by cases hk) (Kept.refl _ _)⟩
end Go.Proofs.Ytfaoblnghkiibaa
