/- The document's Step. -/
import Derived.Test.YtnpabeodakncfaaGHas
namespace Go.Proofs.Ytnpabeodakncfaa
open Go.RowKit
set_option linter.unusedSimpArgs false

theorem ret_ldi {a b c d : Int} {l : Ld} {E : Int} (h : (⟨a, b, c⟩ : Ld) = l) (k : d = E) : Ending.returned (.tuple #[.agg #[.int .i64 a, .int .i64 b, .int .i64 c], .int .i64 d]) = Ending.returned (.tuple #[lv l, .int .i64 E]) := by rw [← h, k]; rfl
theorem ret_ldi2 {a b c d : Int} {l : Ld} {E : Int} (h : (⟨a, b, c⟩ : Ld) = l ∧ d = E) : Ending.returned (.tuple #[.agg #[.int .i64 a, .int .i64 b, .int .i64 c], .int .i64 d]) = Ending.returned (.tuple #[lv l, .int .i64 E]) := ret_ldi h.1 h.2
theorem stp_no {s : Int} {l : Ld} {k e p : Int} {E : Int} (h : rfs s l k e p = E) (hE : E ≠ 0) : (⟨0, 0, 0⟩ : Ld) = stp s l k e p ∧ E = rfs s l k e p := by
  subst h; exact ⟨by rw [stp, if_neg hE], rfl⟩
theorem stp_yes {s : Int} {l : Ld} {k e p : Int} {x : Ld} (h : rfs s l k e p = 0) (hx : x = bhd s l k e p) : x = stp s l k e p ∧ 0 = rfs s l k e p := ⟨by rw [hx, stp, if_pos h], h.symm⟩
set_option maxRecDepth 100000 in
set_option maxHeartbeats 2000000 in
theorem rstep1 (w : World) (s : Int) (l : Ld) (r : Rc) (hkd : r.kind = 1) : Calls Try.prog 29 #[.int .i64 s, lv l, rv r] w fun e w' => e = .returned (.tuple #[lv (stp s l r.kind r.epoch r.peer), .int .i64 (rfs s l r.kind r.epoch r.peer)]) ∧ Kept [] w w' := by
  have HR := fun W => rrule_any W r.kind
  have HV := fun W => rvalid_any W s l
  have HA2 := fun W => has_rule W l.ph r.kind (by omega) (by omega)
  have HS := fun W n => rserver_any W n
  obtain ⟨kind, shard, epoch, peer, client, seq, okind, okey, oval, orev, copy⟩ := r
  obtain ⟨ph, ep, pe⟩ := l
  rw [show lv ⟨ph, ep, pe⟩ = .agg #[.int .i64 ph, .int .i64 ep, .int .i64 pe] from rfl] at *
  unfold rv
  dsimp only at *
  subst hkd
  rw [show rls 1 = [49] from by decide, show rlt 1 = 1 from by decide] at HR
  rw [show rls 1 = [49] from by decide] at HA2
  have hwr : vld s ⟨ph, ep, pe⟩ = true → IntKind.i64.wrap (ep + 1) = ep + 1 := by
    intro h; simp [vld] at h; rw [IntKind.wrap_i64]; omega
  by_cases hv : vld s ⟨ph, ep, pe⟩ = true
  · have hw1 := hwr hv
    clear hwr
    rw [hv] at HV
    go_enter Try.func29, Try.ntmps29
    go_wp2_with (first
      | (go_at_call 55; refine (HR _).mono ?_; rintro e w8 ⟨rfl, hq⟩; have hq2 := hq.symm; subst hq2)
      | (go_at_call 33; refine (HV _).mono ?_; rintro e w3 ⟨rfl, hk⟩; have hb := (((Blk.new w _ _).alloc _).alloc _).kept hk (by simp); have hr := ((new2 w _ _ _).alloc _).kept hk (by simp); have ho := (new3 w _ _ _ _).kept hk (by simp); have hk3 := ((((Kept.refl [] w).alloc _).alloc _).alloc _).step hk; obtain ⟨c0, c1, c2⟩ := box3 hb; obtain ⟨e0, e1, e2, e3, e4, e5, e6, e7, e8, e9, e10⟩ := box11 hr; obtain ⟨o0, o1, o2⟩ := box3 ho; obtain ⟨z0, z1, z2⟩ := froz ho; have hol := ho.lt; have hol1 : w.heap.size < w3.heap.size := (by omega); have hol2 : w.heap.size + 1 < w3.heap.size := (by omega); clear hk)
      | (go_at_call 46; refine (HA2 _).mono ?_; rintro e w8 ⟨rfl, hq⟩; have hq2 := hq.symm; subst hq2)
      | (go_at_call 44; refine (HS _ _).mono ?_; rintro e w8 ⟨rfl, hq⟩; have hq2 := hq.symm; subst hq2))
    all_goals first
      | (guard_target =~ bodyPost _ _ _ _ _ (World.alloc _ _); refine ret_struct_tmp (b := w.heap.size + 1 + 1) rfl rfl ((put3 ho _ _ _).alloc _) Try.underlying25 infoLed rfl ⟨?_, (Kept.setCell (Kept.setCell (Kept.setCell hk3 (Or.inr (by simp; omega)) _) (Or.inr (by simp; omega)) _) (Or.inr (by simp; omega)) _).alloc _⟩)
      | refine ret_struct_tmp (b := w.heap.size + 1 + 1) rfl rfl (put3 ho _ _ _) Try.underlying25 infoLed rfl ⟨?_, Kept.setCell (Kept.setCell (Kept.setCell hk3 (Or.inr (by simp; omega)) _) (Or.inr (by simp; omega)) _) (Or.inr (by simp; omega)) _⟩
    all_goals
      clear c0 c1 c2 e0 e1 e2 e3 e4 e5 e6 e7 e8 e9 e10 o0 o1 o2 z0 z1 z2 hb hr ho hk3
      refine ret_ldi2 ?_
      first
        | (refine stp_no ?_ (by decide); simp_all [rfs, plc, emb, pmb, oth, srv]; done)
        | (refine stp_no ?_ (by decide); simp_all [rfs, plc, emb, pmb, oth, srv]; omega)
        | (refine stp_yes ?_ ?_
           · first | (simp_all [rfs, plc, emb, pmb, oth, srv]; done) | (simp_all [rfs, plc, emb, pmb, oth, srv]; omega)
           · first | (simp_all [bhd]; done) | (simp_all [bhd, plc, vld]; done) | (simp_all [bhd, plc, vld]; omega))
  · have hv' : vld s ⟨ph, ep, pe⟩ = false := by simpa using hv
    clear hwr hv
    rw [hv'] at HV
    go_enter Try.func29, Try.ntmps29
    go_wp2_with (first
      | (go_at_call 55; refine (HR _).mono ?_; rintro e w8 ⟨rfl, hq⟩; have hq2 := hq.symm; subst hq2)
      | (go_at_call 33; refine (HV _).mono ?_; rintro e w3 ⟨rfl, hk⟩; have hb := (((Blk.new w _ _).alloc _).alloc _).kept hk (by simp); have hr := ((new2 w _ _ _).alloc _).kept hk (by simp); have ho := (new3 w _ _ _ _).kept hk (by simp); have hk3 := ((((Kept.refl [] w).alloc _).alloc _).alloc _).step hk; obtain ⟨c0, c1, c2⟩ := box3 hb; obtain ⟨e0, e1, e2, e3, e4, e5, e6, e7, e8, e9, e10⟩ := box11 hr; obtain ⟨o0, o1, o2⟩ := box3 ho; obtain ⟨z0, z1, z2⟩ := froz ho; have hol := ho.lt; have hol1 : w.heap.size < w3.heap.size := (by omega); have hol2 : w.heap.size + 1 < w3.heap.size := (by omega); clear hk)
      | (go_at_call 46; refine (HA2 _).mono ?_; rintro e w8 ⟨rfl, hq⟩; have hq2 := hq.symm; subst hq2)
      | (go_at_call 44; refine (HS _ _).mono ?_; rintro e w8 ⟨rfl, hq⟩; have hq2 := hq.symm; subst hq2))
    all_goals first
      | (guard_target =~ bodyPost _ _ _ _ _ (World.alloc _ _); refine ret_struct_tmp (b := w.heap.size + 1 + 1) rfl rfl ((put3 ho _ _ _).alloc _) Try.underlying25 infoLed rfl ⟨?_, (Kept.setCell (Kept.setCell (Kept.setCell hk3 (Or.inr (by simp; omega)) _) (Or.inr (by simp; omega)) _) (Or.inr (by simp; omega)) _).alloc _⟩)
      | refine ret_struct_tmp (b := w.heap.size + 1 + 1) rfl rfl (put3 ho _ _ _) Try.underlying25 infoLed rfl ⟨?_, Kept.setCell (Kept.setCell (Kept.setCell hk3 (Or.inr (by simp; omega)) _) (Or.inr (by simp; omega)) _) (Or.inr (by simp; omega)) _⟩
    all_goals
      clear c0 c1 c2 e0 e1 e2 e3 e4 e5 e6 e7 e8 e9 e10 o0 o1 o2 z0 z1 z2 hb hr ho hk3
      refine ret_ldi2 ?_
      first
        | (refine stp_no ?_ (by decide); simp_all [rfs, plc, emb, pmb, oth, srv]; done)
        | (refine stp_no ?_ (by decide); simp_all [rfs, plc, emb, pmb, oth, srv]; omega)
        | (refine stp_yes ?_ ?_
           · first | (simp_all [rfs, plc, emb, pmb, oth, srv]; done) | (simp_all [rfs, plc, emb, pmb, oth, srv]; omega)
           · first | (simp_all [bhd]; done) | (simp_all [bhd, plc, vld]; done) | (simp_all [bhd, plc, vld]; omega))
set_option maxRecDepth 100000 in
set_option maxHeartbeats 2000000 in
theorem rstep2 (w : World) (s : Int) (l : Ld) (r : Rc) (hkd : r.kind = 2) : Calls Try.prog 29 #[.int .i64 s, lv l, rv r] w fun e w' => e = .returned (.tuple #[lv (stp s l r.kind r.epoch r.peer), .int .i64 (rfs s l r.kind r.epoch r.peer)]) ∧ Kept [] w w' := by
  have HR := fun W => rrule_any W r.kind
  have HV := fun W => rvalid_any W s l
  have HA2 := fun W => has_rule W l.ph r.kind (by omega) (by omega)
  have HS := fun W n => rserver_any W n
  obtain ⟨kind, shard, epoch, peer, client, seq, okind, okey, oval, orev, copy⟩ := r
  obtain ⟨ph, ep, pe⟩ := l
  rw [show lv ⟨ph, ep, pe⟩ = .agg #[.int .i64 ph, .int .i64 ep, .int .i64 pe] from rfl] at *
  unfold rv
  dsimp only at *
  subst hkd
  rw [show rls 2 = [49] from by decide, show rlt 2 = 2 from by decide] at HR
  rw [show rls 2 = [49] from by decide] at HA2
  have hwr : vld s ⟨ph, ep, pe⟩ = true → IntKind.i64.wrap (ep + 1) = ep + 1 := by
    intro h; simp [vld] at h; rw [IntKind.wrap_i64]; omega
  by_cases hv : vld s ⟨ph, ep, pe⟩ = true
  · have hw1 := hwr hv
    clear hwr
    rw [hv] at HV
    go_enter Try.func29, Try.ntmps29
    go_wp2_with (first
      | (go_at_call 55; refine (HR _).mono ?_; rintro e w8 ⟨rfl, hq⟩; have hq2 := hq.symm; subst hq2)
      | (go_at_call 33; refine (HV _).mono ?_; rintro e w3 ⟨rfl, hk⟩; have hb := (((Blk.new w _ _).alloc _).alloc _).kept hk (by simp); have hr := ((new2 w _ _ _).alloc _).kept hk (by simp); have ho := (new3 w _ _ _ _).kept hk (by simp); have hk3 := ((((Kept.refl [] w).alloc _).alloc _).alloc _).step hk; obtain ⟨c0, c1, c2⟩ := box3 hb; obtain ⟨e0, e1, e2, e3, e4, e5, e6, e7, e8, e9, e10⟩ := box11 hr; obtain ⟨o0, o1, o2⟩ := box3 ho; obtain ⟨z0, z1, z2⟩ := froz ho; have hol := ho.lt; have hol1 : w.heap.size < w3.heap.size := (by omega); have hol2 : w.heap.size + 1 < w3.heap.size := (by omega); clear hk)
      | (go_at_call 46; refine (HA2 _).mono ?_; rintro e w8 ⟨rfl, hq⟩; have hq2 := hq.symm; subst hq2)
      | (go_at_call 44; refine (HS _ _).mono ?_; rintro e w8 ⟨rfl, hq⟩; have hq2 := hq.symm; subst hq2))
    all_goals first
      | (guard_target =~ bodyPost _ _ _ _ _ (World.alloc _ _); refine ret_struct_tmp (b := w.heap.size + 1 + 1) rfl rfl ((put3 ho _ _ _).alloc _) Try.underlying25 infoLed rfl ⟨?_, (Kept.setCell (Kept.setCell (Kept.setCell hk3 (Or.inr (by simp; omega)) _) (Or.inr (by simp; omega)) _) (Or.inr (by simp; omega)) _).alloc _⟩)
      | refine ret_struct_tmp (b := w.heap.size + 1 + 1) rfl rfl (put3 ho _ _ _) Try.underlying25 infoLed rfl ⟨?_, Kept.setCell (Kept.setCell (Kept.setCell hk3 (Or.inr (by simp; omega)) _) (Or.inr (by simp; omega)) _) (Or.inr (by simp; omega)) _⟩
    all_goals
      clear c0 c1 c2 e0 e1 e2 e3 e4 e5 e6 e7 e8 e9 e10 o0 o1 o2 z0 z1 z2 hb hr ho hk3
      refine ret_ldi2 ?_
      first
        | (refine stp_no ?_ (by decide); simp_all [rfs, plc, emb, pmb, oth, srv]; done)
        | (refine stp_no ?_ (by decide); simp_all [rfs, plc, emb, pmb, oth, srv]; omega)
        | (refine stp_yes ?_ ?_
           · first | (simp_all [rfs, plc, emb, pmb, oth, srv]; done) | (simp_all [rfs, plc, emb, pmb, oth, srv]; omega)
           · first | (simp_all [bhd]; done) | (simp_all [bhd, plc, vld]; done) | (simp_all [bhd, plc, vld]; omega))
  · have hv' : vld s ⟨ph, ep, pe⟩ = false := by simpa using hv
    clear hwr hv
    rw [hv'] at HV
    go_enter Try.func29, Try.ntmps29
    go_wp2_with (first
      | (go_at_call 55; refine (HR _).mono ?_; rintro e w8 ⟨rfl, hq⟩; have hq2 := hq.symm; subst hq2)
      | (go_at_call 33; refine (HV _).mono ?_; rintro e w3 ⟨rfl, hk⟩; have hb := (((Blk.new w _ _).alloc _).alloc _).kept hk (by simp); have hr := ((new2 w _ _ _).alloc _).kept hk (by simp); have ho := (new3 w _ _ _ _).kept hk (by simp); have hk3 := ((((Kept.refl [] w).alloc _).alloc _).alloc _).step hk; obtain ⟨c0, c1, c2⟩ := box3 hb; obtain ⟨e0, e1, e2, e3, e4, e5, e6, e7, e8, e9, e10⟩ := box11 hr; obtain ⟨o0, o1, o2⟩ := box3 ho; obtain ⟨z0, z1, z2⟩ := froz ho; have hol := ho.lt; have hol1 : w.heap.size < w3.heap.size := (by omega); have hol2 : w.heap.size + 1 < w3.heap.size := (by omega); clear hk)
      | (go_at_call 46; refine (HA2 _).mono ?_; rintro e w8 ⟨rfl, hq⟩; have hq2 := hq.symm; subst hq2)
      | (go_at_call 44; refine (HS _ _).mono ?_; rintro e w8 ⟨rfl, hq⟩; have hq2 := hq.symm; subst hq2))
    all_goals first
      | (guard_target =~ bodyPost _ _ _ _ _ (World.alloc _ _); refine ret_struct_tmp (b := w.heap.size + 1 + 1) rfl rfl ((put3 ho _ _ _).alloc _) Try.underlying25 infoLed rfl ⟨?_, (Kept.setCell (Kept.setCell (Kept.setCell hk3 (Or.inr (by simp; omega)) _) (Or.inr (by simp; omega)) _) (Or.inr (by simp; omega)) _).alloc _⟩)
      | refine ret_struct_tmp (b := w.heap.size + 1 + 1) rfl rfl (put3 ho _ _ _) Try.underlying25 infoLed rfl ⟨?_, Kept.setCell (Kept.setCell (Kept.setCell hk3 (Or.inr (by simp; omega)) _) (Or.inr (by simp; omega)) _) (Or.inr (by simp; omega)) _⟩
    all_goals
      clear c0 c1 c2 e0 e1 e2 e3 e4 e5 e6 e7 e8 e9 e10 o0 o1 o2 z0 z1 z2 hb hr ho hk3
      refine ret_ldi2 ?_
      first
        | (refine stp_no ?_ (by decide); simp_all [rfs, plc, emb, pmb, oth, srv]; done)
        | (refine stp_no ?_ (by decide); simp_all [rfs, plc, emb, pmb, oth, srv]; omega)
        | (refine stp_yes ?_ ?_
           · first | (simp_all [rfs, plc, emb, pmb, oth, srv]; done) | (simp_all [rfs, plc, emb, pmb, oth, srv]; omega)
           · first | (simp_all [bhd]; done) | (simp_all [bhd, plc, vld]; done) | (simp_all [bhd, plc, vld]; omega))
set_option maxRecDepth 100000 in
set_option maxHeartbeats 2000000 in
theorem rstep3 (w : World) (s : Int) (l : Ld) (r : Rc) (hkd : r.kind = 3) : Calls Try.prog 29 #[.int .i64 s, lv l, rv r] w fun e w' => e = .returned (.tuple #[lv (stp s l r.kind r.epoch r.peer), .int .i64 (rfs s l r.kind r.epoch r.peer)]) ∧ Kept [] w w' := by
  have HR := fun W => rrule_any W r.kind
  have HV := fun W => rvalid_any W s l
  have HA2 := fun W => has_rule W l.ph r.kind (by omega) (by omega)
  have HS := fun W n => rserver_any W n
  obtain ⟨kind, shard, epoch, peer, client, seq, okind, okey, oval, orev, copy⟩ := r
  obtain ⟨ph, ep, pe⟩ := l
  rw [show lv ⟨ph, ep, pe⟩ = .agg #[.int .i64 ph, .int .i64 ep, .int .i64 pe] from rfl] at *
  unfold rv
  dsimp only at *
  subst hkd
  rw [show rls 3 = [50] from by decide, show rlt 3 = 1 from by decide] at HR
  rw [show rls 3 = [50] from by decide] at HA2
  have hwr : vld s ⟨ph, ep, pe⟩ = true → IntKind.i64.wrap (ep + 1) = ep + 1 := by
    intro h; simp [vld] at h; rw [IntKind.wrap_i64]; omega
  by_cases hv : vld s ⟨ph, ep, pe⟩ = true
  · have hw1 := hwr hv
    clear hwr
    rw [hv] at HV
    go_enter Try.func29, Try.ntmps29
    go_wp2_with (first
      | (go_at_call 55; refine (HR _).mono ?_; rintro e w8 ⟨rfl, hq⟩; have hq2 := hq.symm; subst hq2)
      | (go_at_call 33; refine (HV _).mono ?_; rintro e w3 ⟨rfl, hk⟩; have hb := (((Blk.new w _ _).alloc _).alloc _).kept hk (by simp); have hr := ((new2 w _ _ _).alloc _).kept hk (by simp); have ho := (new3 w _ _ _ _).kept hk (by simp); have hk3 := ((((Kept.refl [] w).alloc _).alloc _).alloc _).step hk; obtain ⟨c0, c1, c2⟩ := box3 hb; obtain ⟨e0, e1, e2, e3, e4, e5, e6, e7, e8, e9, e10⟩ := box11 hr; obtain ⟨o0, o1, o2⟩ := box3 ho; obtain ⟨z0, z1, z2⟩ := froz ho; have hol := ho.lt; have hol1 : w.heap.size < w3.heap.size := (by omega); have hol2 : w.heap.size + 1 < w3.heap.size := (by omega); clear hk)
      | (go_at_call 46; refine (HA2 _).mono ?_; rintro e w8 ⟨rfl, hq⟩; have hq2 := hq.symm; subst hq2)
      | (go_at_call 44; refine (HS _ _).mono ?_; rintro e w8 ⟨rfl, hq⟩; have hq2 := hq.symm; subst hq2))
    all_goals first
      | (guard_target =~ bodyPost _ _ _ _ _ (World.alloc _ _); refine ret_struct_tmp (b := w.heap.size + 1 + 1) rfl rfl ((put3 ho _ _ _).alloc _) Try.underlying25 infoLed rfl ⟨?_, (Kept.setCell (Kept.setCell (Kept.setCell hk3 (Or.inr (by simp; omega)) _) (Or.inr (by simp; omega)) _) (Or.inr (by simp; omega)) _).alloc _⟩)
      | refine ret_struct_tmp (b := w.heap.size + 1 + 1) rfl rfl (put3 ho _ _ _) Try.underlying25 infoLed rfl ⟨?_, Kept.setCell (Kept.setCell (Kept.setCell hk3 (Or.inr (by simp; omega)) _) (Or.inr (by simp; omega)) _) (Or.inr (by simp; omega)) _⟩
    all_goals
      clear c0 c1 c2 e0 e1 e2 e3 e4 e5 e6 e7 e8 e9 e10 o0 o1 o2 z0 z1 z2 hb hr ho hk3
      refine ret_ldi2 ?_
      first
        | (refine stp_no ?_ (by decide); simp_all [rfs, plc, emb, pmb, oth, srv]; done)
        | (refine stp_no ?_ (by decide); simp_all [rfs, plc, emb, pmb, oth, srv]; omega)
        | (refine stp_yes ?_ ?_
           · first | (simp_all [rfs, plc, emb, pmb, oth, srv]; done) | (simp_all [rfs, plc, emb, pmb, oth, srv]; omega)
           · first | (simp_all [bhd]; done) | (simp_all [bhd, plc, vld]; done) | (simp_all [bhd, plc, vld]; omega))
  · have hv' : vld s ⟨ph, ep, pe⟩ = false := by simpa using hv
    clear hwr hv
    rw [hv'] at HV
    go_enter Try.func29, Try.ntmps29
    go_wp2_with (first
      | (go_at_call 55; refine (HR _).mono ?_; rintro e w8 ⟨rfl, hq⟩; have hq2 := hq.symm; subst hq2)
      | (go_at_call 33; refine (HV _).mono ?_; rintro e w3 ⟨rfl, hk⟩; have hb := (((Blk.new w _ _).alloc _).alloc _).kept hk (by simp); have hr := ((new2 w _ _ _).alloc _).kept hk (by simp); have ho := (new3 w _ _ _ _).kept hk (by simp); have hk3 := ((((Kept.refl [] w).alloc _).alloc _).alloc _).step hk; obtain ⟨c0, c1, c2⟩ := box3 hb; obtain ⟨e0, e1, e2, e3, e4, e5, e6, e7, e8, e9, e10⟩ := box11 hr; obtain ⟨o0, o1, o2⟩ := box3 ho; obtain ⟨z0, z1, z2⟩ := froz ho; have hol := ho.lt; have hol1 : w.heap.size < w3.heap.size := (by omega); have hol2 : w.heap.size + 1 < w3.heap.size := (by omega); clear hk)
      | (go_at_call 46; refine (HA2 _).mono ?_; rintro e w8 ⟨rfl, hq⟩; have hq2 := hq.symm; subst hq2)
      | (go_at_call 44; refine (HS _ _).mono ?_; rintro e w8 ⟨rfl, hq⟩; have hq2 := hq.symm; subst hq2))
    all_goals first
      | (guard_target =~ bodyPost _ _ _ _ _ (World.alloc _ _); refine ret_struct_tmp (b := w.heap.size + 1 + 1) rfl rfl ((put3 ho _ _ _).alloc _) Try.underlying25 infoLed rfl ⟨?_, (Kept.setCell (Kept.setCell (Kept.setCell hk3 (Or.inr (by simp; omega)) _) (Or.inr (by simp; omega)) _) (Or.inr (by simp; omega)) _).alloc _⟩)
      | refine ret_struct_tmp (b := w.heap.size + 1 + 1) rfl rfl (put3 ho _ _ _) Try.underlying25 infoLed rfl ⟨?_, Kept.setCell (Kept.setCell (Kept.setCell hk3 (Or.inr (by simp; omega)) _) (Or.inr (by simp; omega)) _) (Or.inr (by simp; omega)) _⟩
    all_goals
      clear c0 c1 c2 e0 e1 e2 e3 e4 e5 e6 e7 e8 e9 e10 o0 o1 o2 z0 z1 z2 hb hr ho hk3
      refine ret_ldi2 ?_
      first
        | (refine stp_no ?_ (by decide); simp_all [rfs, plc, emb, pmb, oth, srv]; done)
        | (refine stp_no ?_ (by decide); simp_all [rfs, plc, emb, pmb, oth, srv]; omega)
        | (refine stp_yes ?_ ?_
           · first | (simp_all [rfs, plc, emb, pmb, oth, srv]; done) | (simp_all [rfs, plc, emb, pmb, oth, srv]; omega)
           · first | (simp_all [bhd]; done) | (simp_all [bhd, plc, vld]; done) | (simp_all [bhd, plc, vld]; omega))
set_option maxRecDepth 100000 in
set_option maxHeartbeats 2000000 in
theorem rstep4 (w : World) (s : Int) (l : Ld) (r : Rc) (hkd : r.kind = 4) : Calls Try.prog 29 #[.int .i64 s, lv l, rv r] w fun e w' => e = .returned (.tuple #[lv (stp s l r.kind r.epoch r.peer), .int .i64 (rfs s l r.kind r.epoch r.peer)]) ∧ Kept [] w w' := by
  have HR := fun W => rrule_any W r.kind
  have HV := fun W => rvalid_any W s l
  have HA2 := fun W => has_rule W l.ph r.kind (by omega) (by omega)
  have HS := fun W n => rserver_any W n
  obtain ⟨kind, shard, epoch, peer, client, seq, okind, okey, oval, orev, copy⟩ := r
  obtain ⟨ph, ep, pe⟩ := l
  rw [show lv ⟨ph, ep, pe⟩ = .agg #[.int .i64 ph, .int .i64 ep, .int .i64 pe] from rfl] at *
  unfold rv
  dsimp only at *
  subst hkd
  rw [show rls 4 = [48, 53, 52] from by decide, show rlt 4 = 4 from by decide] at HR
  rw [show rls 4 = [48, 53, 52] from by decide] at HA2
  have hwr : vld s ⟨ph, ep, pe⟩ = true → IntKind.i64.wrap (ep + 1) = ep + 1 := by
    intro h; simp [vld] at h; rw [IntKind.wrap_i64]; omega
  by_cases hv : vld s ⟨ph, ep, pe⟩ = true
  · have hw1 := hwr hv
    clear hwr
    rw [hv] at HV
    go_enter Try.func29, Try.ntmps29
    go_wp2_with (first
      | (go_at_call 55; refine (HR _).mono ?_; rintro e w8 ⟨rfl, hq⟩; have hq2 := hq.symm; subst hq2)
      | (go_at_call 33; refine (HV _).mono ?_; rintro e w3 ⟨rfl, hk⟩; have hb := (((Blk.new w _ _).alloc _).alloc _).kept hk (by simp); have hr := ((new2 w _ _ _).alloc _).kept hk (by simp); have ho := (new3 w _ _ _ _).kept hk (by simp); have hk3 := ((((Kept.refl [] w).alloc _).alloc _).alloc _).step hk; obtain ⟨c0, c1, c2⟩ := box3 hb; obtain ⟨e0, e1, e2, e3, e4, e5, e6, e7, e8, e9, e10⟩ := box11 hr; obtain ⟨o0, o1, o2⟩ := box3 ho; obtain ⟨z0, z1, z2⟩ := froz ho; have hol := ho.lt; have hol1 : w.heap.size < w3.heap.size := (by omega); have hol2 : w.heap.size + 1 < w3.heap.size := (by omega); clear hk)
      | (go_at_call 46; refine (HA2 _).mono ?_; rintro e w8 ⟨rfl, hq⟩; have hq2 := hq.symm; subst hq2)
      | (go_at_call 44; refine (HS _ _).mono ?_; rintro e w8 ⟨rfl, hq⟩; have hq2 := hq.symm; subst hq2))
    all_goals first
      | (guard_target =~ bodyPost _ _ _ _ _ (World.alloc _ _); refine ret_struct_tmp (b := w.heap.size + 1 + 1) rfl rfl ((put3 ho _ _ _).alloc _) Try.underlying25 infoLed rfl ⟨?_, (Kept.setCell (Kept.setCell (Kept.setCell hk3 (Or.inr (by simp; omega)) _) (Or.inr (by simp; omega)) _) (Or.inr (by simp; omega)) _).alloc _⟩)
      | refine ret_struct_tmp (b := w.heap.size + 1 + 1) rfl rfl (put3 ho _ _ _) Try.underlying25 infoLed rfl ⟨?_, Kept.setCell (Kept.setCell (Kept.setCell hk3 (Or.inr (by simp; omega)) _) (Or.inr (by simp; omega)) _) (Or.inr (by simp; omega)) _⟩
    all_goals
      clear c0 c1 c2 e0 e1 e2 e3 e4 e5 e6 e7 e8 e9 e10 o0 o1 o2 z0 z1 z2 hb hr ho hk3
      refine ret_ldi2 ?_
      first
        | (refine stp_no ?_ (by decide); simp_all [rfs, plc, emb, pmb, oth, srv]; done)
        | (refine stp_no ?_ (by decide); simp_all [rfs, plc, emb, pmb, oth, srv]; omega)
        | (refine stp_yes ?_ ?_
           · first | (simp_all [rfs, plc, emb, pmb, oth, srv]; done) | (simp_all [rfs, plc, emb, pmb, oth, srv]; omega)
           · first | (simp_all [bhd]; done) | (simp_all [bhd, plc, vld]; done) | (simp_all [bhd, plc, vld]; omega))
  · have hv' : vld s ⟨ph, ep, pe⟩ = false := by simpa using hv
    clear hwr hv
    rw [hv'] at HV
    go_enter Try.func29, Try.ntmps29
    go_wp2_with (first
      | (go_at_call 55; refine (HR _).mono ?_; rintro e w8 ⟨rfl, hq⟩; have hq2 := hq.symm; subst hq2)
      | (go_at_call 33; refine (HV _).mono ?_; rintro e w3 ⟨rfl, hk⟩; have hb := (((Blk.new w _ _).alloc _).alloc _).kept hk (by simp); have hr := ((new2 w _ _ _).alloc _).kept hk (by simp); have ho := (new3 w _ _ _ _).kept hk (by simp); have hk3 := ((((Kept.refl [] w).alloc _).alloc _).alloc _).step hk; obtain ⟨c0, c1, c2⟩ := box3 hb; obtain ⟨e0, e1, e2, e3, e4, e5, e6, e7, e8, e9, e10⟩ := box11 hr; obtain ⟨o0, o1, o2⟩ := box3 ho; obtain ⟨z0, z1, z2⟩ := froz ho; have hol := ho.lt; have hol1 : w.heap.size < w3.heap.size := (by omega); have hol2 : w.heap.size + 1 < w3.heap.size := (by omega); clear hk)
      | (go_at_call 46; refine (HA2 _).mono ?_; rintro e w8 ⟨rfl, hq⟩; have hq2 := hq.symm; subst hq2)
      | (go_at_call 44; refine (HS _ _).mono ?_; rintro e w8 ⟨rfl, hq⟩; have hq2 := hq.symm; subst hq2))
    all_goals first
      | (guard_target =~ bodyPost _ _ _ _ _ (World.alloc _ _); refine ret_struct_tmp (b := w.heap.size + 1 + 1) rfl rfl ((put3 ho _ _ _).alloc _) Try.underlying25 infoLed rfl ⟨?_, (Kept.setCell (Kept.setCell (Kept.setCell hk3 (Or.inr (by simp; omega)) _) (Or.inr (by simp; omega)) _) (Or.inr (by simp; omega)) _).alloc _⟩)
      | refine ret_struct_tmp (b := w.heap.size + 1 + 1) rfl rfl (put3 ho _ _ _) Try.underlying25 infoLed rfl ⟨?_, Kept.setCell (Kept.setCell (Kept.setCell hk3 (Or.inr (by simp; omega)) _) (Or.inr (by simp; omega)) _) (Or.inr (by simp; omega)) _⟩
    all_goals
      clear c0 c1 c2 e0 e1 e2 e3 e4 e5 e6 e7 e8 e9 e10 o0 o1 o2 z0 z1 z2 hb hr ho hk3
      refine ret_ldi2 ?_
      first
        | (refine stp_no ?_ (by decide); simp_all [rfs, plc, emb, pmb, oth, srv]; done)
        | (refine stp_no ?_ (by decide); simp_all [rfs, plc, emb, pmb, oth, srv]; omega)
        | (refine stp_yes ?_ ?_
           · first | (simp_all [rfs, plc, emb, pmb, oth, srv]; done) | (simp_all [rfs, plc, emb, pmb, oth, srv]; omega)
           · first | (simp_all [bhd]; done) | (simp_all [bhd, plc, vld]; done) | (simp_all [bhd, plc, vld]; omega))
set_option maxRecDepth 100000 in
set_option maxHeartbeats 2000000 in
theorem rstep5 (w : World) (s : Int) (l : Ld) (r : Rc) (hkd : r.kind = 5) : Calls Try.prog 29 #[.int .i64 s, lv l, rv r] w fun e w' => e = .returned (.tuple #[lv (stp s l r.kind r.epoch r.peer), .int .i64 (rfs s l r.kind r.epoch r.peer)]) ∧ Kept [] w w' := by
  have HR := fun W => rrule_any W r.kind
  have HV := fun W => rvalid_any W s l
  have HA2 := fun W => has_rule W l.ph r.kind (by omega) (by omega)
  have HS := fun W n => rserver_any W n
  obtain ⟨kind, shard, epoch, peer, client, seq, okind, okey, oval, orev, copy⟩ := r
  obtain ⟨ph, ep, pe⟩ := l
  rw [show lv ⟨ph, ep, pe⟩ = .agg #[.int .i64 ph, .int .i64 ep, .int .i64 pe] from rfl] at *
  unfold rv
  dsimp only at *
  subst hkd
  rw [show rls 5 = [50] from by decide, show rlt 5 = 3 from by decide] at HR
  rw [show rls 5 = [50] from by decide] at HA2
  have hwr : vld s ⟨ph, ep, pe⟩ = true → IntKind.i64.wrap (ep + 1) = ep + 1 := by
    intro h; simp [vld] at h; rw [IntKind.wrap_i64]; omega
  by_cases hv : vld s ⟨ph, ep, pe⟩ = true
  · have hw1 := hwr hv
    clear hwr
    rw [hv] at HV
    go_enter Try.func29, Try.ntmps29
    go_wp2_with (first
      | (go_at_call 55; refine (HR _).mono ?_; rintro e w8 ⟨rfl, hq⟩; have hq2 := hq.symm; subst hq2)
      | (go_at_call 33; refine (HV _).mono ?_; rintro e w3 ⟨rfl, hk⟩; have hb := (((Blk.new w _ _).alloc _).alloc _).kept hk (by simp); have hr := ((new2 w _ _ _).alloc _).kept hk (by simp); have ho := (new3 w _ _ _ _).kept hk (by simp); have hk3 := ((((Kept.refl [] w).alloc _).alloc _).alloc _).step hk; obtain ⟨c0, c1, c2⟩ := box3 hb; obtain ⟨e0, e1, e2, e3, e4, e5, e6, e7, e8, e9, e10⟩ := box11 hr; obtain ⟨o0, o1, o2⟩ := box3 ho; obtain ⟨z0, z1, z2⟩ := froz ho; have hol := ho.lt; have hol1 : w.heap.size < w3.heap.size := (by omega); have hol2 : w.heap.size + 1 < w3.heap.size := (by omega); clear hk)
      | (go_at_call 46; refine (HA2 _).mono ?_; rintro e w8 ⟨rfl, hq⟩; have hq2 := hq.symm; subst hq2)
      | (go_at_call 44; refine (HS _ _).mono ?_; rintro e w8 ⟨rfl, hq⟩; have hq2 := hq.symm; subst hq2))
    all_goals first
      | (guard_target =~ bodyPost _ _ _ _ _ (World.alloc _ _); refine ret_struct_tmp (b := w.heap.size + 1 + 1) rfl rfl ((put3 ho _ _ _).alloc _) Try.underlying25 infoLed rfl ⟨?_, (Kept.setCell (Kept.setCell (Kept.setCell hk3 (Or.inr (by simp; omega)) _) (Or.inr (by simp; omega)) _) (Or.inr (by simp; omega)) _).alloc _⟩)
      | refine ret_struct_tmp (b := w.heap.size + 1 + 1) rfl rfl (put3 ho _ _ _) Try.underlying25 infoLed rfl ⟨?_, Kept.setCell (Kept.setCell (Kept.setCell hk3 (Or.inr (by simp; omega)) _) (Or.inr (by simp; omega)) _) (Or.inr (by simp; omega)) _⟩
    all_goals
      clear c0 c1 c2 e0 e1 e2 e3 e4 e5 e6 e7 e8 e9 e10 o0 o1 o2 z0 z1 z2 hb hr ho hk3
      refine ret_ldi2 ?_
      first
        | (refine stp_no ?_ (by decide); simp_all [rfs, plc, emb, pmb, oth, srv]; done)
        | (refine stp_no ?_ (by decide); simp_all [rfs, plc, emb, pmb, oth, srv]; omega)
        | (refine stp_yes ?_ ?_
           · first | (simp_all [rfs, plc, emb, pmb, oth, srv]; done) | (simp_all [rfs, plc, emb, pmb, oth, srv]; omega)
           · first | (simp_all [bhd]; done) | (simp_all [bhd, plc, vld]; done) | (simp_all [bhd, plc, vld]; omega))
  · have hv' : vld s ⟨ph, ep, pe⟩ = false := by simpa using hv
    clear hwr hv
    rw [hv'] at HV
    go_enter Try.func29, Try.ntmps29
    go_wp2_with (first
      | (go_at_call 55; refine (HR _).mono ?_; rintro e w8 ⟨rfl, hq⟩; have hq2 := hq.symm; subst hq2)
      | (go_at_call 33; refine (HV _).mono ?_; rintro e w3 ⟨rfl, hk⟩; have hb := (((Blk.new w _ _).alloc _).alloc _).kept hk (by simp); have hr := ((new2 w _ _ _).alloc _).kept hk (by simp); have ho := (new3 w _ _ _ _).kept hk (by simp); have hk3 := ((((Kept.refl [] w).alloc _).alloc _).alloc _).step hk; obtain ⟨c0, c1, c2⟩ := box3 hb; obtain ⟨e0, e1, e2, e3, e4, e5, e6, e7, e8, e9, e10⟩ := box11 hr; obtain ⟨o0, o1, o2⟩ := box3 ho; obtain ⟨z0, z1, z2⟩ := froz ho; have hol := ho.lt; have hol1 : w.heap.size < w3.heap.size := (by omega); have hol2 : w.heap.size + 1 < w3.heap.size := (by omega); clear hk)
      | (go_at_call 46; refine (HA2 _).mono ?_; rintro e w8 ⟨rfl, hq⟩; have hq2 := hq.symm; subst hq2)
      | (go_at_call 44; refine (HS _ _).mono ?_; rintro e w8 ⟨rfl, hq⟩; have hq2 := hq.symm; subst hq2))
    all_goals first
      | (guard_target =~ bodyPost _ _ _ _ _ (World.alloc _ _); refine ret_struct_tmp (b := w.heap.size + 1 + 1) rfl rfl ((put3 ho _ _ _).alloc _) Try.underlying25 infoLed rfl ⟨?_, (Kept.setCell (Kept.setCell (Kept.setCell hk3 (Or.inr (by simp; omega)) _) (Or.inr (by simp; omega)) _) (Or.inr (by simp; omega)) _).alloc _⟩)
      | refine ret_struct_tmp (b := w.heap.size + 1 + 1) rfl rfl (put3 ho _ _ _) Try.underlying25 infoLed rfl ⟨?_, Kept.setCell (Kept.setCell (Kept.setCell hk3 (Or.inr (by simp; omega)) _) (Or.inr (by simp; omega)) _) (Or.inr (by simp; omega)) _⟩
    all_goals
      clear c0 c1 c2 e0 e1 e2 e3 e4 e5 e6 e7 e8 e9 e10 o0 o1 o2 z0 z1 z2 hb hr ho hk3
      refine ret_ldi2 ?_
      first
        | (refine stp_no ?_ (by decide); simp_all [rfs, plc, emb, pmb, oth, srv]; done)
        | (refine stp_no ?_ (by decide); simp_all [rfs, plc, emb, pmb, oth, srv]; omega)
        | (refine stp_yes ?_ ?_
           · first | (simp_all [rfs, plc, emb, pmb, oth, srv]; done) | (simp_all [rfs, plc, emb, pmb, oth, srv]; omega)
           · first | (simp_all [bhd]; done) | (simp_all [bhd, plc, vld]; done) | (simp_all [bhd, plc, vld]; omega))
set_option maxRecDepth 100000 in
set_option maxHeartbeats 2000000 in
theorem rstep6 (w : World) (s : Int) (l : Ld) (r : Rc) (hkd : r.kind = 6) : Calls Try.prog 29 #[.int .i64 s, lv l, rv r] w fun e w' => e = .returned (.tuple #[lv (stp s l r.kind r.epoch r.peer), .int .i64 (rfs s l r.kind r.epoch r.peer)]) ∧ Kept [] w w' := by
  have HR := fun W => rrule_any W r.kind
  have HV := fun W => rvalid_any W s l
  have HA2 := fun W => has_rule W l.ph r.kind (by omega) (by omega)
  have HS := fun W n => rserver_any W n
  obtain ⟨kind, shard, epoch, peer, client, seq, okind, okey, oval, orev, copy⟩ := r
  obtain ⟨ph, ep, pe⟩ := l
  rw [show lv ⟨ph, ep, pe⟩ = .agg #[.int .i64 ph, .int .i64 ep, .int .i64 pe] from rfl] at *
  unfold rv
  dsimp only at *
  subst hkd
  rw [show rls 6 = [52] from by decide, show rlt 6 = 1 from by decide] at HR
  rw [show rls 6 = [52] from by decide] at HA2
  have hwr : vld s ⟨ph, ep, pe⟩ = true → IntKind.i64.wrap (ep + 1) = ep + 1 := by
    intro h; simp [vld] at h; rw [IntKind.wrap_i64]; omega
  by_cases hv : vld s ⟨ph, ep, pe⟩ = true
  · have hw1 := hwr hv
    clear hwr
    rw [hv] at HV
    go_enter Try.func29, Try.ntmps29
    go_wp2_with (first
      | (go_at_call 55; refine (HR _).mono ?_; rintro e w8 ⟨rfl, hq⟩; have hq2 := hq.symm; subst hq2)
      | (go_at_call 33; refine (HV _).mono ?_; rintro e w3 ⟨rfl, hk⟩; have hb := (((Blk.new w _ _).alloc _).alloc _).kept hk (by simp); have hr := ((new2 w _ _ _).alloc _).kept hk (by simp); have ho := (new3 w _ _ _ _).kept hk (by simp); have hk3 := ((((Kept.refl [] w).alloc _).alloc _).alloc _).step hk; obtain ⟨c0, c1, c2⟩ := box3 hb; obtain ⟨e0, e1, e2, e3, e4, e5, e6, e7, e8, e9, e10⟩ := box11 hr; obtain ⟨o0, o1, o2⟩ := box3 ho; obtain ⟨z0, z1, z2⟩ := froz ho; have hol := ho.lt; have hol1 : w.heap.size < w3.heap.size := (by omega); have hol2 : w.heap.size + 1 < w3.heap.size := (by omega); clear hk)
      | (go_at_call 46; refine (HA2 _).mono ?_; rintro e w8 ⟨rfl, hq⟩; have hq2 := hq.symm; subst hq2)
      | (go_at_call 44; refine (HS _ _).mono ?_; rintro e w8 ⟨rfl, hq⟩; have hq2 := hq.symm; subst hq2))
    all_goals first
      | (guard_target =~ bodyPost _ _ _ _ _ (World.alloc _ _); refine ret_struct_tmp (b := w.heap.size + 1 + 1) rfl rfl ((put3 ho _ _ _).alloc _) Try.underlying25 infoLed rfl ⟨?_, (Kept.setCell (Kept.setCell (Kept.setCell hk3 (Or.inr (by simp; omega)) _) (Or.inr (by simp; omega)) _) (Or.inr (by simp; omega)) _).alloc _⟩)
      | refine ret_struct_tmp (b := w.heap.size + 1 + 1) rfl rfl (put3 ho _ _ _) Try.underlying25 infoLed rfl ⟨?_, Kept.setCell (Kept.setCell (Kept.setCell hk3 (Or.inr (by simp; omega)) _) (Or.inr (by simp; omega)) _) (Or.inr (by simp; omega)) _⟩
    all_goals
      clear c0 c1 c2 e0 e1 e2 e3 e4 e5 e6 e7 e8 e9 e10 o0 o1 o2 z0 z1 z2 hb hr ho hk3
      refine ret_ldi2 ?_
      first
        | (refine stp_no ?_ (by decide); simp_all [rfs, plc, emb, pmb, oth, srv]; done)
        | (refine stp_no ?_ (by decide); simp_all [rfs, plc, emb, pmb, oth, srv]; omega)
        | (refine stp_yes ?_ ?_
           · first | (simp_all [rfs, plc, emb, pmb, oth, srv]; done) | (simp_all [rfs, plc, emb, pmb, oth, srv]; omega)
           · first | (simp_all [bhd]; done) | (simp_all [bhd, plc, vld]; done) | (simp_all [bhd, plc, vld]; omega))
  · have hv' : vld s ⟨ph, ep, pe⟩ = false := by simpa using hv
    clear hwr hv
    rw [hv'] at HV
    go_enter Try.func29, Try.ntmps29
    go_wp2_with (first
      | (go_at_call 55; refine (HR _).mono ?_; rintro e w8 ⟨rfl, hq⟩; have hq2 := hq.symm; subst hq2)
      | (go_at_call 33; refine (HV _).mono ?_; rintro e w3 ⟨rfl, hk⟩; have hb := (((Blk.new w _ _).alloc _).alloc _).kept hk (by simp); have hr := ((new2 w _ _ _).alloc _).kept hk (by simp); have ho := (new3 w _ _ _ _).kept hk (by simp); have hk3 := ((((Kept.refl [] w).alloc _).alloc _).alloc _).step hk; obtain ⟨c0, c1, c2⟩ := box3 hb; obtain ⟨e0, e1, e2, e3, e4, e5, e6, e7, e8, e9, e10⟩ := box11 hr; obtain ⟨o0, o1, o2⟩ := box3 ho; obtain ⟨z0, z1, z2⟩ := froz ho; have hol := ho.lt; have hol1 : w.heap.size < w3.heap.size := (by omega); have hol2 : w.heap.size + 1 < w3.heap.size := (by omega); clear hk)
      | (go_at_call 46; refine (HA2 _).mono ?_; rintro e w8 ⟨rfl, hq⟩; have hq2 := hq.symm; subst hq2)
      | (go_at_call 44; refine (HS _ _).mono ?_; rintro e w8 ⟨rfl, hq⟩; have hq2 := hq.symm; subst hq2))
    all_goals first
      | (guard_target =~ bodyPost _ _ _ _ _ (World.alloc _ _); refine ret_struct_tmp (b := w.heap.size + 1 + 1) rfl rfl ((put3 ho _ _ _).alloc _) Try.underlying25 infoLed rfl ⟨?_, (Kept.setCell (Kept.setCell (Kept.setCell hk3 (Or.inr (by simp; omega)) _) (Or.inr (by simp; omega)) _) (Or.inr (by simp; omega)) _).alloc _⟩)
      | refine ret_struct_tmp (b := w.heap.size + 1 + 1) rfl rfl (put3 ho _ _ _) Try.underlying25 infoLed rfl ⟨?_, Kept.setCell (Kept.setCell (Kept.setCell hk3 (Or.inr (by simp; omega)) _) (Or.inr (by simp; omega)) _) (Or.inr (by simp; omega)) _⟩
    all_goals
      clear c0 c1 c2 e0 e1 e2 e3 e4 e5 e6 e7 e8 e9 e10 o0 o1 o2 z0 z1 z2 hb hr ho hk3
      refine ret_ldi2 ?_
      first
        | (refine stp_no ?_ (by decide); simp_all [rfs, plc, emb, pmb, oth, srv]; done)
        | (refine stp_no ?_ (by decide); simp_all [rfs, plc, emb, pmb, oth, srv]; omega)
        | (refine stp_yes ?_ ?_
           · first | (simp_all [rfs, plc, emb, pmb, oth, srv]; done) | (simp_all [rfs, plc, emb, pmb, oth, srv]; omega)
           · first | (simp_all [bhd]; done) | (simp_all [bhd, plc, vld]; done) | (simp_all [bhd, plc, vld]; omega))
set_option maxRecDepth 100000 in
set_option maxHeartbeats 2000000 in
theorem rstep7 (w : World) (s : Int) (l : Ld) (r : Rc) (hkd : r.kind = 7) : Calls Try.prog 29 #[.int .i64 s, lv l, rv r] w fun e w' => e = .returned (.tuple #[lv (stp s l r.kind r.epoch r.peer), .int .i64 (rfs s l r.kind r.epoch r.peer)]) ∧ Kept [] w w' := by
  have HR := fun W => rrule_any W r.kind
  have HV := fun W => rvalid_any W s l
  have HA2 := fun W => has_rule W l.ph r.kind (by omega) (by omega)
  have HS := fun W n => rserver_any W n
  obtain ⟨kind, shard, epoch, peer, client, seq, okind, okey, oval, orev, copy⟩ := r
  obtain ⟨ph, ep, pe⟩ := l
  rw [show lv ⟨ph, ep, pe⟩ = .agg #[.int .i64 ph, .int .i64 ep, .int .i64 pe] from rfl] at *
  unfold rv
  dsimp only at *
  subst hkd
  rw [show rls 7 = [51] from by decide, show rlt 7 = 5 from by decide] at HR
  rw [show rls 7 = [51] from by decide] at HA2
  have hwr : vld s ⟨ph, ep, pe⟩ = true → IntKind.i64.wrap (ep + 1) = ep + 1 := by
    intro h; simp [vld] at h; rw [IntKind.wrap_i64]; omega
  by_cases hv : vld s ⟨ph, ep, pe⟩ = true
  · have hw1 := hwr hv
    clear hwr
    rw [hv] at HV
    go_enter Try.func29, Try.ntmps29
    go_wp2_with (first
      | (go_at_call 55; refine (HR _).mono ?_; rintro e w8 ⟨rfl, hq⟩; have hq2 := hq.symm; subst hq2)
      | (go_at_call 33; refine (HV _).mono ?_; rintro e w3 ⟨rfl, hk⟩; have hb := (((Blk.new w _ _).alloc _).alloc _).kept hk (by simp); have hr := ((new2 w _ _ _).alloc _).kept hk (by simp); have ho := (new3 w _ _ _ _).kept hk (by simp); have hk3 := ((((Kept.refl [] w).alloc _).alloc _).alloc _).step hk; obtain ⟨c0, c1, c2⟩ := box3 hb; obtain ⟨e0, e1, e2, e3, e4, e5, e6, e7, e8, e9, e10⟩ := box11 hr; obtain ⟨o0, o1, o2⟩ := box3 ho; obtain ⟨z0, z1, z2⟩ := froz ho; have hol := ho.lt; have hol1 : w.heap.size < w3.heap.size := (by omega); have hol2 : w.heap.size + 1 < w3.heap.size := (by omega); clear hk)
      | (go_at_call 46; refine (HA2 _).mono ?_; rintro e w8 ⟨rfl, hq⟩; have hq2 := hq.symm; subst hq2)
      | (go_at_call 44; refine (HS _ _).mono ?_; rintro e w8 ⟨rfl, hq⟩; have hq2 := hq.symm; subst hq2))
    all_goals first
      | (guard_target =~ bodyPost _ _ _ _ _ (World.alloc _ _); refine ret_struct_tmp (b := w.heap.size + 1 + 1) rfl rfl ((put3 ho _ _ _).alloc _) Try.underlying25 infoLed rfl ⟨?_, (Kept.setCell (Kept.setCell (Kept.setCell hk3 (Or.inr (by simp; omega)) _) (Or.inr (by simp; omega)) _) (Or.inr (by simp; omega)) _).alloc _⟩)
      | refine ret_struct_tmp (b := w.heap.size + 1 + 1) rfl rfl (put3 ho _ _ _) Try.underlying25 infoLed rfl ⟨?_, Kept.setCell (Kept.setCell (Kept.setCell hk3 (Or.inr (by simp; omega)) _) (Or.inr (by simp; omega)) _) (Or.inr (by simp; omega)) _⟩
    all_goals
      clear c0 c1 c2 e0 e1 e2 e3 e4 e5 e6 e7 e8 e9 e10 o0 o1 o2 z0 z1 z2 hb hr ho hk3
      refine ret_ldi2 ?_
      first
        | (refine stp_no ?_ (by decide); simp_all [rfs, plc, emb, pmb, oth, srv]; done)
        | (refine stp_no ?_ (by decide); simp_all [rfs, plc, emb, pmb, oth, srv]; omega)
        | (refine stp_yes ?_ ?_
           · first | (simp_all [rfs, plc, emb, pmb, oth, srv]; done) | (simp_all [rfs, plc, emb, pmb, oth, srv]; omega)
           · first | (simp_all [bhd]; done) | (simp_all [bhd, plc, vld]; done) | (simp_all [bhd, plc, vld]; omega))
  · have hv' : vld s ⟨ph, ep, pe⟩ = false := by simpa using hv
    clear hwr hv
    rw [hv'] at HV
    go_enter Try.func29, Try.ntmps29
    go_wp2_with (first
      | (go_at_call 55; refine (HR _).mono ?_; rintro e w8 ⟨rfl, hq⟩; have hq2 := hq.symm; subst hq2)
      | (go_at_call 33; refine (HV _).mono ?_; rintro e w3 ⟨rfl, hk⟩; have hb := (((Blk.new w _ _).alloc _).alloc _).kept hk (by simp); have hr := ((new2 w _ _ _).alloc _).kept hk (by simp); have ho := (new3 w _ _ _ _).kept hk (by simp); have hk3 := ((((Kept.refl [] w).alloc _).alloc _).alloc _).step hk; obtain ⟨c0, c1, c2⟩ := box3 hb; obtain ⟨e0, e1, e2, e3, e4, e5, e6, e7, e8, e9, e10⟩ := box11 hr; obtain ⟨o0, o1, o2⟩ := box3 ho; obtain ⟨z0, z1, z2⟩ := froz ho; have hol := ho.lt; have hol1 : w.heap.size < w3.heap.size := (by omega); have hol2 : w.heap.size + 1 < w3.heap.size := (by omega); clear hk)
      | (go_at_call 46; refine (HA2 _).mono ?_; rintro e w8 ⟨rfl, hq⟩; have hq2 := hq.symm; subst hq2)
      | (go_at_call 44; refine (HS _ _).mono ?_; rintro e w8 ⟨rfl, hq⟩; have hq2 := hq.symm; subst hq2))
    all_goals first
      | (guard_target =~ bodyPost _ _ _ _ _ (World.alloc _ _); refine ret_struct_tmp (b := w.heap.size + 1 + 1) rfl rfl ((put3 ho _ _ _).alloc _) Try.underlying25 infoLed rfl ⟨?_, (Kept.setCell (Kept.setCell (Kept.setCell hk3 (Or.inr (by simp; omega)) _) (Or.inr (by simp; omega)) _) (Or.inr (by simp; omega)) _).alloc _⟩)
      | refine ret_struct_tmp (b := w.heap.size + 1 + 1) rfl rfl (put3 ho _ _ _) Try.underlying25 infoLed rfl ⟨?_, Kept.setCell (Kept.setCell (Kept.setCell hk3 (Or.inr (by simp; omega)) _) (Or.inr (by simp; omega)) _) (Or.inr (by simp; omega)) _⟩
    all_goals
      clear c0 c1 c2 e0 e1 e2 e3 e4 e5 e6 e7 e8 e9 e10 o0 o1 o2 z0 z1 z2 hb hr ho hk3
      refine ret_ldi2 ?_
      first
        | (refine stp_no ?_ (by decide); simp_all [rfs, plc, emb, pmb, oth, srv]; done)
        | (refine stp_no ?_ (by decide); simp_all [rfs, plc, emb, pmb, oth, srv]; omega)
        | (refine stp_yes ?_ ?_
           · first | (simp_all [rfs, plc, emb, pmb, oth, srv]; done) | (simp_all [rfs, plc, emb, pmb, oth, srv]; omega)
           · first | (simp_all [bhd]; done) | (simp_all [bhd, plc, vld]; done) | (simp_all [bhd, plc, vld]; omega))
set_option maxRecDepth 100000 in
set_option maxHeartbeats 2000000 in
theorem rstep8 (w : World) (s : Int) (l : Ld) (r : Rc) (hkd : r.kind = 8) : Calls Try.prog 29 #[.int .i64 s, lv l, rv r] w fun e w' => e = .returned (.tuple #[lv (stp s l r.kind r.epoch r.peer), .int .i64 (rfs s l r.kind r.epoch r.peer)]) ∧ Kept [] w w' := by
  have HR := fun W => rrule_any W r.kind
  have HV := fun W => rvalid_any W s l
  have HA2 := fun W => has_rule W l.ph r.kind (by omega) (by omega)
  have HS := fun W n => rserver_any W n
  obtain ⟨kind, shard, epoch, peer, client, seq, okind, okey, oval, orev, copy⟩ := r
  obtain ⟨ph, ep, pe⟩ := l
  rw [show lv ⟨ph, ep, pe⟩ = .agg #[.int .i64 ph, .int .i64 ep, .int .i64 pe] from rfl] at *
  unfold rv
  dsimp only at *
  subst hkd
  rw [show rls 8 = [52] from by decide, show rlt 8 = 5 from by decide] at HR
  rw [show rls 8 = [52] from by decide] at HA2
  have hwr : vld s ⟨ph, ep, pe⟩ = true → IntKind.i64.wrap (ep + 1) = ep + 1 := by
    intro h; simp [vld] at h; rw [IntKind.wrap_i64]; omega
  by_cases hv : vld s ⟨ph, ep, pe⟩ = true
  · have hw1 := hwr hv
    clear hwr
    rw [hv] at HV
    go_enter Try.func29, Try.ntmps29
    go_wp2_with (first
      | (go_at_call 55; refine (HR _).mono ?_; rintro e w8 ⟨rfl, hq⟩; have hq2 := hq.symm; subst hq2)
      | (go_at_call 33; refine (HV _).mono ?_; rintro e w3 ⟨rfl, hk⟩; have hb := (((Blk.new w _ _).alloc _).alloc _).kept hk (by simp); have hr := ((new2 w _ _ _).alloc _).kept hk (by simp); have ho := (new3 w _ _ _ _).kept hk (by simp); have hk3 := ((((Kept.refl [] w).alloc _).alloc _).alloc _).step hk; obtain ⟨c0, c1, c2⟩ := box3 hb; obtain ⟨e0, e1, e2, e3, e4, e5, e6, e7, e8, e9, e10⟩ := box11 hr; obtain ⟨o0, o1, o2⟩ := box3 ho; obtain ⟨z0, z1, z2⟩ := froz ho; have hol := ho.lt; have hol1 : w.heap.size < w3.heap.size := (by omega); have hol2 : w.heap.size + 1 < w3.heap.size := (by omega); clear hk)
      | (go_at_call 46; refine (HA2 _).mono ?_; rintro e w8 ⟨rfl, hq⟩; have hq2 := hq.symm; subst hq2)
      | (go_at_call 44; refine (HS _ _).mono ?_; rintro e w8 ⟨rfl, hq⟩; have hq2 := hq.symm; subst hq2))
    all_goals first
      | (guard_target =~ bodyPost _ _ _ _ _ (World.alloc _ _); refine ret_struct_tmp (b := w.heap.size + 1 + 1) rfl rfl ((put3 ho _ _ _).alloc _) Try.underlying25 infoLed rfl ⟨?_, (Kept.setCell (Kept.setCell (Kept.setCell hk3 (Or.inr (by simp; omega)) _) (Or.inr (by simp; omega)) _) (Or.inr (by simp; omega)) _).alloc _⟩)
      | refine ret_struct_tmp (b := w.heap.size + 1 + 1) rfl rfl (put3 ho _ _ _) Try.underlying25 infoLed rfl ⟨?_, Kept.setCell (Kept.setCell (Kept.setCell hk3 (Or.inr (by simp; omega)) _) (Or.inr (by simp; omega)) _) (Or.inr (by simp; omega)) _⟩
    all_goals
      clear c0 c1 c2 e0 e1 e2 e3 e4 e5 e6 e7 e8 e9 e10 o0 o1 o2 z0 z1 z2 hb hr ho hk3
      refine ret_ldi2 ?_
      first
        | (refine stp_no ?_ (by decide); simp_all [rfs, plc, emb, pmb, oth, srv]; done)
        | (refine stp_no ?_ (by decide); simp_all [rfs, plc, emb, pmb, oth, srv]; omega)
        | (refine stp_yes ?_ ?_
           · first | (simp_all [rfs, plc, emb, pmb, oth, srv]; done) | (simp_all [rfs, plc, emb, pmb, oth, srv]; omega)
           · first | (simp_all [bhd]; done) | (simp_all [bhd, plc, vld]; done) | (simp_all [bhd, plc, vld]; omega))
  · have hv' : vld s ⟨ph, ep, pe⟩ = false := by simpa using hv
    clear hwr hv
    rw [hv'] at HV
    go_enter Try.func29, Try.ntmps29
    go_wp2_with (first
      | (go_at_call 55; refine (HR _).mono ?_; rintro e w8 ⟨rfl, hq⟩; have hq2 := hq.symm; subst hq2)
      | (go_at_call 33; refine (HV _).mono ?_; rintro e w3 ⟨rfl, hk⟩; have hb := (((Blk.new w _ _).alloc _).alloc _).kept hk (by simp); have hr := ((new2 w _ _ _).alloc _).kept hk (by simp); have ho := (new3 w _ _ _ _).kept hk (by simp); have hk3 := ((((Kept.refl [] w).alloc _).alloc _).alloc _).step hk; obtain ⟨c0, c1, c2⟩ := box3 hb; obtain ⟨e0, e1, e2, e3, e4, e5, e6, e7, e8, e9, e10⟩ := box11 hr; obtain ⟨o0, o1, o2⟩ := box3 ho; obtain ⟨z0, z1, z2⟩ := froz ho; have hol := ho.lt; have hol1 : w.heap.size < w3.heap.size := (by omega); have hol2 : w.heap.size + 1 < w3.heap.size := (by omega); clear hk)
      | (go_at_call 46; refine (HA2 _).mono ?_; rintro e w8 ⟨rfl, hq⟩; have hq2 := hq.symm; subst hq2)
      | (go_at_call 44; refine (HS _ _).mono ?_; rintro e w8 ⟨rfl, hq⟩; have hq2 := hq.symm; subst hq2))
    all_goals first
      | (guard_target =~ bodyPost _ _ _ _ _ (World.alloc _ _); refine ret_struct_tmp (b := w.heap.size + 1 + 1) rfl rfl ((put3 ho _ _ _).alloc _) Try.underlying25 infoLed rfl ⟨?_, (Kept.setCell (Kept.setCell (Kept.setCell hk3 (Or.inr (by simp; omega)) _) (Or.inr (by simp; omega)) _) (Or.inr (by simp; omega)) _).alloc _⟩)
      | refine ret_struct_tmp (b := w.heap.size + 1 + 1) rfl rfl (put3 ho _ _ _) Try.underlying25 infoLed rfl ⟨?_, Kept.setCell (Kept.setCell (Kept.setCell hk3 (Or.inr (by simp; omega)) _) (Or.inr (by simp; omega)) _) (Or.inr (by simp; omega)) _⟩
    all_goals
      clear c0 c1 c2 e0 e1 e2 e3 e4 e5 e6 e7 e8 e9 e10 o0 o1 o2 z0 z1 z2 hb hr ho hk3
      refine ret_ldi2 ?_
      first
        | (refine stp_no ?_ (by decide); simp_all [rfs, plc, emb, pmb, oth, srv]; done)
        | (refine stp_no ?_ (by decide); simp_all [rfs, plc, emb, pmb, oth, srv]; omega)
        | (refine stp_yes ?_ ?_
           · first | (simp_all [rfs, plc, emb, pmb, oth, srv]; done) | (simp_all [rfs, plc, emb, pmb, oth, srv]; omega)
           · first | (simp_all [bhd]; done) | (simp_all [bhd, plc, vld]; done) | (simp_all [bhd, plc, vld]; omega))
set_option maxRecDepth 100000 in
set_option maxHeartbeats 2000000 in
theorem rstep0 (w : World) (s : Int) (l : Ld) (r : Rc) (hkd : r.kind < 1 ∨ 8 < r.kind) : Calls Try.prog 29 #[.int .i64 s, lv l, rv r] w fun e w' => e = .returned (.tuple #[lv (stp s l r.kind r.epoch r.peer), .int .i64 (rfs s l r.kind r.epoch r.peer)]) ∧ Kept [] w w' := by
  have HR := fun W => rrule_any W r.kind
  have HV := fun W => rvalid_any W s l
  have HS := fun W n => rserver_any W n
  obtain ⟨kind, shard, epoch, peer, client, seq, okind, okey, oval, orev, copy⟩ := r
  obtain ⟨ph, ep, pe⟩ := l
  rw [show lv ⟨ph, ep, pe⟩ = .agg #[.int .i64 ph, .int .i64 ep, .int .i64 pe] from rfl] at *
  unfold rv
  dsimp only at *
  rw [show rls kind = [] from (by unfold rls; rw [if_neg (by omega), if_neg (by omega), if_neg (by omega), if_neg (by omega), if_neg (by omega)]), show rlt kind = -1 from (by unfold rlt; rw [if_neg (by omega), if_neg (by omega), if_neg (by omega), if_neg (by omega), if_neg (by omega), if_neg (by omega), if_neg (by omega)])] at HR
  have hkd' := hide hkd
  clear hkd
  · go_enter Try.func29, Try.ntmps29
    go_wp2_with (first
      | (go_at_call 55; refine (HR _).mono ?_; rintro e w8 ⟨rfl, hq⟩; have hq2 := hq.symm; subst hq2)
      | (go_at_call 33; refine (HV _).mono ?_; rintro e w3 ⟨rfl, hk⟩; have hb := (((Blk.new w _ _).alloc _).alloc _).kept hk (by simp); have hr := ((new2 w _ _ _).alloc _).kept hk (by simp); have ho := (new3 w _ _ _ _).kept hk (by simp); have hk3 := ((((Kept.refl [] w).alloc _).alloc _).alloc _).step hk; obtain ⟨c0, c1, c2⟩ := box3 hb; obtain ⟨e0, e1, e2, e3, e4, e5, e6, e7, e8, e9, e10⟩ := box11 hr; obtain ⟨o0, o1, o2⟩ := box3 ho; obtain ⟨z0, z1, z2⟩ := froz ho; have hol := ho.lt; have hol1 : w.heap.size < w3.heap.size := (by omega); have hol2 : w.heap.size + 1 < w3.heap.size := (by omega); clear hk)
      | (go_at_call 44; refine (HS _ _).mono ?_; rintro e w8 ⟨rfl, hq⟩; have hq2 := hq.symm; subst hq2))
    all_goals first
      | (guard_target =~ bodyPost _ _ _ _ _ (World.alloc _ _); refine ret_struct_tmp (b := w.heap.size + 1 + 1) rfl rfl ((put3 ho _ _ _).alloc _) Try.underlying25 infoLed rfl ⟨?_, (Kept.setCell (Kept.setCell (Kept.setCell hk3 (Or.inr (by simp; omega)) _) (Or.inr (by simp; omega)) _) (Or.inr (by simp; omega)) _).alloc _⟩)
      | refine ret_struct_tmp (b := w.heap.size + 1 + 1) rfl rfl (put3 ho _ _ _) Try.underlying25 infoLed rfl ⟨?_, Kept.setCell (Kept.setCell (Kept.setCell hk3 (Or.inr (by simp; omega)) _) (Or.inr (by simp; omega)) _) (Or.inr (by simp; omega)) _⟩
    all_goals
      clear c0 c1 c2 e0 e1 e2 e3 e4 e5 e6 e7 e8 e9 e10 o0 o1 o2 z0 z1 z2 hb hr ho hk3
      refine ret_ldi2 ?_
      have hq := unhide hkd'
      first
        | (refine stp_no ?_ (by decide); simp_all [rfs, plc, emb, pmb, oth, srv]; done)
        | (refine stp_no ?_ (by decide); simp_all [rfs, plc, emb, pmb, oth, srv]; omega)
        | (refine stp_yes ?_ ?_
           · first | (simp_all [rfs, plc, emb, pmb, oth, srv]; done) | (simp_all [rfs, plc, emb, pmb, oth, srv]; omega)
           · first | (simp_all [bhd]; done) | (simp_all [bhd, plc, vld]; done) | (simp_all [bhd, plc, vld]; omega))
theorem rstep_any (w : World) (s : Int) (l : Ld) (r : Rc) : Calls Try.prog 29 #[.int .i64 s, lv l, rv r] w fun e w' => e = .returned (.tuple #[lv (stp s l r.kind r.epoch r.peer), .int .i64 (rfs s l r.kind r.epoch r.peer)]) ∧ Kept [] w w' := by
  by_cases h : 1 ≤ r.kind ∧ r.kind ≤ 8
  · have hk : r.kind = 1 ∨ r.kind = 2 ∨ r.kind = 3 ∨ r.kind = 4 ∨ r.kind = 5 ∨ r.kind = 6 ∨ r.kind = 7 ∨ r.kind = 8 := by omega
    rcases hk with hk | hk | hk | hk | hk | hk | hk | hk
    · exact rstep1 w s l r hk
    · exact rstep2 w s l r hk
    · exact rstep3 w s l r hk
    · exact rstep4 w s l r hk
    · exact rstep5 w s l r hk
    · exact rstep6 w s l r hk
    · exact rstep7 w s l r hk
    · exact rstep8 w s l r hk
  · exact rstep0 w s l r (by omega)
end Go.Proofs.Ytnpabeodakncfaa
