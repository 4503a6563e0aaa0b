/- LedgerRows. -/
import Derived.Test.YtnpabeodakncfaaGRwA
import Derived.Test.YtnpabeodakncfaaGRSnd
import Derived.BigRegion
import Derived.Deep.DeepCutAuto
import Derived.Deep.RegionHeld3
namespace Go.Proofs.Ytnpabeodakncfaa
open Go.RowKit

/-- 'append' as one step of a region that draws, by its run -/
theorem step_append_runR {P : Program} {ops : Array Oper} {o : Oper} {a : Act} {w : World} {K : Act → World → Prop} {Q : Exit → Act → World → Prop} {E : Prop}
    (hg : o.guard = none) (d x : Operand) (dT sT : TypeId) (hop : o.op = Op.call { callee := Callee.builtin Builtin.append, args := #[d, x], argTypes := #[dT, sT] })
    (v u : Value) (hd : a.eval d = v) (hx : a.eval x = u) {v' : Value} {w' : World} (hr : (Builtin.append_ #[dT, sT] o.type #[v, u]).run P w = .ok v' w') (hK : K (a.put o.dst v') w') :
    if Region.wanted o (yielded ops a.tmps) = true then Oper.wp P o a w K Q else E := by
  have hw : Region.wanted o (yielded ops a.tmps) = true := by simp [Region.wanted, hg]
  rw [if_pos hw]
  unfold Oper.wp
  simp [execOp, hop, resolve, invoke, builtin, hd, hx, hr, Result.andThen]
  exact hK
theorem wpList_append_runR {P : Program} {ops : Array Oper} {rest : List Oper} {o : Oper} {a : Act} {w : World} {Q : Exit → Act → World → Prop}
    (hg : o.guard = none) (d x : Operand) (dT sT : TypeId) (hop : o.op = Op.call { callee := Callee.builtin Builtin.append, args := #[d, x], argTypes := #[dT, sT] })
    (v u : Value) (hd : a.eval d = v) (hx : a.eval x = u) {v' : Value} {w' : World} (hr : (Builtin.append_ #[dT, sT] o.type #[v, u]).run P w = .ok v' w') (h : wpList P ops Q rest (a.put o.dst v') w') :
    wpList P ops Q (o :: rest) a w := by
  refine wpList_step fun K hK => ?_
  exact step_append_runR hg d x dT sT hop v u hd hx hr (hK _ _ h)
/-- The mark in its box. -/
structure RS (w V : World) : Prop where
  kp : Kept [] w V
  sz : w.heap.size < V.heap.size
  bx : Blk V w.heap.size #[.int .i64 77, .int .i64 0, .int .i64 0] 25
theorem RS.step {w V V' : World} {F : List Nat} (h : RS w V) (k : Kept F V V') (hF : ∀ x ∈ F, w.heap.size < x) : RS w V' :=
  ⟨h.kp.trans k (fun x hx => Or.inr (Nat.le_of_lt (hF x hx))), Nat.lt_of_lt_of_le h.sz k.size, h.bx.kept k (fun hm => by have := hF _ hm; omega)⟩
theorem RS.alloc {w V : World} (h : RS w V) (o : Obj) : RS w (V.alloc o) := h.step ((Kept.refl [] V).alloc o) (fun x hx => by cases hx)
theorem RS.drew {w V : World} (h : RS w V) : RS w V.drew := ⟨h.kp.drew, h.sz, h.bx⟩
theorem RS.cells {w V : World} (h : RS w V) : V.cell? ⟨w.heap.size, 0, none⟩ = some (.int .i64 77) ∧ V.cell? ⟨w.heap.size, 1, none⟩ = some (.int .i64 0) ∧ V.cell? ⟨w.heap.size, 2, none⟩ = some (.int .i64 0) := ⟨h.bx.cell 0, h.bx.cell 1, h.bx.cell 2⟩
theorem own_cap {w : World} {g m cap n : Nat} {xs : List Value} (h : w.ownsRow 0 25 3 (.slice (some ⟨g, 0, none⟩) m cap) n xs) : (m : Int) ≤ (cap : Int) := by
  rcases h.2 with ⟨h1, _⟩ | ⟨g', cap', cur, hv, _, _, hc, _⟩
  · cases h1
  · cases hv; omega
set_option maxRecDepth 100000 in
set_option maxHeartbeats 4000000 in
theorem ledgerRows_any {w : World} {v : Value} {row : List Ld} (hv : RowOf 3 lc w v row) (hl : row.length ≤ 5864062014634) (hlo : ∀ l ∈ row, -9223372036854775808 ≤ l.ep) : Calls Try.prog 5 #[v] w fun e w' => e = .returned (.bool true) ∧ Kept [] w w' := by
  have HVR := hide hv
  have HLO := hide hlo
  obtain ⟨pa, pcap, rfl, hlen, -⟩ := hv
  obtain ⟨n, hn⟩ : ∃ n, row.length = n := ⟨_, rfl⟩
  simp only [hn] at hlen HVR hl ⊢
  have HL := hide hn
  clear hn hlo
  have hn0 : (0 : Int) ≤ (n : Int) := by omega
  have HS0 : Hid (RS w (w.alloc (.cells #[.int .i64 77, .int .i64 0, .int .i64 0] 25))) := ⟨(Kept.refl [] w).alloc _, by simp, Blk.new w _ _⟩
  go_enter Try.func5, Try.ntmps5
  go_wp2_with fail
  go_cut [4] (fun x wc => ∃ G cap, x = .slice (some ⟨G, 0, none⟩) n cap ∧ ((n + 1 : Nat) : Int) ≤ (cap : Int) ∧ Hid (RS w wc ∧ w.heap.size < G ∧ wc.ownsRow 0 25 3 (.slice (some ⟨G, 0, none⟩) (n + 1) cap) (row ++ [(⟨77, 0, 0⟩ : Ld)]).length ((row ++ [(⟨77, 0, 0⟩ : Ld)]).flatMap lc)))
  case first =>
    refine wp_region_any (by kernel_rfl) ?_
    (try (change wpAny _ _ _ _ _ _ _ (World.drew _)))
    refine wpAny_take (i := 1) (v := ?_) rfl (by kernel_rfl) (by kernel_rfl) (by kernel_rfl) (fun _ _ _ h => h) (Or.inl ⟨by rfl, ?_⟩) ?_
    rotate_left 1
    · intro w; (go_simp <;> with_reducible rfl)
    simp only [List.getElem_toArray, List.getElem_cons_succ, List.getElem_cons_zero, Act.put, List.setIfInBounds_toArray, List.set_cons_succ, List.set_cons_zero]
    refine wpAny_take (i := 6) (v := ?_) rfl (by kernel_rfl) (by kernel_rfl) (by kernel_rfl) (fun _ _ _ h => h) (Or.inl ⟨by rfl, ?_⟩) ?_
    rotate_left 1
    · intro w; (go_simp <;> with_reducible rfl)
    simp only [List.getElem_toArray, List.getElem_cons_succ, List.getElem_cons_zero, Act.put, List.setIfInBounds_toArray, List.set_cons_succ, List.set_cons_zero]
    refine wpAny_take (i := 7) (v := ?_) rfl (by kernel_rfl) (by kernel_rfl) (by kernel_rfl) (fun _ _ _ h => h) (Or.inl ⟨by rfl, ?_⟩) ?_
    rotate_left 1
    · intro w; (go_simp <;> with_reducible rfl)
    simp only [List.getElem_toArray, List.getElem_cons_succ, List.getElem_cons_zero, Act.put, List.setIfInBounds_toArray, List.set_cons_succ, List.set_cons_zero]
    refine world_at (R := fun X => RS w X) (unhide HS0).drew ?_
    clear HS0
    rintro V hS
    refine wpAny_ready (rs := [0, 3]) (by kernel_rfl) (by simp) ?_
    refine AllReady.cons rfl (fun K hK => ?_) (AllReady.cons rfl (fun K hK => ?_) AllReady.nil)
    · go_simp
      refine hK _ _ ?_; clear hK K
      refine world_at (R := fun X => RS w X ∧ Blk X V.heap.size #[] 25 ∧ w.heap.size < V.heap.size) ⟨hS.alloc _, Blk.new V _ _, hS.sz⟩ ?_
      clear hS
      generalize V.heap.size = g
      clear V
      rintro V ⟨hS, hE, hg⟩
      refine wpAny_ready (rs := [2, 3]) (by kernel_rfl) (by simp) ?_
      refine AllReady.cons rfl (fun K hK => ?_) (AllReady.cons rfl (fun K hK => ?_) AllReady.nil)
      · obtain ⟨a1, c1, V2, hr1, hO, hk1, hz0, -⟩ := app_in ((unhide HVR).kept hS.kp) (by rw [unhide HL]; exact hl) hE 40
        rw [unhide HL] at hr1 hO hz0
        refine step_append_runR rfl _ _ _ _ rfl _ _ rfl rfl hr1 ?_
        refine hK _ _ ?_; clear hK K hr1
        have hz : ∀ z, (Value.slice a1 n c1).ownBlock = some z → w.heap.size < z := fun z q => (by rcases hz0 z q with q | q; omega; have := hS.sz; omega)
        replace hS := hS.step hk1 (fun x hx => by simp at hx; omega)
        clear hk1 hz0 hE
        clear hg
        clear V
        rename World => V
        refine wpAny_ready (rs := [3]) (by kernel_rfl) (by simp) ?_
        refine AllReady.cons rfl (fun K hK => ?_) AllReady.nil
        · obtain ⟨m0, m1, m2⟩ := hS.cells
          go_simp
          refine hK _ _ ?_; clear hK K m0 m1 m2
          refine wpAny_ready (rs := [4]) (by kernel_rfl) (by simp) ?_
          refine AllReady.cons rfl (fun K hK => ?_) AllReady.nil
          · go_simp
            refine hK _ _ ?_; clear hK K
            refine world_at (R := fun X => RS w X ∧ Blk X V.heap.size #[.int .i64 77, .int .i64 0, .int .i64 0] 25 ∧ w.heap.size < V.heap.size ∧ X.ownsRow 0 25 3 (.slice a1 n c1) n (row.flatMap lc) ∧ (∀ z, (Value.slice a1 n c1).ownBlock = some z → w.heap.size < z) ∧ (∀ z, (Value.slice a1 n c1).ownBlock = some z → z ≠ V.heap.size)) ⟨hS.alloc _, Blk.new V _ _, hS.sz, own_kept hO ((Kept.refl [] V).alloc _) (by simp), hz, fun z hz1 e => by have := (hO.lt z hz1).2; omega⟩ ?_
            clear hS hO hz
            generalize V.heap.size = h
            clear V
            rintro V ⟨hS, hM, hgh, hO, hz, hzh⟩
            obtain ⟨G, cap, V3, hr2, hO2, hk2, hG⟩ := app_mark (l := ⟨77, 0, 0⟩) (by rw [unhide HL]; exact hO) (by rw [unhide HL]; exact hl) hM 40
            rw [unhide HL] at hr2 hO2
            refine wpAny_ready (rs := [5]) (by kernel_rfl) (by simp) ?_
            refine AllReady.cons rfl (fun K hK => ?_) AllReady.nil
            refine step_append_runR rfl _ _ _ _ rfl _ _ rfl rfl hr2 ?_
            refine hK _ _ ?_; clear hK K hr2
            have hcap := own_cap hO2
            have hcapN : n ≤ cap := by omega
            have hGz : w.heap.size < G := by rcases hG with q | q; exact hz G q.symm; rw [q]; exact hS.sz
            replace hS := hS.step hk2 (fun x hx => hz x (by simpa using hx))
            refine wpAny_take (i := 8) (v := ?_) rfl (by kernel_rfl) (by kernel_rfl) (by kernel_rfl) (fun _ _ _ h => h) (Or.inl ⟨by rfl, ?_⟩) ?_
            rotate_left 1
            · intro w; (go_simp <;> with_reducible rfl)
            simp only [List.getElem_toArray, List.getElem_cons_succ, List.getElem_cons_zero, Act.put, List.setIfInBounds_toArray, List.set_cons_succ, List.set_cons_zero]
            refine wpAny_take (i := 9) (v := ?_) rfl (by kernel_rfl) (by kernel_rfl) (by kernel_rfl) (fun _ _ _ h => h) (Or.inl ⟨by rfl, ?_⟩) ?_
            rotate_left 1
            · intro w; (go_simp <;> with_reducible rfl)
            simp only [List.getElem_toArray, List.getElem_cons_succ, List.getElem_cons_zero, Act.put, List.setIfInBounds_toArray, List.set_cons_succ, List.set_cons_zero]
            refine wpAny_done (by kernel_rfl) ?_ _
            go_wp2_with fail
            go_meet
            exact ⟨G, cap, rfl, hcap, hide ⟨hS, hGz, hO2⟩⟩
      · obtain ⟨m0, m1, m2⟩ := hS.cells
        go_simp
        refine hK _ _ ?_; clear hK K m0 m1 m2
        refine wpAny_ready (rs := [2, 4]) (by kernel_rfl) (by simp) ?_
        refine AllReady.cons rfl (fun K hK => ?_) (AllReady.cons rfl (fun K hK => ?_) AllReady.nil)
        · obtain ⟨a1, c1, V2, hr1, hO, hk1, hz0, -⟩ := app_in ((unhide HVR).kept hS.kp) (by rw [unhide HL]; exact hl) hE 40
          rw [unhide HL] at hr1 hO hz0
          refine step_append_runR rfl _ _ _ _ rfl _ _ rfl rfl hr1 ?_
          refine hK _ _ ?_; clear hK K hr1
          have hz : ∀ z, (Value.slice a1 n c1).ownBlock = some z → w.heap.size < z := fun z q => (by rcases hz0 z q with q | q; omega; have := hS.sz; omega)
          replace hS := hS.step hk1 (fun x hx => by simp at hx; omega)
          clear hk1 hz0 hE
          clear hg
          clear V
          rename World => V
          refine wpAny_ready (rs := [4]) (by kernel_rfl) (by simp) ?_
          refine AllReady.cons rfl (fun K hK => ?_) AllReady.nil
          · go_simp
            refine hK _ _ ?_; clear hK K
            refine world_at (R := fun X => RS w X ∧ Blk X V.heap.size #[.int .i64 77, .int .i64 0, .int .i64 0] 25 ∧ w.heap.size < V.heap.size ∧ X.ownsRow 0 25 3 (.slice a1 n c1) n (row.flatMap lc) ∧ (∀ z, (Value.slice a1 n c1).ownBlock = some z → w.heap.size < z) ∧ (∀ z, (Value.slice a1 n c1).ownBlock = some z → z ≠ V.heap.size)) ⟨hS.alloc _, Blk.new V _ _, hS.sz, own_kept hO ((Kept.refl [] V).alloc _) (by simp), hz, fun z hz1 e => by have := (hO.lt z hz1).2; omega⟩ ?_
            clear hS hO hz
            generalize V.heap.size = h
            clear V
            rintro V ⟨hS, hM, hgh, hO, hz, hzh⟩
            obtain ⟨G, cap, V3, hr2, hO2, hk2, hG⟩ := app_mark (l := ⟨77, 0, 0⟩) (by rw [unhide HL]; exact hO) (by rw [unhide HL]; exact hl) hM 40
            rw [unhide HL] at hr2 hO2
            refine wpAny_ready (rs := [5]) (by kernel_rfl) (by simp) ?_
            refine AllReady.cons rfl (fun K hK => ?_) AllReady.nil
            refine step_append_runR rfl _ _ _ _ rfl _ _ rfl rfl hr2 ?_
            refine hK _ _ ?_; clear hK K hr2
            have hcap := own_cap hO2
            have hcapN : n ≤ cap := by omega
            have hGz : w.heap.size < G := by rcases hG with q | q; exact hz G q.symm; rw [q]; exact hS.sz
            replace hS := hS.step hk2 (fun x hx => hz x (by simpa using hx))
            refine wpAny_take (i := 8) (v := ?_) rfl (by kernel_rfl) (by kernel_rfl) (by kernel_rfl) (fun _ _ _ h => h) (Or.inl ⟨by rfl, ?_⟩) ?_
            rotate_left 1
            · intro w; (go_simp <;> with_reducible rfl)
            simp only [List.getElem_toArray, List.getElem_cons_succ, List.getElem_cons_zero, Act.put, List.setIfInBounds_toArray, List.set_cons_succ, List.set_cons_zero]
            refine wpAny_take (i := 9) (v := ?_) rfl (by kernel_rfl) (by kernel_rfl) (by kernel_rfl) (fun _ _ _ h => h) (Or.inl ⟨by rfl, ?_⟩) ?_
            rotate_left 1
            · intro w; (go_simp <;> with_reducible rfl)
            simp only [List.getElem_toArray, List.getElem_cons_succ, List.getElem_cons_zero, Act.put, List.setIfInBounds_toArray, List.set_cons_succ, List.set_cons_zero]
            refine wpAny_done (by kernel_rfl) ?_ _
            go_wp2_with fail
            go_meet
            exact ⟨G, cap, rfl, hcap, hide ⟨hS, hGz, hO2⟩⟩
        · go_simp
          refine hK _ _ ?_; clear hK K
          refine world_at (R := fun X => RS w X ∧ Blk X V.heap.size #[.int .i64 77, .int .i64 0, .int .i64 0] 25 ∧ w.heap.size < V.heap.size ∧ Blk X g #[] 25 ∧ w.heap.size < g ∧ g ≠ V.heap.size) ⟨hS.alloc _, Blk.new V _ _, hS.sz, hE.alloc _, hg, fun e => by have := hE.lt; omega⟩ ?_
          clear hS hE hg
          generalize V.heap.size = h
          clear V
          rintro V ⟨hS, hM, hgh, hE, hg, hne⟩
          refine wpAny_ready (rs := [2]) (by kernel_rfl) (by simp) ?_
          refine AllReady.cons rfl (fun K hK => ?_) AllReady.nil
          · obtain ⟨a1, c1, V2, hr1, hO, hk1, hz0, -⟩ := app_in ((unhide HVR).kept hS.kp) (by rw [unhide HL]; exact hl) hE 40
            rw [unhide HL] at hr1 hO hz0
            refine step_append_runR rfl _ _ _ _ rfl _ _ rfl rfl hr1 ?_
            refine hK _ _ ?_; clear hK K hr1
            have hz : ∀ z, (Value.slice a1 n c1).ownBlock = some z → w.heap.size < z := fun z q => (by rcases hz0 z q with q | q; omega; have := hS.sz; omega)
            have hzh : ∀ z, (Value.slice a1 n c1).ownBlock = some z → z ≠ h := fun z q => (by have := hM.lt; rcases hz0 z q with q | q; omega; omega)
            replace hM := hM.kept hk1 (by simp; omega)
            replace hS := hS.step hk1 (fun x hx => by simp at hx; omega)
            clear hk1 hz0 hE
            clear hg hne
            clear V
            rename World => V
            obtain ⟨G, cap, V3, hr2, hO2, hk2, hG⟩ := app_mark (l := ⟨77, 0, 0⟩) (by rw [unhide HL]; exact hO) (by rw [unhide HL]; exact hl) hM 40
            rw [unhide HL] at hr2 hO2
            refine wpAny_ready (rs := [5]) (by kernel_rfl) (by simp) ?_
            refine AllReady.cons rfl (fun K hK => ?_) AllReady.nil
            refine step_append_runR rfl _ _ _ _ rfl _ _ rfl rfl hr2 ?_
            refine hK _ _ ?_; clear hK K hr2
            have hcap := own_cap hO2
            have hcapN : n ≤ cap := by omega
            have hGz : w.heap.size < G := by rcases hG with q | q; exact hz G q.symm; rw [q]; exact hS.sz
            replace hS := hS.step hk2 (fun x hx => hz x (by simpa using hx))
            refine wpAny_take (i := 8) (v := ?_) rfl (by kernel_rfl) (by kernel_rfl) (by kernel_rfl) (fun _ _ _ h => h) (Or.inl ⟨by rfl, ?_⟩) ?_
            rotate_left 1
            · intro w; (go_simp <;> with_reducible rfl)
            simp only [List.getElem_toArray, List.getElem_cons_succ, List.getElem_cons_zero, Act.put, List.setIfInBounds_toArray, List.set_cons_succ, List.set_cons_zero]
            refine wpAny_take (i := 9) (v := ?_) rfl (by kernel_rfl) (by kernel_rfl) (by kernel_rfl) (fun _ _ _ h => h) (Or.inl ⟨by rfl, ?_⟩) ?_
            rotate_left 1
            · intro w; (go_simp <;> with_reducible rfl)
            simp only [List.getElem_toArray, List.getElem_cons_succ, List.getElem_cons_zero, Act.put, List.setIfInBounds_toArray, List.set_cons_succ, List.set_cons_zero]
            refine wpAny_done (by kernel_rfl) ?_ _
            go_wp2_with fail
            go_meet
            exact ⟨G, cap, rfl, hcap, hide ⟨hS, hGz, hO2⟩⟩
    · obtain ⟨m0, m1, m2⟩ := hS.cells
      go_simp
      refine hK _ _ ?_; clear hK K m0 m1 m2
      refine wpAny_ready (rs := [0, 4]) (by kernel_rfl) (by simp) ?_
      refine AllReady.cons rfl (fun K hK => ?_) (AllReady.cons rfl (fun K hK => ?_) AllReady.nil)
      · go_simp
        refine hK _ _ ?_; clear hK K
        refine world_at (R := fun X => RS w X ∧ Blk X V.heap.size #[] 25 ∧ w.heap.size < V.heap.size) ⟨hS.alloc _, Blk.new V _ _, hS.sz⟩ ?_
        clear hS
        generalize V.heap.size = g
        clear V
        rintro V ⟨hS, hE, hg⟩
        refine wpAny_ready (rs := [2, 4]) (by kernel_rfl) (by simp) ?_
        refine AllReady.cons rfl (fun K hK => ?_) (AllReady.cons rfl (fun K hK => ?_) AllReady.nil)
        · obtain ⟨a1, c1, V2, hr1, hO, hk1, hz0, -⟩ := app_in ((unhide HVR).kept hS.kp) (by rw [unhide HL]; exact hl) hE 40
          rw [unhide HL] at hr1 hO hz0
          refine step_append_runR rfl _ _ _ _ rfl _ _ rfl rfl hr1 ?_
          refine hK _ _ ?_; clear hK K hr1
          have hz : ∀ z, (Value.slice a1 n c1).ownBlock = some z → w.heap.size < z := fun z q => (by rcases hz0 z q with q | q; omega; have := hS.sz; omega)
          replace hS := hS.step hk1 (fun x hx => by simp at hx; omega)
          clear hk1 hz0 hE
          clear hg
          clear V
          rename World => V
          refine wpAny_ready (rs := [4]) (by kernel_rfl) (by simp) ?_
          refine AllReady.cons rfl (fun K hK => ?_) AllReady.nil
          · go_simp
            refine hK _ _ ?_; clear hK K
            refine world_at (R := fun X => RS w X ∧ Blk X V.heap.size #[.int .i64 77, .int .i64 0, .int .i64 0] 25 ∧ w.heap.size < V.heap.size ∧ X.ownsRow 0 25 3 (.slice a1 n c1) n (row.flatMap lc) ∧ (∀ z, (Value.slice a1 n c1).ownBlock = some z → w.heap.size < z) ∧ (∀ z, (Value.slice a1 n c1).ownBlock = some z → z ≠ V.heap.size)) ⟨hS.alloc _, Blk.new V _ _, hS.sz, own_kept hO ((Kept.refl [] V).alloc _) (by simp), hz, fun z hz1 e => by have := (hO.lt z hz1).2; omega⟩ ?_
            clear hS hO hz
            generalize V.heap.size = h
            clear V
            rintro V ⟨hS, hM, hgh, hO, hz, hzh⟩
            obtain ⟨G, cap, V3, hr2, hO2, hk2, hG⟩ := app_mark (l := ⟨77, 0, 0⟩) (by rw [unhide HL]; exact hO) (by rw [unhide HL]; exact hl) hM 40
            rw [unhide HL] at hr2 hO2
            refine wpAny_ready (rs := [5]) (by kernel_rfl) (by simp) ?_
            refine AllReady.cons rfl (fun K hK => ?_) AllReady.nil
            refine step_append_runR rfl _ _ _ _ rfl _ _ rfl rfl hr2 ?_
            refine hK _ _ ?_; clear hK K hr2
            have hcap := own_cap hO2
            have hcapN : n ≤ cap := by omega
            have hGz : w.heap.size < G := by rcases hG with q | q; exact hz G q.symm; rw [q]; exact hS.sz
            replace hS := hS.step hk2 (fun x hx => hz x (by simpa using hx))
            refine wpAny_take (i := 8) (v := ?_) rfl (by kernel_rfl) (by kernel_rfl) (by kernel_rfl) (fun _ _ _ h => h) (Or.inl ⟨by rfl, ?_⟩) ?_
            rotate_left 1
            · intro w; (go_simp <;> with_reducible rfl)
            simp only [List.getElem_toArray, List.getElem_cons_succ, List.getElem_cons_zero, Act.put, List.setIfInBounds_toArray, List.set_cons_succ, List.set_cons_zero]
            refine wpAny_take (i := 9) (v := ?_) rfl (by kernel_rfl) (by kernel_rfl) (by kernel_rfl) (fun _ _ _ h => h) (Or.inl ⟨by rfl, ?_⟩) ?_
            rotate_left 1
            · intro w; (go_simp <;> with_reducible rfl)
            simp only [List.getElem_toArray, List.getElem_cons_succ, List.getElem_cons_zero, Act.put, List.setIfInBounds_toArray, List.set_cons_succ, List.set_cons_zero]
            refine wpAny_done (by kernel_rfl) ?_ _
            go_wp2_with fail
            go_meet
            exact ⟨G, cap, rfl, hcap, hide ⟨hS, hGz, hO2⟩⟩
        · go_simp
          refine hK _ _ ?_; clear hK K
          refine world_at (R := fun X => RS w X ∧ Blk X V.heap.size #[.int .i64 77, .int .i64 0, .int .i64 0] 25 ∧ w.heap.size < V.heap.size ∧ Blk X g #[] 25 ∧ w.heap.size < g ∧ g ≠ V.heap.size) ⟨hS.alloc _, Blk.new V _ _, hS.sz, hE.alloc _, hg, fun e => by have := hE.lt; omega⟩ ?_
          clear hS hE hg
          generalize V.heap.size = h
          clear V
          rintro V ⟨hS, hM, hgh, hE, hg, hne⟩
          refine wpAny_ready (rs := [2]) (by kernel_rfl) (by simp) ?_
          refine AllReady.cons rfl (fun K hK => ?_) AllReady.nil
          · obtain ⟨a1, c1, V2, hr1, hO, hk1, hz0, -⟩ := app_in ((unhide HVR).kept hS.kp) (by rw [unhide HL]; exact hl) hE 40
            rw [unhide HL] at hr1 hO hz0
            refine step_append_runR rfl _ _ _ _ rfl _ _ rfl rfl hr1 ?_
            refine hK _ _ ?_; clear hK K hr1
            have hz : ∀ z, (Value.slice a1 n c1).ownBlock = some z → w.heap.size < z := fun z q => (by rcases hz0 z q with q | q; omega; have := hS.sz; omega)
            have hzh : ∀ z, (Value.slice a1 n c1).ownBlock = some z → z ≠ h := fun z q => (by have := hM.lt; rcases hz0 z q with q | q; omega; omega)
            replace hM := hM.kept hk1 (by simp; omega)
            replace hS := hS.step hk1 (fun x hx => by simp at hx; omega)
            clear hk1 hz0 hE
            clear hg hne
            clear V
            rename World => V
            obtain ⟨G, cap, V3, hr2, hO2, hk2, hG⟩ := app_mark (l := ⟨77, 0, 0⟩) (by rw [unhide HL]; exact hO) (by rw [unhide HL]; exact hl) hM 40
            rw [unhide HL] at hr2 hO2
            refine wpAny_ready (rs := [5]) (by kernel_rfl) (by simp) ?_
            refine AllReady.cons rfl (fun K hK => ?_) AllReady.nil
            refine step_append_runR rfl _ _ _ _ rfl _ _ rfl rfl hr2 ?_
            refine hK _ _ ?_; clear hK K hr2
            have hcap := own_cap hO2
            have hcapN : n ≤ cap := by omega
            have hGz : w.heap.size < G := by rcases hG with q | q; exact hz G q.symm; rw [q]; exact hS.sz
            replace hS := hS.step hk2 (fun x hx => hz x (by simpa using hx))
            refine wpAny_take (i := 8) (v := ?_) rfl (by kernel_rfl) (by kernel_rfl) (by kernel_rfl) (fun _ _ _ h => h) (Or.inl ⟨by rfl, ?_⟩) ?_
            rotate_left 1
            · intro w; (go_simp <;> with_reducible rfl)
            simp only [List.getElem_toArray, List.getElem_cons_succ, List.getElem_cons_zero, Act.put, List.setIfInBounds_toArray, List.set_cons_succ, List.set_cons_zero]
            refine wpAny_take (i := 9) (v := ?_) rfl (by kernel_rfl) (by kernel_rfl) (by kernel_rfl) (fun _ _ _ h => h) (Or.inl ⟨by rfl, ?_⟩) ?_
            rotate_left 1
            · intro w; (go_simp <;> with_reducible rfl)
            simp only [List.getElem_toArray, List.getElem_cons_succ, List.getElem_cons_zero, Act.put, List.setIfInBounds_toArray, List.set_cons_succ, List.set_cons_zero]
            refine wpAny_done (by kernel_rfl) ?_ _
            go_wp2_with fail
            go_meet
            exact ⟨G, cap, rfl, hcap, hide ⟨hS, hGz, hO2⟩⟩
      · go_simp
        refine hK _ _ ?_; clear hK K
        refine world_at (R := fun X => RS w X ∧ Blk X V.heap.size #[.int .i64 77, .int .i64 0, .int .i64 0] 25 ∧ w.heap.size < V.heap.size) ⟨hS.alloc _, Blk.new V _ _, hS.sz⟩ ?_
        clear hS
        generalize V.heap.size = h
        clear V
        rintro V ⟨hS, hM, hgh⟩
        refine wpAny_ready (rs := [0]) (by kernel_rfl) (by simp) ?_
        refine AllReady.cons rfl (fun K hK => ?_) AllReady.nil
        · go_simp
          refine hK _ _ ?_; clear hK K
          refine world_at (R := fun X => RS w X ∧ Blk X V.heap.size #[] 25 ∧ w.heap.size < V.heap.size ∧ Blk X h #[.int .i64 77, .int .i64 0, .int .i64 0] 25 ∧ w.heap.size < h ∧ V.heap.size ≠ h) ⟨hS.alloc _, Blk.new V _ _, hS.sz, hM.alloc _, hgh, fun e => by have := hM.lt; omega⟩ ?_
          clear hS hM hgh
          generalize V.heap.size = g
          clear V
          rintro V ⟨hS, hE, hg, hM, hgh, hne⟩
          refine wpAny_ready (rs := [2]) (by kernel_rfl) (by simp) ?_
          refine AllReady.cons rfl (fun K hK => ?_) AllReady.nil
          · obtain ⟨a1, c1, V2, hr1, hO, hk1, hz0, -⟩ := app_in ((unhide HVR).kept hS.kp) (by rw [unhide HL]; exact hl) hE 40
            rw [unhide HL] at hr1 hO hz0
            refine step_append_runR rfl _ _ _ _ rfl _ _ rfl rfl hr1 ?_
            refine hK _ _ ?_; clear hK K hr1
            have hz : ∀ z, (Value.slice a1 n c1).ownBlock = some z → w.heap.size < z := fun z q => (by rcases hz0 z q with q | q; omega; have := hS.sz; omega)
            have hzh : ∀ z, (Value.slice a1 n c1).ownBlock = some z → z ≠ h := fun z q => (by have := hM.lt; rcases hz0 z q with q | q; omega; omega)
            replace hM := hM.kept hk1 (by simp; omega)
            replace hS := hS.step hk1 (fun x hx => by simp at hx; omega)
            clear hk1 hz0 hE
            clear hg hne
            clear V
            rename World => V
            obtain ⟨G, cap, V3, hr2, hO2, hk2, hG⟩ := app_mark (l := ⟨77, 0, 0⟩) (by rw [unhide HL]; exact hO) (by rw [unhide HL]; exact hl) hM 40
            rw [unhide HL] at hr2 hO2
            refine wpAny_ready (rs := [5]) (by kernel_rfl) (by simp) ?_
            refine AllReady.cons rfl (fun K hK => ?_) AllReady.nil
            refine step_append_runR rfl _ _ _ _ rfl _ _ rfl rfl hr2 ?_
            refine hK _ _ ?_; clear hK K hr2
            have hcap := own_cap hO2
            have hcapN : n ≤ cap := by omega
            have hGz : w.heap.size < G := by rcases hG with q | q; exact hz G q.symm; rw [q]; exact hS.sz
            replace hS := hS.step hk2 (fun x hx => hz x (by simpa using hx))
            refine wpAny_take (i := 8) (v := ?_) rfl (by kernel_rfl) (by kernel_rfl) (by kernel_rfl) (fun _ _ _ h => h) (Or.inl ⟨by rfl, ?_⟩) ?_
            rotate_left 1
            · intro w; (go_simp <;> with_reducible rfl)
            simp only [List.getElem_toArray, List.getElem_cons_succ, List.getElem_cons_zero, Act.put, List.setIfInBounds_toArray, List.set_cons_succ, List.set_cons_zero]
            refine wpAny_take (i := 9) (v := ?_) rfl (by kernel_rfl) (by kernel_rfl) (by kernel_rfl) (fun _ _ _ h => h) (Or.inl ⟨by rfl, ?_⟩) ?_
            rotate_left 1
            · intro w; (go_simp <;> with_reducible rfl)
            simp only [List.getElem_toArray, List.getElem_cons_succ, List.getElem_cons_zero, Act.put, List.setIfInBounds_toArray, List.set_cons_succ, List.set_cons_zero]
            refine wpAny_done (by kernel_rfl) ?_ _
            go_wp2_with fail
            go_meet
            exact ⟨G, cap, rfl, hcap, hide ⟨hS, hGz, hO2⟩⟩
  case rest =>
    obtain ⟨G, cap, rfl, hcap, HC⟩ := hcut
    clear HS0
    obtain ⟨b, hb⟩ : ∃ b : Bool, b = true ↔ sndP row := by classical exact ⟨decide (sndP row), by simp⟩
    have HLOW : ∀ i, i < row.length → -9223372036854775808 ≤ (rg row i).ep := fun i hi => unhide HLO _ (mem_rg hi)
    have HI : Hid (RowOf 3 lc wc (.slice (some ⟨G, 0, none⟩) n cap) row) := by
      have := own_head (l := row) (by rw [unhide HL]; exact (unhide HC).2.2) (by rw [unhide HL]; omega)
      rw [unhide HL] at this
      exact this
    have HJ : Hid (RowOf 3 lc wc (.slice pa n pcap) row) := (unhide HVR).kept (unhide HC).1.kp
    obtain ⟨H, hH⟩ : ∃ H, hldr row = H := ⟨_, rfl⟩
    have C1 : ∀ W, Kept [] wc W → Hid (Calls Try.prog 14 #[.slice (some ⟨G, 0, none⟩) n cap] W fun e w' => e = .returned (.int .i64 H) ∧ Kept [] W w') := fun W k => by rw [← hH]; exact hide (holder_any ((unhide HI).kept k))
    have C2 : ∀ W, Kept [] wc W → Hid (Calls Try.prog 15 #[.slice pa n pcap] W fun e w' => e = .returned (.int .i64 H) ∧ Kept [] W w') := fun W k => by rw [← hH]; exact hide (rholder_is ((unhide HJ).kept k) HLOW)
    have C3 : ∀ W, Kept [] wc W → Hid (Calls Try.prog 16 #[.slice (some ⟨G, 0, none⟩) n cap] W fun e w' => e = .returned (.bool b) ∧ Kept [] W w') := fun W k => hide (sound_any ((unhide HI).kept k) b hb)
    have C4 : ∀ W, Kept [] wc W → Hid (Calls Try.prog 17 #[.slice pa n pcap] W fun e w' => e = .returned (.bool b) ∧ Kept [] W w') := fun W k => hide (rsound_any ((unhide HJ).kept k) HLOW b hb)
    clear hb hH HLOW
    have HK := hide (Kept.refl [] wc)
    have hbb : (b != b) = false := by simp
    go_wp2_with (first
      | (go_at_call 14; refine (unhide (C1 _ (unhide HK))).mono ?_; rintro e w2 ⟨rfl, hk2⟩; replace HK := hide ((unhide HK).step hk2); clear hk2 C1)
      | (go_at_call 15; refine (unhide (C2 _ (unhide HK))).mono ?_; rintro e w3 ⟨rfl, hk2⟩; replace HK := hide ((unhide HK).step hk2); clear hk2 C2)
      | (go_at_call 16; refine (unhide (C3 _ (unhide HK))).mono ?_; rintro e w4 ⟨rfl, hk2⟩; replace HK := hide ((unhide HK).step hk2); clear hk2 C3)
      | (go_at_call 17; refine (unhide (C4 _ (unhide HK))).mono ?_; rintro e w5 ⟨rfl, hk2⟩; replace HK := hide ((unhide HK).step hk2); clear hk2 C4))
    clear hbb
    go_loopw [5] (fun i wr => ∃ k : Nat, k ≤ n ∧ i = .int .i64 (k : Int) ∧ Kept [] wc wr) (fun i _ => n - (intOf i).toNat)
    case atStart => exact ⟨0, by omega, rfl, unhide HK⟩
    case round =>
      obtain ⟨k, hk, rfl, hkp⟩ := hrel
      by_cases hlt : k < n
      · have hkn : k < row.length := by rw [unhide HL]; exact hlt
        obtain ⟨ob, off, hpa, hbl, hrg⟩ := row_at ((unhide HJ).kept hkp) rfl hkn
        subst hpa
        obtain ⟨ob2, off2, hpa2, -, hrg2⟩ := row_at ((unhide HI).kept hkp) rfl hkn
        cases hpa2
        generalize row.getD k ⟨0, 0, 0⟩ = l at *
        obtain ⟨la, lb, lc'⟩ := l
        obtain ⟨d0, d1, d2⟩ := row_cells hrg
        obtain ⟨e0, e1, e2⟩ := row_cells hrg2
        rw [Nat.zero_add] at e0 e1 e2
        dsimp only at *
        have HKP := hide hkp
        clear hrg hrg2 hkp hkn
        go_wp2_with fail
        go_region
        all_goals
          go_wp2
          refine ⟨⟨k + 1, by omega, by simp, (unhide HKP).drew⟩, by simp [intOf]; omega⟩
      · obtain rfl : k = n := by omega
        have HR1 : Hid (RS w wr ∧ w.heap.size < G ∧ wr.ownsRow 0 25 3 (.slice (some ⟨G, 0, none⟩) (trnd row ⟨77, 0, 0⟩ 0).length cap) (trnd row ⟨77, 0, 0⟩ 0).length ((trnd row ⟨77, 0, 0⟩ 0).flatMap lc)) := by
          obtain ⟨q1, q2, q3⟩ := unhide HC
          refine ⟨q1.step hkp (fun x hx => by cases hx), q2, ?_⟩
          rw [trnd_zero]
          have hq : (row ++ [(⟨77, 0, 0⟩ : Ld)]).length = k + 1 := by simp; exact unhide HL
          rw [hq] at q3 ⊢
          exact own_kept q3 hkp (by simp)
        clear hkp HC HI HJ HK
        go_wp2_with fail
        go_loopw [6] (fun i wr => ∃ j : Nat, j ≤ k ∧ i = .int .i64 (j : Int) ∧ RS w wr ∧ wr.ownsRow 0 25 3 (.slice (some ⟨G, 0, none⟩) (trnd row ⟨77, 0, 0⟩ j).length cap) (trnd row ⟨77, 0, 0⟩ j).length ((trnd row ⟨77, 0, 0⟩ j).flatMap lc)) (fun i _ => k - (intOf i).toNat)
        case atStart => exact ⟨0, by omega, rfl, (unhide HR1).1, (unhide HR1).2.2⟩
        case round =>
          obtain ⟨j, hj, rfl, hS, hO⟩ := hrel
          by_cases hlt2 : j < k
          · have hG := (unhide HR1).2.1
            obtain ⟨m, hm⟩ : ∃ m : Nat, m = row.length - 1 - j := ⟨_, rfl⟩
            have hmr : m < row.length := by rw [unhide HL] at hm ⊢; omega
            have hmk : m + 1 + j = k := by rw [unhide HL] at hm; omega
            have hm1 : (m : Int) < (k : Int) := by omega
            have hmi : (k : Int) - 1 - (j : Int) = (m : Int) := by omega
            have hw1 : IntKind.i64.wrap ((k : Int) - 1) = (k : Int) - 1 := by rw [IntKind.wrap_i64]; omega
            have hw2 : IntKind.i64.wrap (m : Int) = (m : Int) := by rw [IntKind.wrap_i64]; omega
            obtain ⟨ob, off, hpa, hbl, hrg⟩ := row_at ((unhide HVR).kept hS.kp) rfl hmr
            subst hpa
            have hjl : j < (trnd row ⟨77, 0, 0⟩ j).length := by rw [trnd_len _ _ (by rw [unhide HL]; omega), unhide HL]; omega
            obtain ⟨g', cap', hv', -, hgl, hrg2⟩ := own_at (ce := lc) (kz := 3) (fun _ => rfl) hO (k := j) (List.getElem?_eq_getElem hjl)
            cases hv'
            have HSET := hide (own_set3 hO hjl (row.getD m ⟨0, 0, 0⟩))
            have HTS : Hid ((trnd row ⟨77, 0, 0⟩ j).set j (row.getD m ⟨0, 0, 0⟩) = trnd row ⟨77, 0, 0⟩ (j + 1)) := by rw [hm]; exact trnd_set row _ (by rw [unhide HL]; exact hlt2)
            generalize (trnd row ⟨77, 0, 0⟩ j)[j] = y at *
            generalize row.getD m ⟨0, 0, 0⟩ = l at *
            obtain ⟨la, lb, lc'⟩ := l
            obtain ⟨ya, yb, yc⟩ := y
            obtain ⟨d0, d1, d2⟩ := row_cells hrg
            obtain ⟨e0, e1, e2⟩ := row_cells hrg2
            have f0 := own_frozen hO (j * 3)
            have f1 := own_frozen hO (j * 3 + 1)
            have f2 := own_frozen hO (j * 3 + 2)
            have HS := hide hS
            dsimp only at *
            have HMM := hide hmk
            clear hrg hrg2 hO hm hmr hjl hS hmk
            go_wp2_with fail
            refine ⟨⟨j + 1, by omega, by simp, (unhide HS).step (F := [G]) (((((Kept.refl [G] wr).setCell (Or.inl (by simp)) _).setCell (Or.inl (by simp)) _).setCell (Or.inl (by simp)) _)) (fun x hx => by simp at hx; omega), ?_⟩, by simp [intOf]; omega⟩
            have := unhide HSET
            rw [unhide HTS] at this
            exact this
          · obtain rfl : j = k := by omega
            rw [show trnd row ⟨77, 0, 0⟩ j = row.reverse ++ [⟨77, 0, 0⟩] by rw [← unhide HL]; exact trnd_all row _] at hO
            have hlr : row.reverse.length = j := by rw [List.length_reverse]; exact unhide HL
            have hlr1 : (row.reverse ++ [(⟨77, 0, 0⟩ : Ld)]).length = j + 1 := by simp; exact unhide HL
            rw [hlr1] at hO
            have hI := own_head (l := row.reverse) (x := ⟨77, 0, 0⟩) (by rw [hlr, hlr1]; exact hO) (by rw [hlr]; omega)
            rw [hlr] at hI
            obtain ⟨g', cap', hv', -, hgl, hrg⟩ := own_at (ce := lc) (kz := 3) (fun _ => rfl) (l := row.reverse ++ [(⟨77, 0, 0⟩ : Ld)]) (by rw [hlr1]; exact hO) (k := j) (a := ⟨77, 0, 0⟩) (by rw [List.getElem?_append_right (by omega), hlr, Nat.sub_self]; rfl)
            have hg' : g' = G := by simp at hv'; exact hv'.1.symm
            subst hg'
            clear hv'
            obtain ⟨a7, c7, V7, hr7, hO7, hk7, hz7, -⟩ := app_in (hI.kept ((Kept.refl [] wr).alloc (.cells #[] 25))) (by rw [hlr]; exact hl) (Blk.new wr #[] 25) 40
            rw [hlr] at hr7 hO7 hz7
            have hk7' : Kept [] wr V7 := ((Kept.refl [] wr).alloc (.cells #[] 25)).trans hk7 (fun x hx => by simp at hx; omega)
            have hT := own_row (ce := lc) (kz := 3) (fun _ => rfl) (l := row.reverse) (v := .slice a7 j c7) (by rw [hlr]; exact hO7) (by rw [hlr]; omega)
            obtain ⟨b, hb⟩ : ∃ b : Bool, b = true ↔ sndP row.reverse := by classical exact ⟨decide (sndP row.reverse), by simp⟩
            have HLOW : ∀ i, i < row.reverse.length → -9223372036854775808 ≤ (rg row.reverse i).ep := fun i hi => unhide HLO _ (List.mem_reverse.1 (mem_rg hi))
            obtain ⟨H, hH⟩ : ∃ H, hldr row.reverse = H := ⟨_, rfl⟩
            have hI7 := hI.kept hk7'
            have C1 : ∀ W, Kept [] V7 W → Hid (Calls Try.prog 14 #[.slice (some ⟨g', 0, none⟩) j cap] W fun e w' => e = .returned (.int .i64 H) ∧ Kept [] W w') := fun W k => by rw [← hH]; exact hide (holder_any (hI7.kept k))
            have C2 : ∀ W, Kept [] V7 W → Hid (Calls Try.prog 15 #[.slice a7 j c7] W fun e w' => e = .returned (.int .i64 H) ∧ Kept [] W w') := fun W k => by rw [← hH]; exact hide (rholder_is (hT.kept k) HLOW)
            have C3 : ∀ W, Kept [] V7 W → Hid (Calls Try.prog 16 #[.slice (some ⟨g', 0, none⟩) j cap] W fun e w' => e = .returned (.bool b) ∧ Kept [] W w') := fun W k => hide (sound_any (hI7.kept k) b hb)
            have C4 : ∀ W, Kept [] V7 W → Hid (Calls Try.prog 17 #[.slice a7 j c7] W fun e w' => e = .returned (.bool b) ∧ Kept [] W w') := fun W k => hide (rsound_any (hT.kept k) HLOW b hb)
            have HE : Hid (RS w V7 ∧ g' < V7.heap.size ∧ V7.rangeAt g' (j * 3) (lc ⟨77, 0, 0⟩)) := ⟨hS.step hk7' (fun x hx => by cases hx), Nat.lt_of_lt_of_le hgl hk7'.size, range_kept hrg hk7' hgl (by simp)⟩
            clear hb hH HLOW hI hI7 hT hO7 hz7 hk7 hS hO hrg hgl hlr hlr1 HR1
            have hcc : ((j : Int) + 1) ≤ (cap : Int) := by omega
            have hccN : j + 1 ≤ cap := by omega
            have hjw : IntKind.i64.wrap ((j : Int) + 1) = (j : Int) + 1 := by rw [IntKind.wrap_i64]; omega
            have hj1 : (0 : Int) ≤ (j : Int) + 1 := by omega
            have hj2 : (j : Int) < (j : Int) + 1 := by omega
            have HR7 := hide hr7
            clear hr7
            go_wp2_with (at_builtin; refine wpList_append_runR rfl _ _ _ _ rfl _ _ rfl rfl (unhide HR7) ?_)
            refine wp_region_any (by kernel_rfl) ?_
            (try (change wpAny _ _ _ _ _ _ _ (World.drew _)))
            have HK := hide ((Kept.refl [] V7).drew)
            refine wpAny_take (i := 0) (v := ?_) rfl (by kernel_rfl) (by kernel_rfl) (by kernel_rfl) (fun _ _ _ h => h) (Or.inl ⟨by rfl, ?_⟩) ?_
            rotate_left 1
            · intro w; (go_simp <;> with_reducible rfl)
            simp only [List.getElem_toArray, List.getElem_cons_zero, Act.put, List.setIfInBounds_toArray, List.set_cons_succ, List.set_cons_zero]
            refine wpAny_take (i := 2) (v := ?_) rfl (by kernel_rfl) (by kernel_rfl) (by kernel_rfl) (fun _ _ _ h => h) (Or.inl ⟨by rfl, ?_⟩) ?_
            rotate_left 1
            · intro w; (go_simp <;> with_reducible rfl)
            simp only [List.getElem_toArray, List.getElem_cons_succ, List.getElem_cons_zero, Act.put, List.setIfInBounds_toArray, List.set_cons_succ, List.set_cons_zero]
            refine wpAny_ready (rs := [1]) (by kernel_rfl) (by simp) ?_
            refine AllReady.cons rfl (fun K hK => ?_) AllReady.nil
            go_simp
            go_wp2_with (first | (go_at_call 14; refine (unhide (C1 _ (unhide HK))).mono ?_; rintro e w21 ⟨rfl, hk2⟩; replace HK := hide ((unhide HK).step hk2); clear hk2 C1))
            (try (refine hK _ _ ?_; clear hK K))
            refine wpAny_ready (rs := [3]) (by kernel_rfl) (by simp) ?_
            refine AllReady.cons rfl (fun K hK => ?_) AllReady.nil
            go_simp
            go_wp2_with (first | (go_at_call 15; refine (unhide (C2 _ (unhide HK))).mono ?_; rintro e w23 ⟨rfl, hk2⟩; replace HK := hide ((unhide HK).step hk2); clear hk2 C2))
            (try (refine hK _ _ ?_; clear hK K))
            refine wpAny_take (i := 4) (v := ?_) rfl (by kernel_rfl) (by kernel_rfl) (by kernel_rfl) (fun _ _ _ h => h) (Or.inl ⟨by rfl, ?_⟩) ?_
            rotate_left 1
            · intro w; (go_simp <;> with_reducible rfl)
            simp only [List.getElem_toArray, List.getElem_cons_succ, List.getElem_cons_zero, Act.put, List.setIfInBounds_toArray, List.set_cons_succ, List.set_cons_zero]
            refine wpAny_take (i := 5) (v := ?_) rfl (by kernel_rfl) (by kernel_rfl) (by kernel_rfl) (fun _ _ _ h => h) (Or.inl ⟨by rfl, ?_⟩) ?_
            rotate_left 1
            · intro w; (go_simp <;> with_reducible rfl)
            simp only [List.getElem_toArray, List.getElem_cons_succ, List.getElem_cons_zero, Act.put, List.setIfInBounds_toArray, List.set_cons_succ, List.set_cons_zero]
            refine wpAny_take (i := 6) (v := ?_) rfl (by kernel_rfl) (by kernel_rfl) (by kernel_rfl) (fun _ _ _ h => h) (Or.inl ⟨by rfl, ?_⟩) ?_
            rotate_left 1
            · intro w; (go_simp <;> with_reducible rfl)
            simp only [List.getElem_toArray, List.getElem_cons_succ, List.getElem_cons_zero, Act.put, List.setIfInBounds_toArray, List.set_cons_succ, List.set_cons_zero]
            refine wpAny_take (i := 8) (v := ?_) rfl (by kernel_rfl) (by kernel_rfl) (by kernel_rfl) (fun _ _ _ h => h) (Or.inl ⟨by rfl, ?_⟩) ?_
            rotate_left 1
            · intro w; (go_simp <;> with_reducible rfl)
            simp only [List.getElem_toArray, List.getElem_cons_succ, List.getElem_cons_zero, Act.put, List.setIfInBounds_toArray, List.set_cons_succ, List.set_cons_zero]
            refine wpAny_ready (rs := [7]) (by kernel_rfl) (by simp) ?_
            refine AllReady.cons rfl (fun K hK => ?_) AllReady.nil
            go_simp
            go_wp2_with (first | (go_at_call 16; refine (unhide (C3 _ (unhide HK))).mono ?_; rintro e w27 ⟨rfl, hk2⟩; replace HK := hide ((unhide HK).step hk2); clear hk2 C3))
            (try (refine hK _ _ ?_; clear hK K))
            refine wpAny_ready (rs := [9]) (by kernel_rfl) (by simp) ?_
            refine AllReady.cons rfl (fun K hK => ?_) AllReady.nil
            go_simp
            go_wp2_with (first | (go_at_call 17; refine (unhide (C4 _ (unhide HK))).mono ?_; rintro e w29 ⟨rfl, hk2⟩; replace HK := hide ((unhide HK).step hk2); clear hk2 C4))
            (try (refine hK _ _ ?_; clear hK K))
            refine wpAny_take (i := 10) (v := ?_) rfl (by kernel_rfl) (by kernel_rfl) (by kernel_rfl) (fun _ _ _ h => h) (Or.inl ⟨by rfl, ?_⟩) ?_
            rotate_left 1
            · intro w; (go_simp <;> with_reducible rfl)
            simp only [List.getElem_toArray, List.getElem_cons_succ, List.getElem_cons_zero, Act.put, List.setIfInBounds_toArray, List.set_cons_succ, List.set_cons_zero]
            refine wpAny_take (i := 11) (v := ?_) rfl (by kernel_rfl) (by kernel_rfl) (by kernel_rfl) (fun _ _ _ h => h) (Or.inl ⟨by rfl, ?_⟩) ?_
            rotate_left 1
            · intro w; (go_simp <;> with_reducible rfl)
            simp only [List.getElem_toArray, List.getElem_cons_succ, List.getElem_cons_zero, Act.put, List.setIfInBounds_toArray, List.set_cons_succ, List.set_cons_zero]
            refine wpAny_take (i := 12) (v := ?_) rfl (by kernel_rfl) (by kernel_rfl) (by kernel_rfl) (fun _ _ _ h => h) (Or.inl ⟨by rfl, ?_⟩) ?_
            rotate_left 1
            · intro w; (go_simp <;> with_reducible rfl)
            simp only [List.getElem_toArray, List.getElem_cons_succ, List.getElem_cons_zero, Act.put, List.setIfInBounds_toArray, List.set_cons_succ, List.set_cons_zero]
            refine wpAny_take (i := 13) (v := ?_) rfl (by kernel_rfl) (by kernel_rfl) (by kernel_rfl) (fun _ _ _ h => h) (Or.inl ⟨by rfl, ?_⟩) ?_
            rotate_left 1
            · intro w; (go_simp <;> with_reducible rfl)
            simp only [List.getElem_toArray, List.getElem_cons_succ, List.getElem_cons_zero, Act.put, List.setIfInBounds_toArray, List.set_cons_succ, List.set_cons_zero]
            refine wpAny_take (i := 14) (v := ?_) rfl (by kernel_rfl) (by kernel_rfl) (by kernel_rfl) (fun _ _ _ h => h) (Or.inl ⟨by rfl, ?_⟩) ?_
            rotate_left 1
            · intro w; (go_simp <;> with_reducible rfl)
            simp only [List.getElem_toArray, List.getElem_cons_succ, List.getElem_cons_zero, Act.put, List.setIfInBounds_toArray, List.set_cons_succ, List.set_cons_zero]
            refine wpAny_take (i := 15) (v := ?_) rfl (by kernel_rfl) (by kernel_rfl) (by kernel_rfl) (fun _ _ _ h => h) (Or.inl ⟨by rfl, ?_⟩) ?_
            rotate_left 1
            · intro w; (go_simp <;> with_reducible rfl)
            simp only [List.getElem_toArray, List.getElem_cons_succ, List.getElem_cons_zero, Act.put, List.setIfInBounds_toArray, List.set_cons_succ, List.set_cons_zero]
            refine wpAny_take (i := 16) (v := ?_) rfl (by kernel_rfl) (by kernel_rfl) (by kernel_rfl) (fun _ _ _ h => h) (Or.inl ⟨by rfl, ?_⟩) ?_
            rotate_left 1
            · intro w; (go_simp <;> with_reducible rfl)
            simp only [List.getElem_toArray, List.getElem_cons_succ, List.getElem_cons_zero, Act.put, List.setIfInBounds_toArray, List.set_cons_succ, List.set_cons_zero]
            refine wpAny_take (i := 17) (v := ?_) rfl (by kernel_rfl) (by kernel_rfl) (by kernel_rfl) (fun _ _ _ h => h) (Or.inl ⟨by rfl, ?_⟩) ?_
            rotate_left 1
            · intro w; (go_simp <;> with_reducible rfl)
            simp only [List.getElem_toArray, List.getElem_cons_succ, List.getElem_cons_zero, Act.put, List.setIfInBounds_toArray, List.set_cons_succ, List.set_cons_zero]
            refine wpAny_take (i := 18) (v := ?_) rfl (by kernel_rfl) (by kernel_rfl) (by kernel_rfl) (fun _ _ _ h => h) (Or.inl ⟨by rfl, ?_⟩) ?_
            rotate_left 1
            · intro w; (go_simp <;> with_reducible rfl)
            simp only [List.getElem_toArray, List.getElem_cons_succ, List.getElem_cons_zero, Act.put, List.setIfInBounds_toArray, List.set_cons_succ, List.set_cons_zero]
            refine wpAny_take (i := 19) (v := ?_) rfl (by kernel_rfl) (by kernel_rfl) (by kernel_rfl) (fun _ _ _ h => h) (Or.inl ⟨by rfl, ?_⟩) ?_
            rotate_left 1
            · intro w; (go_simp <;> with_reducible rfl)
            simp only [List.getElem_toArray, List.getElem_cons_succ, List.getElem_cons_zero, Act.put, List.setIfInBounds_toArray, List.set_cons_succ, List.set_cons_zero]
            refine wpAny_take (i := 20) (v := ?_) rfl (by kernel_rfl) (by kernel_rfl) (by kernel_rfl) (fun _ _ _ h => h) (Or.inl ⟨by rfl, ?_⟩) ?_
            rotate_left 1
            · intro w; (go_simp <;> with_reducible rfl)
            simp only [List.getElem_toArray, List.getElem_cons_succ, List.getElem_cons_zero, Act.put, List.setIfInBounds_toArray, List.set_cons_succ, List.set_cons_zero]
            obtain ⟨q1, q2, q3⟩ := unhide HE
            obtain ⟨m0, m1, m2⟩ := (q1.step (unhide HK) (fun x hx => by cases hx)).cells
            obtain ⟨n0, n1, n2⟩ := row_cells (range_kept q3 (unhide HK) q2 (by simp))
            dsimp only at n0 n1 n2
            refine wpAny_ready (rs := [21, 22]) (by kernel_rfl) (by simp) ?_
            refine AllReady.cons rfl (fun K hK => ?_) (AllReady.cons rfl (fun K hK => ?_) AllReady.nil)
            · go_simp
              refine hK _ _ ?_; clear hK K
              refine wpAny_ready (rs := [22]) (by kernel_rfl) (by simp) ?_
              refine AllReady.cons rfl (fun K hK => ?_) AllReady.nil
              go_simp
              refine hK _ _ ?_; clear hK K
              refine wpAny_take (i := 23) (v := ?_) rfl (by kernel_rfl) (by kernel_rfl) (by kernel_rfl) (fun _ _ _ h => h) (Or.inl ⟨by rfl, ?_⟩) ?_
              rotate_left 1
              · intro w; (go_simp <;> with_reducible rfl)
              simp only [List.getElem_toArray, List.getElem_cons_succ, List.getElem_cons_zero, Act.put, List.setIfInBounds_toArray, List.set_cons_succ, List.set_cons_zero]
              refine wpAny_take (i := 24) (v := ?_) rfl (by kernel_rfl) (by kernel_rfl) (by kernel_rfl) (fun _ _ _ h => h) (Or.inl ⟨by rfl, ?_⟩) ?_
              rotate_left 1
              · intro w; (go_simp <;> with_reducible rfl)
              simp only [List.getElem_toArray, List.getElem_cons_succ, List.getElem_cons_zero, Act.put, List.setIfInBounds_toArray, List.set_cons_succ, List.set_cons_zero]
              refine wpAny_take (i := 25) (v := ?_) rfl (by kernel_rfl) (by kernel_rfl) (by kernel_rfl) (fun _ _ _ h => h) (Or.inl ⟨by rfl, ?_⟩) ?_
              rotate_left 1
              · intro w; (go_simp <;> with_reducible rfl)
              simp only [List.getElem_toArray, List.getElem_cons_succ, List.getElem_cons_zero, Act.put, List.setIfInBounds_toArray, List.set_cons_succ, List.set_cons_zero]
              refine wpAny_done (by kernel_rfl) ?_ _
              go_wp2_with fail
              go_ret
              exact ⟨by simp, q1.kp.step (unhide HK)⟩
            · go_simp
              refine hK _ _ ?_; clear hK K
              refine wpAny_ready (rs := [21]) (by kernel_rfl) (by simp) ?_
              refine AllReady.cons rfl (fun K hK => ?_) AllReady.nil
              go_simp
              refine hK _ _ ?_; clear hK K
              refine wpAny_take (i := 23) (v := ?_) rfl (by kernel_rfl) (by kernel_rfl) (by kernel_rfl) (fun _ _ _ h => h) (Or.inl ⟨by rfl, ?_⟩) ?_
              rotate_left 1
              · intro w; (go_simp <;> with_reducible rfl)
              simp only [List.getElem_toArray, List.getElem_cons_succ, List.getElem_cons_zero, Act.put, List.setIfInBounds_toArray, List.set_cons_succ, List.set_cons_zero]
              refine wpAny_take (i := 24) (v := ?_) rfl (by kernel_rfl) (by kernel_rfl) (by kernel_rfl) (fun _ _ _ h => h) (Or.inl ⟨by rfl, ?_⟩) ?_
              rotate_left 1
              · intro w; (go_simp <;> with_reducible rfl)
              simp only [List.getElem_toArray, List.getElem_cons_succ, List.getElem_cons_zero, Act.put, List.setIfInBounds_toArray, List.set_cons_succ, List.set_cons_zero]
              refine wpAny_take (i := 25) (v := ?_) rfl (by kernel_rfl) (by kernel_rfl) (by kernel_rfl) (fun _ _ _ h => h) (Or.inl ⟨by rfl, ?_⟩) ?_
              rotate_left 1
              · intro w; (go_simp <;> with_reducible rfl)
              simp only [List.getElem_toArray, List.getElem_cons_succ, List.getElem_cons_zero, Act.put, List.setIfInBounds_toArray, List.set_cons_succ, List.set_cons_zero]
              refine wpAny_done (by kernel_rfl) ?_ _
              go_wp2_with fail
              go_ret
              exact ⟨by simp, q1.kp.step (unhide HK)⟩
end Go.Proofs.Ytnpabeodakncfaa
