/- grow. -/
import Derived.Test.YthhgeobfolhpoaaVSmall
import Derived.Deep.RegionHeld3
import Derived.Deep.AppendLies
namespace Go.Proofs.Ythhgeobfolhpoaa
open Go.RowKit

/-- the first k halved -/
def mixed (l : List Nat) (a k : Nat) : List Nat := (l.take k).map (hlfN · a) ++ l.drop k
theorem take_succ_at {l : List Value} {o : Nat} {x : Value} (h : l[o]? = some x) : l.take (o + 1) = l.take o ++ [x] := by rw [List.take_add_one, h]; rfl
theorem mixed_len (l : List Nat) (a k : Nat) : (mixed l a k).length = l.length := by simp [mixed]; omega
theorem mixed_all (l : List Nat) (a : Nat) : mixed l a l.length = l.map (hlfN · a) := by simp [mixed]
theorem mixed_none (l : List Nat) (a : Nat) : mixed l a 0 = l := by simp [mixed]
theorem mixed_at (l : List Nat) (a : Nat) {k : Nat} (h : k < l.length) : (mixed l a k).getD k 0 = l.getD k 0 := by
  unfold mixed
  rw [getD_app, if_neg (by simp; omega), getD_drop]
  congr 1
  simp; omega
theorem mixed_set (l : List Nat) (a : Nat) {k : Nat} (h : k < l.length) : (mixed l a k).set k (hlfN (l.getD k 0) a) = mixed l a (k + 1) := by
  unfold mixed
  rw [List.set_append_right _ _ (by simp; omega)]
  have e : k - ((l.take k).map (hlfN · a)).length = 0 := by simp; omega
  rw [e, List.drop_eq_getElem_cons h, List.set_cons_zero, List.take_add_one, List.getElem?_eq_getElem h, List.getD, List.getElem?_eq_getElem h]
  simp only [Option.getD_some, Option.toList_some, List.map_append, List.map_cons, List.map_nil, List.append_assoc, List.cons_append, List.nil_append]
theorem mixed_low {l : List Nat} (h : ∀ j, low (l.getD j 0)) (a k : Nat) : ∀ j, low ((mixed l a k).getD j 0) := by
  intro j
  unfold mixed
  rw [getD_app, getD_map _ _ (hlfN_zero a), getD_drop]
  split
  · refine hlfN_low a ?_
    by_cases hj : j < k
    · rw [show (l.take k).getD j 0 = l.getD j 0 by simp [List.getD, hj]]; exact h j
    · rw [show (l.take k).getD j 0 = 0 by rw [List.getD, List.getElem?_take, if_neg hj]; rfl]; exact low_zero
  · exact h _
theorem Mp.setLoad {w : World} {b g : Nat} {m : Mt} (h : Mp w b g m) {j x : Nat} (hx : low x) : Mp (w.setCell ⟨g, j, none⟩ (.float .f64 x)) b g { m with loads := m.loads.set j x } := by
  refine ⟨⟨h.ok.h1, h.ok.h2, h.ok.c, by simp; exact h.ok.l1, by simp; exact h.ok.l2, fun i => ?_, h.ok.wl, h.ok.wi⟩, ?_, ?_, h.bg⟩
  · by_cases hj : j < m.loads.length
    · simp only []; rw [getD_set _ _ _ _ hj]; split
      · exact hx
      · exact h.ok.lo i
    · simp only []; rw [List.set_eq_of_length_le (by omega)]; exact h.ok.lo i
  · have := h.head.other ⟨g, j, none⟩ (by exact h.bg) (.float .f64 x)
    simpa [mcells] using this
  · have := h.row.set j (.float .f64 x)
    rw [List.setIfInBounds_toArray, ← flts_set] at this
    exact this

theorem wpList_alloc_z {P : Program} {w : World} {ops : Array Oper} {rest : List Oper} {o : Oper} {a : Act} {Q : Exit → Act → World → Prop} (t : TypeId) (z : List Value) (ho : o.op = .alloc t) (hgd : o.guard = none)
    (hz : ∀ w, (zeroValue t).run P w = .ok (.agg z.toArray) w)
    (h : wpList P ops Q rest (a.put o.dst (.pointer (some ⟨w.heap.size, 0, none⟩))) (w.alloc (.cells z.toArray t))) : wpList P ops Q (o :: rest) a w := by
  refine wpList_plain hgd fun K hK => ?_
  unfold Oper.wp execOp
  simp [ho, Instr.alloc, hz, newVar, newRow, Value.cells, Result.andThen]
  exact hK _ _ h

theorem kept_setCells {F : List Nat} {a : World} {b : Nat} (hb : b ∈ F ∨ a.heap.size ≤ b) : ∀ (vs : List Value) (o : Nat) (w : World), Kept F a w → Kept F a (w.setCells b o vs)
  | [], _, _, h => h
  | v :: r, o, _, h => kept_setCells hb r (o + 1) _ (h.setCell (p := ⟨b, o, none⟩) hb v)

/-- a range of a block is written over -/
theorem blk_range {g : Nat} {t : TypeId} : ∀ (vs : List Value) (o : Nat) (w : World) (cs : List Value), Blk w g cs.toArray t → o + vs.length ≤ cs.length → Blk (w.setCells g o vs) g (cs.take o ++ vs ++ cs.drop (o + vs.length)).toArray t
  | [], o, w, cs, h, hl => by simpa [World.setCells] using h
  | v :: r, o, w, cs, h, hl => by
    have h1 := h.set o v
    rw [List.setIfInBounds_toArray] at h1
    have h2 := blk_range r (o + 1) _ _ h1 (by simp at hl ⊢; omega)
    have e : (cs.set o v).take (o + 1) ++ r ++ (cs.set o v).drop (o + 1 + r.length) = cs.take o ++ (v :: r) ++ cs.drop (o + (v :: r).length) := by
      have ho : o < cs.length := by simp at hl; omega
      rw [take_succ_at (x := v) (by simp [ho]), List.take_set_of_le (by omega), List.drop_set_of_lt (by omega)]
      simp [Nat.add_comm 1, Nat.add_assoc]
    rw [e] at h2
    exact h2

theorem there_blk {w : World} {b : Nat} {cs : List Value} {t : TypeId} (h : Blk w b cs.toArray t) {o n : Nat} (hl : o + n ≤ cs.length) : w.there b o n := fun j hj =>
  ⟨by rw [h.cell]; simp; omega, h.frozen _⟩

/-- 'copy' as one step of a region that draws, by its run -/
theorem step_copy_runI {P : Program} {ops : Array Oper} {o : Oper} {a : Act} {w : World} {K : Act → World → Prop} {Q : Exit → Act → World → Prop} {E : Prop}
    (hg : o.guard = none) (d x : Operand) (dT sT : TypeId) (hop : o.op = Op.call { callee := Callee.builtin Builtin.copy, args := #[d, x], argTypes := #[dT, sT] })
    (v u : Value) (hd : a.eval d = v) (hx : a.eval x = u) {v' : Value} {w' : World} (hr : (Builtin.copy_ #[dT, sT] o.type #[v, u]).run P w = .ok v' w') (hK : K (a.put o.dst v') w') :
    if Region.wanted o (yielded ops a.tmps) = true then Oper.wp P o a w K Q else E := by
  have hw : Region.wanted o (yielded ops a.tmps) = true := by simp [Region.wanted, hg]
  rw [if_pos hw]
  unfold Oper.wp
  simp [execOp, hop, resolve, invoke, builtin, hd, hx, hr, Result.andThen]
  exact hK
set_option maxRecDepth 100000 in
set_option maxHeartbeats 2000000 in
theorem grow_any {w : World} {b g : Nat} {m : Mt} (h : Mp w b g m) (a : Nat) (ha : a ≤ 1099511627776) : Calls Try.prog 41 #[.pointer (some ⟨b, 0, none⟩), .int .i64 (a : Int)] w fun e w' => e = .returned (.tuple #[]) ∧ Mp w' b g (m.grow a) ∧ Kept [b, g] w w' := by
  have HM := hide h
  obtain ⟨-, -, c2⟩ := h.cells
  have hl2 := h.ok.l2
  clear h
  obtain ⟨L, hL⟩ : ∃ L, m.loads.length = L := ⟨_, rfl⟩
  rw [hL] at c2 hl2
  have HL := hide hL
  clear hL
  have HA := fun (x : Nat) (hx : low x) W => hide (halved_any W hx a ha)
  go_enter Try.func41, Try.ntmps41
  go_wp2_with fail
  go_loopw [12] (fun i wr => ∃ k : Nat, k ≤ L ∧ i = .int .i64 (k : Int) ∧ Mp wr b g { m with loads := mixed m.loads a k } ∧ Kept [b, g] w wr) (fun i _ => L - (intOf i).toNat)
  case atStart => exact ⟨0, by omega, rfl, by rw [mixed_none]; exact unhide HM, Kept.refl _ _⟩
  case round =>
    obtain ⟨k, hk, rfl, hm, hkp⟩ := hrel
    have HK := hide hkp
    have HM2 := hide hm
    have hl3 : (mixed m.loads a k).length = L := by rw [mixed_len]; exact unhide HL
    by_cases hlt : k < L
    · have hc := hm.load (j := k) (by simp only []; omega)
      simp only [] at hc
      rw [mixed_at m.loads a (by have := unhide HL; omega)] at hc
      obtain ⟨-, -, c2r⟩ := hm.cells
      simp only [] at c2r
      rw [hl3] at c2r
      have hlow := (unhide HM).ok.lo k
      have hst : (store ⟨g, k, none⟩ (.float .f64 (hlfN (m.loads.getD k 0) a))).run Try.prog wr.drew = .ok () (wr.drew.setCell ⟨g, k, none⟩ (.float .f64 (hlfN (m.loads.getD k 0) a))) := store_flt (hm.kept ((Kept.refl [] wr).drew) (by simp) (by simp)).row (by simp [flts_length]; omega)
      have hne := hm.bg
      have HN := hide ((hm.kept ((Kept.refl [] wr).drew) (by simp) (by simp)).setLoad (j := k) (hlfN_low a hlow))
      have HX := hide (mixed_set m.loads a (k := k) (by have := unhide HL; omega))
      replace HA := HA _ hlow
      have HKN := hide (hkp.drew.setCell (p := ⟨g, k, none⟩) (Or.inl (by simp)) (.float .f64 (hlfN (m.loads.getD k 0) a)))
      generalize m.loads.getD k 0 = x at *
      have HS4 : Hid ((wr.drew.setCell ⟨g, k, none⟩ (.float .f64 (hlfN x a))).cell? ⟨b, 2, none⟩ = some (.slice (some ⟨g, 0, none⟩) L L)) := (World.cell?_setCell_other _ _ _ _ (fun e => hne (by injection e with e; exact e.symm))).trans c2r
      clear hm hkp hlow hl3
      simp only [] at HN
      go_wp2_with fail
      go_region_held3 (fun w' => w'.cell? ⟨b, 2, none⟩ = some (.slice (some ⟨g, 0, none⟩) L L)) (first | exact c2r | exact unhide HS4) (first
        | (go_at_call 52; refine (unhide (HA _)).mono ?_; rintro e w1 ⟨rfl, hq⟩; have hq' := hq.symm; subst hq'; clear HA))
      go_wp2
      refine ⟨⟨k + 1, by omega, by simp, ?_, unhide HKN⟩, by simp [intOf]; omega⟩
      rw [← unhide HX]; exact unhide HN
    · obtain rfl : k = L := by omega
      have hm2 : Mp wr b g { m with loads := m.loads.map (hlfN · a) } := by
        have := hm
        rw [← unhide HL, mixed_all] at this
        exact this
      have HM3 := hide hm2
      obtain ⟨q, hq⟩ : ∃ q, q = min a 8 := ⟨_, rfl⟩
      have hq8 : q ≤ 8 := by omega
      have hqi : min (a : Int) 8 = (q : Int) := by omega
      have hq0 : (0 : Int) ≤ (q : Int) := by omega
      have hq9 : (q : Int) ≤ 8 := by omega
      obtain ⟨W, hW⟩ : ∃ W, W = wr.alloc (.cells #[.float .f64 0, .float .f64 0, .float .f64 0, .float .f64 0, .float .f64 0, .float .f64 0, .float .f64 0, .float .f64 0] 63) := ⟨_, rfl⟩
      have hka : Kept [] wr W := by rw [hW]; exact (Kept.refl _ _).alloc _
      have hN : Blk W wr.heap.size (flts (List.replicate 8 0)).toArray 63 := by rw [hW]; exact Blk.new _ _ _
      have hmW := hm2.kept hka (by simp) (by simp)
      have hwl := hm2.ok.wl
      simp only [] at hwl
      have hl : (flts (m.wins.drop q)).length = 8 - q := by rw [flts_length, List.length_drop, hwl]
      have hcp : ∀ ty, (Builtin.copy_ #[43, 43] ty #[.slice (some ⟨wr.heap.size, 0, none⟩) 8 8, .slice (some ⟨b, 3 + q, none⟩) (8 - q) (8 - q)]).run Try.prog W.drew = .ok (goInt ((8 - q : Nat) : Int)) (W.drew.setCells wr.heap.size 0 (flts (m.wins.drop q))) := fun ty => by
        have := run_copy_cells (P := Try.prog) W.drew 43 43 ty 46 wr.heap.size 0 8 8 ⟨b, 3 + q, none⟩ (8 - q) (8 - q) (flts (m.wins.drop q)) Try.underlying43 (by kernel_rfl) (by rw [hl]; simp)
          (fun j v hv => by
            rw [Addr.add_mid, World.cell?_drew]
            have hj := (List.getElem?_eq_some_iff.1 hv).1
            rw [hl] at hj
            rw [flts_at _ (by rw [List.length_drop, hwl]; exact hj), getD_drop] at hv
            rw [Nat.add_assoc, hmW.win (j := q + j) (by omega)]
            exact hv)
          (fun j hj => by
            rw [World.cell?_drew]
            exact (there_blk hN (o := 0) (n := 8) (by rw [flts_length, List.length_replicate]; omega) j (by omega)).1)
          (fun j hj => by
            rw [World.frozen?_drew]
            exact hN.frozen _) (flts_one _)
        rw [hl] at this
        exact this
      have hcp8 : ∀ ty, (Builtin.copy_ #[43, 43] ty #[.slice (some ⟨wr.heap.size, 0, none⟩) 8 8, .slice (some ⟨b, 3, none⟩) 0 0]).run Try.prog W.drew = .ok (goInt 0) W.drew := fun ty => run_copy_none (P := Try.prog) W.drew 43 43 ty 46 _ _ 8 8 0 0 Try.underlying43 (by kernel_rfl) rfl
      have hnil : q = 8 → W.drew = W.drew.setCells wr.heap.size 0 (flts (m.wins.drop q)) := fun e => by
        rw [show m.wins.drop q = [] from List.drop_eq_nil_of_le (by omega)]; rfl
      have HCP := hide hcp
      have HCP8 := hide hcp8
      clear hcp8
      have hend : ∀ W2, W2 = W.drew.setCells wr.heap.size 0 (flts (m.wins.drop q)) → W2.rangeAt wr.heap.size 0 (flts (m.wins.drop q ++ List.replicate q 0)) ∧ W2.there b 3 8 ∧ Mp (W2.setCells b 3 (flts (m.wins.drop q ++ List.replicate q 0))) b g (m.grow a) ∧ Kept [b, g] w (W2.setCells b 3 (flts (m.wins.drop q ++ List.replicate q 0))) := by
        intro W2 hW2
        have hkd : Kept [] W W.drew := (Kept.refl _ _).drew
        have hN' : Blk W.drew wr.heap.size (flts (List.replicate 8 0)).toArray 63 := hN.kept hkd (by simp)
        have hr := blk_range (flts (m.wins.drop q)) 0 W.drew (flts (List.replicate 8 0)) hN' (by rw [hl, flts_length, List.length_replicate]; omega)
        have e : (flts (List.replicate 8 0)).take 0 ++ flts (m.wins.drop q) ++ (flts (List.replicate 8 0)).drop (0 + (flts (m.wins.drop q)).length) = flts (m.wins.drop q ++ List.replicate q 0) := by
          rw [hl, flts_append, List.take_zero, List.nil_append]
          congr 1
          unfold flts
          rw [← List.map_drop, List.drop_replicate]
          congr 2; omega
        rw [e, ← hW2] at hr
        have hk2 : Kept [wr.heap.size] wr W2 := by rw [hW2]; exact kept_setCells (Or.inl (by simp)) _ _ _ ((hka.mono (G := [wr.heap.size]) (fun _ hx => by cases hx)).drew)
        have hbl := (unhide HM3).head.lt
        have hgl := (unhide HM3).row.lt
        have hm3 := (unhide HM3).kept hk2 (by simp; omega) (by simp; omega)
        have hth : W2.there b 3 8 := there_blk hm3.head (by simp [mcells, flts_length, hwl])
        refine ⟨fun j v hv => by rw [Nat.zero_add, hr.cell]; simpa using hv, hth, ?_, ?_⟩
        · have h3 := blk_range (flts (m.wins.drop q ++ List.replicate q 0)) 3 W2 _ hm3.head (by simp [mcells, flts_length, hwl]; omega)
          have hk3 : Kept [b] W2 (W2.setCells b 3 (flts (m.wins.drop q ++ List.replicate q 0))) := kept_setCells (Or.inl (by simp)) _ _ _ (Kept.refl _ _)
          refine ⟨Mt.grow_ok (unhide HM).ok a, ?_, ?_, (unhide HM3).bg⟩
          · have e3 : (mcells { half := m.half, clock := m.clock, loads := m.loads.map (hlfN · a), wins := m.wins } g).take 3 ++ flts (m.wins.drop q ++ List.replicate q 0) ++ (mcells { half := m.half, clock := m.clock, loads := m.loads.map (hlfN · a), wins := m.wins } g).drop (3 + (flts (m.wins.drop q ++ List.replicate q 0)).length) = mcells (m.grow a) g := by
              have : (flts m.wins).drop ((flts (m.wins.drop q ++ List.replicate q 0)).length) = [] := by
                apply List.drop_eq_nil_of_le; simp [flts_length, hwl]; omega
              simp only [mcells, Mt.grow, ← hq, List.take_succ_cons, List.take_zero, Nat.add_comm 3, List.drop_succ_cons, this, List.append_nil, List.cons_append, List.nil_append]
            rw [e3] at h3; exact h3
          · exact hm3.row.kept hk3 (by simp; exact fun e => (unhide HM3).bg e.symm)
        · have hk4 : Kept [b, g] w W2 := (unhide HK).trans hk2 (fun x hx => by simp at hx; subst hx; exact Or.inr (unhide HK).size)
          exact kept_setCells (Or.inl (by simp)) _ _ _ hk4
      have hsz : (flts (m.wins.drop q ++ List.replicate q 0)).length = 8 := by simp [flts_length, hwl]; omega
      have HEND := hide hend
      have HSZ := hide hsz
      clear hend hsz
      clear hm hkp HM2 hl3 hm2 hcp HA
      go_wp2_with fail
      rw [← hW]
      have HW := hide hW
      clear hW
      have HN2 := hide hN
      have HMW := hide hmW
      have HKA := hide hka
      have HWL := hide hwl
      clear hN hmW hka hwl hl
      rcases (show a < 8 ∨ a = 8 ∨ 8 < a by omega) with ha8 | ha8 | ha8
      · have t2 : ((8 : Int) < (a : Int)) = False := by simp; omega
        have t1 : ((a : Int) < 8) = True := by simp; omega
        have hqa : q = a := by omega
        clear hq hnil
        subst hqa
        have t3 : (8 = q) = False := by simp; omega
        go_region_held3 (fun _ => True) (trivial)
          ((refine step_copy_runI (by rfl) _ _ 43 43 (by rfl) _ _ (by rfl) (by rfl) (unhide HCP _) ?_))
        obtain ⟨HE1, HE2, HE3, HE4⟩ := unhide HEND _ rfl
        have HF1 := hide HE1
        have HF2 := hide HE2
        have HF3 := hide HE3
        have HF4 := hide HE4
        clear HE1 HE2 HE3 HE4 HEND HCP HCP8
        have HG4 : Hid ((flts (m.wins.drop q ++ List.replicate q 0)).toArray.all (·.oneCell') = true) := all_oneCell_toArray (flts_one _)
        generalize hmv : flts (m.wins.drop q ++ List.replicate q 0) = mv at *
        have HG2 : Hid ((W.drew.setCells wr.heap.size 0 (flts (m.wins.drop q))).there b 3 mv.toArray.size) := by unfold Hid; rw [show mv.toArray.size = 8 from unhide HSZ]; exact unhide HF2
        have HG3 : Hid ((Try.prog.info? 63).map (·.size) = some mv.toArray.size) := by unfold Hid; rw [show mv.toArray.size = 8 from unhide HSZ]; kernel_rfl
        go_wp2_with (first
          | (guard_target =~ wpList _ _ _ _ _ _; refine wpList_load_mid rfl 63 _ rfl wr.heap.size 0 rfl mv _ (unhide HF1) Try.underlying63 rfl (by rw [unhide HSZ]; kernel_rfl) ?_)
          | (guard_target =~ wpList _ _ _ _ _ _; refine wpList_store_mid rfl 63 _ _ rfl b 3 mv.toArray rfl rfl (unhide HG2) (unhide HG3) (unhide HG4) ?_))
        refine bodyPost_end (results_none rfl _ _ _) rfl ?_
        exact ⟨rfl, unhide HF3, unhide HF4⟩
      · have hqa : q = 8 := by omega
        replace hnil := hnil hqa
        have HNIL := hide hnil
        clear hq hqi hq8 hq0 hq9 hqa hnil
        go_region_held3 (fun _ => True) (trivial)
          ((refine step_copy_runI (by rfl) _ _ 43 43 (by rfl) _ _ (by rfl) (by rfl) (unhide HCP8 _) ?_))
        obtain ⟨HE1, HE2, HE3, HE4⟩ := unhide HEND W.drew (unhide HNIL)
        rw [ha8] at HE3
        have HF1 := hide HE1
        have HF2 := hide HE2
        have HF3 := hide HE3
        have HF4 := hide HE4
        clear HE1 HE2 HE3 HE4 HEND HCP HCP8
        have HG4 : Hid ((flts (m.wins.drop q ++ List.replicate q 0)).toArray.all (·.oneCell') = true) := all_oneCell_toArray (flts_one _)
        generalize hmv : flts (m.wins.drop q ++ List.replicate q 0) = mv at *
        have HG2 : Hid (W.drew.there b 3 mv.toArray.size) := by unfold Hid; rw [show mv.toArray.size = 8 from unhide HSZ]; exact unhide HF2
        have HG3 : Hid ((Try.prog.info? 63).map (·.size) = some mv.toArray.size) := by unfold Hid; rw [show mv.toArray.size = 8 from unhide HSZ]; kernel_rfl
        go_wp2_with (first
          | (guard_target =~ wpList _ _ _ _ _ _; refine wpList_load_mid rfl 63 _ rfl wr.heap.size 0 rfl mv _ (unhide HF1) Try.underlying63 rfl (by rw [unhide HSZ]; kernel_rfl) ?_)
          | (guard_target =~ wpList _ _ _ _ _ _; refine wpList_store_mid rfl 63 _ _ rfl b 3 mv.toArray rfl rfl (unhide HG2) (unhide HG3) (unhide HG4) ?_))
        refine bodyPost_end (results_none rfl _ _ _) rfl ?_
        exact ⟨rfl, unhide HF3, unhide HF4⟩
      · have hqa : q = 8 := by omega
        have t2 : ((8 : Int) < (a : Int)) = True := by simp; omega
        replace hnil := hnil hqa
        have HNIL := hide hnil
        clear hq hqi hq8 hq0 hq9 hqa hnil
        go_region_held3 (fun _ => True) (trivial)
          ((refine step_copy_runI (by rfl) _ _ 43 43 (by rfl) _ _ (by rfl) (by rfl) (unhide HCP8 _) ?_))
        obtain ⟨HE1, HE2, HE3, HE4⟩ := unhide HEND W.drew (unhide HNIL)
        have HF1 := hide HE1
        have HF2 := hide HE2
        have HF3 := hide HE3
        have HF4 := hide HE4
        clear HE1 HE2 HE3 HE4 HEND HCP HCP8
        have HG4 : Hid ((flts (m.wins.drop q ++ List.replicate q 0)).toArray.all (·.oneCell') = true) := all_oneCell_toArray (flts_one _)
        generalize hmv : flts (m.wins.drop q ++ List.replicate q 0) = mv at *
        have HG2 : Hid (W.drew.there b 3 mv.toArray.size) := by unfold Hid; rw [show mv.toArray.size = 8 from unhide HSZ]; exact unhide HF2
        have HG3 : Hid ((Try.prog.info? 63).map (·.size) = some mv.toArray.size) := by unfold Hid; rw [show mv.toArray.size = 8 from unhide HSZ]; kernel_rfl
        go_wp2_with (first
          | (guard_target =~ wpList _ _ _ _ _ _; refine wpList_load_mid rfl 63 _ rfl wr.heap.size 0 rfl mv _ (unhide HF1) Try.underlying63 rfl (by rw [unhide HSZ]; kernel_rfl) ?_)
          | (guard_target =~ wpList _ _ _ _ _ _; refine wpList_store_mid rfl 63 _ _ rfl b 3 mv.toArray rfl rfl (unhide HG2) (unhide HG3) (unhide HG4) ?_))
        refine bodyPost_end (results_none rfl _ _ _) rfl ?_
        exact ⟨rfl, unhide HF3, unhide HF4⟩
end Go.Proofs.Ythhgeobfolhpoaa
