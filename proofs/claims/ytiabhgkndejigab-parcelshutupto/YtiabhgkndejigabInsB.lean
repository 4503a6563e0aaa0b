/- slices.Insert at []byte: where it grows; all ways together. -/
import Derived.Test.YtiabhgkndejigabIns
import Derived.Test.YtiabhgkndejigabCut
namespace Go.Proofs.Ytiabhgkndejigab
open Go.RowKit

theorem Try.u3 : Try.prog.underlying 3 = some (.int .i64) := by kernel_rfl

set_option maxHeartbeats 1000000 in
set_option maxRecDepth 100000 in
theorem ins_grow {w : World} {g cap vb vc i : Nat} {bs fs : List Nat}
    (hcs : ∀ j, j < bs.length → w.cell? ⟨g, j, none⟩ = some (.int .u8 (bs.getD j 0 : Nat))) (hnc : bs.length ≤ cap)
    (hvs : ∀ j, j < fs.length → w.cell? ⟨vb, j, none⟩ = some (.int .u8 (fs.getD j 0 : Nat)))
    (hi : i < bs.length) (hm : 0 < fs.length) (hroom : cap < bs.length + fs.length) (hbig : bs.length + fs.length ≤ 140737488355328) :
    Calls Try.prog 54 #[.slice (some ⟨g, 0, none⟩) bs.length cap, .int .i64 i, .slice (some ⟨vb, 0, none⟩) fs.length vc] w fun e w' =>
      e = .returned (.slice (some ⟨w.heap.size, 0, none⟩) (bs.length + fs.length) (grownCap w (bs.length + fs.length) cap 5)) ∧
      ∃ ROW : Array Value, ROW.size = grownCap w (bs.length + fs.length) cap 5 ∧ (∀ j, j < i → ROW[j]? = some (.int .u8 (bs.getD j 0 : Nat))) ∧
        w' = (((w.alloc (.cells ROW 5)).drew.setCells w.heap.size i (u8s fs)).drew).setCells w.heap.size (i + fs.length) ((u8s bs).drop i) := by
  obtain ⟨i0, hi0, hz0, hzs, hzb⟩ := info_parts Try.info5
  have hz1 : ¬ ((fs.length : Int) = 0) := by omega
  have hz2 : ¬ ((i : Int) = (bs.length : Int)) := by omega
  have hz3 : (cap : Int) < (bs.length : Int) + (fs.length : Int) := by omega
  have hsz : (Try.prog.info? 5).map (·.size) = some 1 := by rw [hi0]; simp [hzs]
  have hbw : g < w.heap.size := World.block_lt_of_cell? w ⟨g, 0, none⟩ (hcs 0 (by omega))
  have hvw : vb < w.heap.size := World.block_lt_of_cell? w ⟨vb, 0, none⟩ (hvs 0 (by omega))
  have hkk : (bs.length : Int) + (fs.length : Int) - (i : Int) = ((bs.length + fs.length - i : Nat) : Int) := by omega
  have hik : i + (bs.length + fs.length - i) = bs.length + fs.length := by omega
  have hold : (Builtin.firstCells i0.size i (.slice (some ⟨g, 0, none⟩) i cap)).run Try.prog w.drew = .ok ((u8s bs).take i).toArray w.drew := by
    rw [hzs]
    exact run_firstCells_some w.drew 1 i ⟨g, 0, none⟩ i cap ((u8s bs).take i) (by rw [List.length_take, u8s_length]; omega) (fun j v hj => by
      rw [Addr.add_lit, Nat.zero_add]
      rw [List.getElem?_take] at hj
      split at hj
      · obtain ⟨h1, rfl⟩ := u8_get hj
        exact hcs j h1
      · cases hj)
  have hrz : ∀ ty, (Builtin.append_ #[22, 3] ty #[.slice (some ⟨g, 0, none⟩) i cap, .int .i64 ((bs.length : Int) + (fs.length : Int) - (i : Int))]).run Try.prog w =
      .ok (.slice (some ⟨w.heap.size, 0, none⟩) (bs.length + fs.length) (grownCap w (bs.length + fs.length) cap 5)) (w.drew.alloc (.cells (((u8s bs).take i).toArray ++ Builtin.zeroCells (Value.int .u8 0).cells (bs.length + fs.length - i) ++ Builtin.zeroCells (Value.int .u8 0).cells (grownCap w (bs.length + fs.length) cap 5 - (bs.length + fs.length))) 5)) := fun ty => by
    have h := Lib.run_append_grow_zeros w 22 3 ty 5 i0 _ .i64 .i64 Try.underlying22 Try.u3 hi0 hz0 (some ⟨g, 0, none⟩) i cap ((u8s bs).take i) hold (bs.length + fs.length - i) (by omega) (by omega) (by omega) (by omega) (by rw [hzb]; omega) (by rw [hzb, hik]; exact growslice_fits hroom (by omega))
    rw [hik] at h
    rw [hkk]
    exact h
  have hGn : bs.length + fs.length ≤ grownCap w (bs.length + fs.length) cap 5 := grownCap_ge w _ _ _
  have hG63 : grownCap w (bs.length + fs.length) cap 5 ≤ 9223372036854775807 := by
    have := grownCap_le_maxLen w (bs.length + fs.length) cap 5 (by unfold maxLen; omega)
    unfold maxLen at this
    omega
  generalize hG : grownCap w (bs.length + fs.length) cap 5 = G at *
  obtain ⟨ROW, hROW⟩ : ∃ ROW : Array Value, ROW = ((u8s bs).take i).toArray ++ Builtin.zeroCells (Value.int .u8 0).cells (bs.length + fs.length - i) ++ Builtin.zeroCells (Value.int .u8 0).cells (G - (bs.length + fs.length)) := ⟨_, rfl⟩
  rw [← hROW] at hrz
  have hRl : ROW.size = G := by
    rw [hROW]
    simp [Builtin.zeroCells, Value.cells, u8s]
    omega
  have hRf : ∀ j, j < i → ROW[j]? = some (.int .u8 (bs.getD j 0 : Nat)) := by
    intro j hj
    rw [hROW, Array.append_assoc, Array.getElem?_append_left (by simp [u8s]; omega)]
    simp [u8s, hj, List.getElem?_eq_getElem (show j < bs.length by omega)]
  have HRF := hide hRf
  clear hRf
  obtain ⟨W1, hW1⟩ : ∃ W1, W1 = w.drew.alloc (.cells ROW 5) := ⟨_, rfl⟩
  rw [← hW1] at hrz
  have hB1 : Blk W1 w.heap.size ROW 5 := by rw [hW1]; exact Blk.new w.drew ROW 5
  have hN : ∀ j, j < bs.length + fs.length → (W1.cell? ⟨w.heap.size, j, none⟩).isSome = true := fun j hj => by
    rw [hB1.cell, Array.getElem?_eq_getElem (by omega)]; rfl
  have hNf : ∀ j, W1.frozen? ⟨w.heap.size, j, none⟩ = false := fun j => hB1.frozen j
  have hK1 : Kept [] w W1 := by rw [hW1]; exact (Kept.refl [] w).drew.alloc _
  have hcpA : ∀ (W : World), (∀ x, W.cell? x = W1.cell? x) → (∀ x, W.frozen? x = W1.frozen? x) → ∀ ty dc, (Builtin.copy_ #[22, 22] ty #[.slice (some ⟨w.heap.size, i, none⟩) (bs.length + fs.length - i) dc, .slice (some ⟨vb, 0, none⟩) fs.length vc]).run Try.prog W = .ok (goInt (u8s fs).length) (W.setCells w.heap.size i (u8s fs)) := fun W hWc hWf ty dc =>
    run_copy_cells W _ _ ty 5 w.heap.size i (bs.length + fs.length - i) dc ⟨vb, 0, none⟩ fs.length vc (u8s fs) Try.underlying22 hsz (by rw [u8s_length]; simp only [Nat.min_def]; split <;> omega)
      (fun j v hj => by
        rw [Addr.add_lit, hWc, Nat.zero_add]
        obtain ⟨h1, rfl⟩ := u8_get hj
        rw [hK1.cell (p := ⟨vb, j, none⟩) hvw (by simp)]
        exact hvs j h1)
      (fun j hj => by rw [hWc]; exact hN _ (by rw [u8s_length] at hj; omega)) (fun j hj => by rw [hWf]; exact hNf _) (u8s_one fs)
  have hGi : ¬ (G = i) := by omega
  have hGim : ¬ (G = i + fs.length) := by omega
  have hci : ¬ (cap = i) := by omega
  have hbN : g ≠ w.heap.size := by omega
  have hdl : ((u8s bs).drop i).length = bs.length - i := by simp [u8s]
  have hcpB : ∀ (W : World), (∀ x, W.cell? x = (W1.setCells w.heap.size i (u8s fs)).cell? x) → (∀ x, W.frozen? x = (W1.setCells w.heap.size i (u8s fs)).frozen? x) → ∀ ty dc sc, (Builtin.copy_ #[22, 22] ty #[.slice (some ⟨w.heap.size, i + fs.length, none⟩) (bs.length + fs.length - (i + fs.length)) dc, .slice (some ⟨g, i, none⟩) (bs.length - i) sc]).run Try.prog W = .ok (goInt ((u8s bs).drop i).length) (W.setCells w.heap.size (i + fs.length) ((u8s bs).drop i)) := fun W hWc hWf ty dc sc =>
    run_copy_cells W _ _ ty 5 w.heap.size (i + fs.length) (bs.length + fs.length - (i + fs.length)) dc ⟨g, i, none⟩ (bs.length - i) sc ((u8s bs).drop i) Try.underlying22 hsz (by rw [hdl]; simp only [Nat.min_def]; split <;> omega)
      (fun j v hj => by
        rw [Addr.add_lit, hWc, World.cell?_setCells_out _ _ _ _ _ (fun h _ => absurd h hbN)]
        obtain ⟨h1, rfl⟩ := u8_get (by rwa [List.getElem?_drop] at hj)
        rw [hK1.cell (p := ⟨g, i + j, none⟩) hbw (by simp)]
        exact hcs _ h1)
      (fun j hj => by rw [hWc]; exact isSome_setCells _ _ _ _ (fun t ht => hN _ (by rw [u8s_length] at ht; omega)) _ (hN _ (by rw [hdl] at hj; omega)))
      (fun j hj => by rw [hWf, World.frozen?_setCells]; exact hNf _) (fun v hv => u8s_one bs v (List.mem_of_mem_drop hv))
  subst hW1
  have hE1 : ∀ x, ((w.alloc (.cells ROW 5)).drew).cell? x = (w.drew.alloc (.cells ROW 5)).cell? x := fun x => rfl
  have hE2 : ∀ x, ((w.alloc (.cells ROW 5)).drew).frozen? x = (w.drew.alloc (.cells ROW 5)).frozen? x := fun x => rfl
  have hF1 : ∀ x, (((w.alloc (.cells ROW 5)).drew.setCells w.heap.size i (u8s fs)).drew).cell? x = ((w.drew.alloc (.cells ROW 5)).setCells w.heap.size i (u8s fs)).cell? x := fun x => rfl
  have hF2 : ∀ x, (((w.alloc (.cells ROW 5)).drew.setCells w.heap.size i (u8s fs)).drew).frozen? x = ((w.drew.alloc (.cells ROW 5)).setCells w.heap.size i (u8s fs)).frozen? x := fun x => rfl
  have hw1 : IntKind.i64.wrap ((i : Int) + (fs.length : Int)) = (i : Int) + (fs.length : Int) := by rw [IntKind.wrap_i64]; omega
  have hb1 : (0 : Int) ≤ (i : Int) + (fs.length : Int) := by omega
  have hin : i ≤ bs.length := by omega
  have htn : ((i : Int) + (fs.length : Int)).toNat = i + fs.length := by omega
  have hb3 : (i : Int) ≤ (bs.length : Int) := by omega
  have HRl := hide hRl
  clear hkk hik hold hROW hG hRl hB1 hN hNf hK1 hcs hvs
  go_enter Try.func54, Try.ntmps54
  go_wp2_with (first
    | (at_builtin; refine Lib.wpList_append_run _ rfl _ _ _ _ rfl _ _ rfl rfl _ _ (hrz _) ?_)
    | (at_builtin; refine wpList_copy_runI _ rfl _ _ 22 22 rfl _ _ rfl rfl (hcpA _ hE1 hE2 _ _) ?_))
  go_region_law (refine step_copy_runI rfl _ _ 22 22 rfl (.slice (some ⟨w.heap.size, i + fs.length, none⟩) (bs.length + fs.length - (i + fs.length)) (G - (i + fs.length))) (.slice (some ⟨g, i, none⟩) (bs.length - i) (cap - i)) (by simp [Act.eval, Act.put]) (by simp [Act.eval, Act.put]) (hcpB _ hF1 hF2 _ (G - (i + fs.length)) (cap - i)) ?_)
  go_wp2
  go_ret
  exact ⟨rfl, ROW, unhide HRl, unhide HRF, rfl⟩

/-- What an owned row of bytes looks like, where it is not empty. -/
theorem own_form {w : World} {v : Value} {bs : List Nat} (h : w.ownsRow 0 5 1 v bs.length (u8s bs)) (hn : 0 < bs.length) :
    ∃ g cap cur, v = .slice (some ⟨g, 0, none⟩) bs.length cap ∧ Blk w g cur 5 ∧ cur.size = cap ∧ bs.length ≤ cap ∧ cap ≤ maxLen ∧ ∀ j, j < bs.length → w.cell? ⟨g, j, none⟩ = some (.int .u8 (bs.getD j 0 : Nat)) := by
  rcases h.2 with ⟨_, h0⟩ | ⟨g, cap, cur, hv, _, hg, hc, hm, hs, _⟩
  · omega
  · refine ⟨g, cap, cur, hv, hg, by omega, hc, hm, fun j hj => ?_⟩
    rcases Sees.of_own h with ⟨h1, _⟩ | ⟨b', o', c', hv', _, _, _, hcell⟩
    · rw [hv] at h1; cases h1
    · rw [hv] at hv'; cases hv'
      simpa using hcell j hj

set_option maxHeartbeats 1000000 in
set_option maxRecDepth 100000 in
theorem ins_end {w : World} {v fv : Value} {bs fs : List Nat} (ho : w.ownsRow 0 5 1 v bs.length (u8s bs)) (hf : Sees w fv fs) (hm : 0 < fs.length) (hbig : bs.length + fs.length ≤ 140737488355328) :
    Calls Try.prog 54 #[v, .int .i64 (bs.length : Nat), fv] w fun e w' => ∃ v', e = .returned v' ∧ w'.ownsRow 0 5 1 v' (bs ++ fs).length (u8s (bs ++ fs)) ∧ Kept v.ownBlock.toList w w' ∧ (v'.ownBlock = v.ownBlock ∨ v'.ownBlock = some w.heap.size) := by
  obtain ⟨i0, hi, hz0, hz1, hz2⟩ := info_parts Try.info5
  obtain ⟨fa, fc, rfl⟩ := sees_len hf
  obtain ⟨_, hfc, hfm⟩ := hf.cap_of
  have hz3 : ¬ ((fs.length : Int) = 0) := by omega
  have HO := hide ho
  have HF := hide hf
  obtain ⟨va, vc, rfl⟩ := own_len ho
  have hvc : bs.length ≤ vc ∧ vc ≤ 9223372036854775807 := by
    have := (Sees.of_own ho).cap_of; unfold maxLen at this; omega
  obtain ⟨hv1, hv2⟩ := hvc
  have hnil : va = none → bs.length = 0 := by
    intro e; subst e
    rcases ho.2 with ⟨h1, h2⟩ | ⟨g, cap, cur, hv, _⟩
    · exact h2
    · cases hv
  clear ho hf hfm
  cases va with
  | none =>
    have h0 := hnil rfl
    have hb0 : bs = [] := List.eq_nil_of_length_eq_zero h0
    subst hb0
    clear hnil
    have hvc0 : vc = 0 := by
      rcases (unhide HO).2 with ⟨h1, h2⟩ | ⟨g, cap, cur, hv, _⟩
      · cases h1; rfl
      · cases hv
    subst hvc0
    go_enter Try.func54, Try.ntmps54
    go_wp2_with (at_builtin; refine wpList_append_sees _ rfl (.tmp 23) (.tmp 24) 22 rfl 0 5 i0 (.int .u8 0) Try.underlying22 hi hz0 hz1 hz2 rfl _ [] rfl (unhide HO) _ fs rfl (unhide HF) ?c1 (Nat.zero_le _) ?_)
    case c1 => first | omega | (simp; omega)
    intro v' w1 hown hg hat
    have HO1 := hide hown
    obtain ⟨a1, c1, hv'⟩ := own_len hown
    subst hv'
    clear hown
    go_wp2
    go_ret
    exact ⟨_, rfl, by simpa using unhide HO1, (Kept.refl _ _).grown hg (fun k hk => Or.inl (by simp [hk])), hat⟩
  | some ad =>
    obtain ⟨g, rfl⟩ : ∃ g, ad = ⟨g, 0, none⟩ := by
      rcases (unhide HO).2 with ⟨h1, h2⟩ | ⟨g, cap, cur, hv, _⟩
      · cases h1
      · cases hv; exact ⟨g, rfl⟩
    clear hnil
    by_cases hvb : vc = bs.length
    · subst hvb
      go_enter Try.func54, Try.ntmps54
      go_wp2_with (at_builtin; refine wpList_append_sees _ rfl (.tmp 23) (.tmp 24) 22 rfl 0 5 i0 (.int .u8 0) Try.underlying22 hi hz0 hz1 hz2 rfl (.slice (some ⟨g, 0, none⟩) bs.length bs.length) bs rfl (unhide HO) (.slice fa fs.length fc) fs rfl (unhide HF) (by omega) (Nat.zero_le _) ?_; intro v' w1 hown hg hat; have HO1 := hide hown; have HG := hide hg; have HA := hide hat; obtain ⟨a1, c1, hv'⟩ := own_len hown; subst hv'; clear hown hg hat)
      go_ret
      exact ⟨_, rfl, by simpa using unhide HO1, (Kept.refl _ _).grown (unhide HG) (fun k hk => Or.inl (by simp [hk])), by simpa using unhide HA⟩
    · go_enter Try.func54, Try.ntmps54
      go_wp2_with (at_builtin; refine wpList_append_sees _ rfl (.tmp 23) (.tmp 24) 22 rfl 0 5 i0 (.int .u8 0) Try.underlying22 hi hz0 hz1 hz2 rfl (.slice (some ⟨g, 0, none⟩) bs.length vc) bs rfl (unhide HO) (.slice fa fs.length fc) fs rfl (unhide HF) (by omega) (Nat.zero_le _) ?_; intro v' w1 hown hg hat; have HO1 := hide hown; have HG := hide hg; have HA := hide hat; obtain ⟨a1, c1, hv'⟩ := own_len hown; subst hv'; clear hown hg hat)
      go_ret
      exact ⟨_, rfl, by simpa using unhide HO1, (Kept.refl _ _).grown (unhide HG) (fun k hk => Or.inl (by simp [hk])), by simpa using unhide HA⟩

/-- slices.Insert of bytes in other memory. -/
theorem insert_any {w : World} {v fv : Value} {bs fs : List Nat} {i : Nat} (ho : w.ownsRow 0 5 1 v bs.length (u8s bs)) (hf : w.ownsRow 0 5 1 fv fs.length (u8s fs)) (hne : ∀ k, v.ownBlock = some k → fv.ownBlock ≠ some k)
    (hi : i ≤ bs.length) (hm : 0 < fs.length) (hbig : bs.length + fs.length ≤ 140737488355328) :
    Calls Try.prog 54 #[v, .int .i64 i, fv] w fun e w' => ∃ v', e = .returned v' ∧ w'.ownsRow 0 5 1 v' (bs.take i ++ fs ++ bs.drop i).length (u8s (bs.take i ++ fs ++ bs.drop i)) ∧ Kept v.ownBlock.toList w w' ∧ (v'.ownBlock = v.ownBlock ∨ v'.ownBlock = some w.heap.size) := by
  by_cases he : i = bs.length
  · subst he
    refine (ins_end ho (Sees.of_own hf) hm hbig).mono ?_
    rintro e w' h
    simpa using h
  · obtain ⟨g, cap, cur, rfl, hg, hsz, hnc, hcm, hcs⟩ := own_form ho (by omega)
    obtain ⟨vb, vc, fcur, rfl, hvb, _, _, _, hvs⟩ := own_form hf hm
    have hvg : vb ≠ g := fun e => hne g rfl (by rw [← e]; rfl)
    have hlen : (bs.take i ++ fs ++ bs.drop i).length = bs.length + fs.length := by simp; omega
    by_cases hroom : bs.length + fs.length ≤ cap
    · refine (ins_shift hg hvb hvg hcs hsz hvs (by omega) hm hroom (by unfold maxLen at hcm; omega)).mono ?_
      rintro e w' ⟨rfl, rfl⟩
      have hs1 : ∀ j, j < cap → (w.drew.cell? ⟨g, j, none⟩).isSome = true := fun j hj => by
        show (w.cell? _).isSome = true
        rw [hg.cell, Array.getElem?_eq_getElem (by omega)]; rfl
      have hs2 : ∀ j, j < cap → ((w.drew.setCells g (i + fs.length) ((u8s bs).drop i)).cell? ⟨g, j, none⟩).isSome = true := fun j hj =>
        isSome_setCells g _ _ _ (fun t ht => hs1 _ (by simp [u8s] at ht; omega)) _ (hs1 j hj)
      obtain ⟨c1, hb1, hz1⟩ := blk_setCells ((u8s bs).drop i) (i + fs.length) w.drew cur hg
      obtain ⟨c2, hb2, hz2⟩ := blk_setCells (u8s fs) i _ c1 hb1
      refine ⟨_, rfl, ?_, ?_, Or.inl rfl⟩
      · have := own_of_cells hb2 (bs.take i ++ fs ++ bs.drop i) cap (by omega) (by rw [hlen]; exact hroom) hcm ?_
        · rw [hlen] at this ⊢; exact this
        · intro j hj
          rw [hlen] at hj
          rw [getD_ins bs fs i j hi]
          by_cases h1 : j < i
          · rw [if_pos h1, World.cell?_setCells_out g _ _ _ _ (fun _ _ => Or.inl h1), World.cell?_setCells_out g _ _ _ _ (fun _ _ => Or.inl (by show j < i + fs.length; omega))]
            exact hcs j (by omega)
          · rw [if_neg h1]
            by_cases h2 : j < i + fs.length
            · rw [if_pos h2]
              have := World.cell?_setCells_in g (u8s fs) i _ (fun t ht => hs2 _ (by simp [u8s] at ht; omega)) (j - i) (by simp [u8s]; omega)
              rw [show i + (j - i) = j by omega] at this
              rw [this]
              simp [u8s, List.getElem?_eq_getElem (show j - i < fs.length by omega)]
            · rw [if_neg h2, World.cell?_setCells_out g _ _ _ _ (fun _ _ => Or.inr (by show i + (u8s fs).length ≤ j; rw [u8s_length]; omega))]
              have := World.cell?_setCells_in g ((u8s bs).drop i) (i + fs.length) w.drew (fun t ht => hs1 _ (by simp [u8s] at ht; omega)) (j - (i + fs.length)) (by simp [u8s]; omega)
              rw [show i + fs.length + (j - (i + fs.length)) = j by omega] at this
              rw [this]
              simp [u8s, show i + (j - (i + fs.length)) = j - fs.length by omega, List.getElem?_eq_getElem (show j - fs.length < bs.length by omega)]
      · exact kept_setCells (Or.inl (by simp [Value.ownBlock])) _ _ _ (kept_setCells (Or.inl (by simp [Value.ownBlock])) _ _ _ (Kept.refl _ w).drew)
    · refine (ins_grow hcs hnc hvs (by omega) hm (by omega) hbig).mono ?_
      rintro e w' ⟨rfl, ROW, hR1, hR2, rfl⟩
      have hGn : bs.length + fs.length ≤ grownCap w (bs.length + fs.length) cap 5 := grownCap_ge w _ _ _
      have hGm := grownCap_le_maxLen w (bs.length + fs.length) cap 5 (by unfold maxLen; omega)
      generalize grownCap w (bs.length + fs.length) cap 5 = G at *
      have hB : Blk ((w.alloc (.cells ROW 5)).drew) w.heap.size ROW 5 := Blk.new w ROW 5
      have hs1 : ∀ j, j < G → (((w.alloc (.cells ROW 5)).drew).cell? ⟨w.heap.size, j, none⟩).isSome = true := fun j hj => by
        rw [hB.cell, Array.getElem?_eq_getElem (by omega)]; rfl
      have hs2 : ∀ j, j < G → ((((w.alloc (.cells ROW 5)).drew).setCells w.heap.size i (u8s fs)).drew.cell? ⟨w.heap.size, j, none⟩).isSome = true := fun j hj =>
        isSome_setCells w.heap.size (u8s fs) i ((w.alloc (.cells ROW 5)).drew) (fun t ht => hs1 _ (by rw [u8s_length] at ht; omega)) j (hs1 j hj)
      obtain ⟨c1, hb1, hz1⟩ := blk_setCells (u8s fs) i _ ROW hB
      have hb1' : Blk ((((w.alloc (.cells ROW 5)).drew).setCells w.heap.size i (u8s fs)).drew) w.heap.size c1 5 := hb1
      obtain ⟨c2, hb2, hz2⟩ := blk_setCells ((u8s bs).drop i) (i + fs.length) _ c1 hb1'
      refine ⟨_, rfl, ?_, ?_, Or.inr rfl⟩
      · have := own_of_cells hb2 (bs.take i ++ fs ++ bs.drop i) G (by omega) (by rw [hlen]; exact hGn) hGm ?_
        · rw [hlen] at this ⊢; exact this
        · intro j hj
          rw [hlen] at hj
          rw [getD_ins bs fs i j hi]
          by_cases h1 : j < i
          · rw [if_pos h1, World.cell?_setCells_out w.heap.size _ _ _ _ (fun _ _ => Or.inl (by show j < i + fs.length; omega))]
            show (((w.alloc (.cells ROW 5)).drew).setCells w.heap.size i (u8s fs)).cell? _ = _
            rw [World.cell?_setCells_out w.heap.size _ _ _ _ (fun _ _ => Or.inl h1), hB.cell]
            exact hR2 j h1
          · rw [if_neg h1]
            by_cases h2 : j < i + fs.length
            · rw [if_pos h2, World.cell?_setCells_out w.heap.size _ _ _ _ (fun _ _ => Or.inl (by show j < i + fs.length; omega))]
              show (((w.alloc (.cells ROW 5)).drew).setCells w.heap.size i (u8s fs)).cell? _ = _
              have := World.cell?_setCells_in w.heap.size (u8s fs) i ((w.alloc (.cells ROW 5)).drew) (fun t ht => hs1 _ (by rw [u8s_length] at ht; omega)) (j - i) (by rw [u8s_length]; omega)
              rw [show i + (j - i) = j by omega] at this
              rw [this]
              simp [u8s, List.getElem?_eq_getElem (show j - i < fs.length by omega)]
            · rw [if_neg h2]
              have := World.cell?_setCells_in w.heap.size ((u8s bs).drop i) (i + fs.length) _ (fun t ht => hs2 _ (by simp [u8s] at ht; omega)) (j - (i + fs.length)) (by simp [u8s]; omega)
              rw [show i + fs.length + (j - (i + fs.length)) = j by omega] at this
              rw [this]
              simp [u8s, show i + (j - (i + fs.length)) = j - fs.length by omega, List.getElem?_eq_getElem (show j - fs.length < bs.length by omega)]
      · exact kept_setCells (Or.inr (Nat.le_refl _)) _ _ _ (kept_setCells (Or.inr (Nat.le_refl _)) _ _ _ ((Kept.refl _ w).alloc _).drew).drew
end Go.Proofs.Ytiabhgkndejigab
