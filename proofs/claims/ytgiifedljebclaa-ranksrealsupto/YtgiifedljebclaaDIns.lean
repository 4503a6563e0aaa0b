/- slices.Insert of one entry. -/
import Derived.Test.YtgiifedljebclaaDEnt
import Derived.Shelf.Spec.SlicesInsert
import Derived.Deep.RegionLaw
import Derived.Lib.AppendZerosOnto
import Derived.Maps.AppendAt
namespace Go.Proofs.Ytgiifedljebclaa.flo
open Go.RowKit

theorem Try.zE (w : World) : (Go.sizeOf 93).run Try.prog w = .ok 3 w := by kernel_rfl

set_option maxHeartbeats 1000000 in
set_option maxRecDepth 100000 in
theorem ins_shift {w : World} {g cap vb vc i L : Nat} {es : List (En Nat)} {e : En Nat} {cur fcur : Array Value} (hL : es.length = L) (hg : Blk w g cur 93) (hv : Blk w vb fcur 93) (hne : vb ≠ g)
    (hcs : ∀ j u, (flatE es)[j]? = some u → w.cell? ⟨g, j, none⟩ = some u) (hsz : cur.size = cap * 3)
    (hvs : ∀ j u, (ecells e)[j]? = some u → w.cell? ⟨vb, j, none⟩ = some u)
    (hi : i < L) (hroom : L + 1 ≤ cap) (hmx : cap ≤ 9223372036854775807) (hbig : L ≤ 1099511627776) :
    Calls Try.prog 52 #[.slice (some ⟨g, 0, none⟩) L cap, .int .i64 i, .slice (some ⟨vb, 0, none⟩) 1 vc] w fun x w' =>
      x = .returned (.slice (some ⟨g, 0, none⟩) (L + 1) cap) ∧ w' = (w.drew.setCells g ((i + 1) * 3) (flatE (es.drop i))).setCells g (i * 3) (ecells e) := by
  have hz2 : ¬ ((i : Int) = (L : Int)) := by omega
  have hov : ∀ lb cb, (callFunc 76 #[.slice (some ⟨vb, 0, none⟩) 1 vc, .slice (some ⟨g, (i + 1) * 3, none⟩) lb cb]).run Try.prog w = .ok (.value (.bool false)) w := fun lb cb => by
    rw [run_callFunc_extern Try.func76 (by kernel_rfl) (by kernel_rfl) (by kernel_rfl) (e := Extern.SlicesOverlaps.overlaps #[87, 87] #[4]) (by kernel_rfl),
      Lib.run_overlaps_apart w 87 4 93 Try.underlying87 3 Try.zE ⟨vb, 0, none⟩ ⟨g, (i + 1) * 3, none⟩ 1 vc lb cb hne 93 93 fcur.size cur.size (by unfold Blk at hv; simp [World.shape?, hv]) (by unfold Blk at hg; simp [World.shape?, hg]) (by omega) (hv.frozen _) (hv.frozen _)]
    rfl
  have hw1 : IntKind.i64.wrap ((i : Int) + 1) = (i : Int) + 1 := by rw [IntKind.wrap_i64]; omega
  have hb1 : (0 : Int) ≤ (i : Int) + 1 := by omega
  have hin : i ≤ L := by omega
  have htn : ((i : Int) + 1).toNat = i + 1 := by omega
  have hb2 : ¬ (cap = i + 1) := by omega
  have hb3 : (i : Int) ≤ (L : Int) + 1 := by omega
  have hb4 : ¬ (cap = i) := by omega
  have hdl : (flatE (es.drop i)).length = (L - i) * 3 := by rw [flatE_len, List.length_drop, hL]
  have hsome : ∀ j, j < cap * 3 → (w.cell? ⟨g, j, none⟩).isSome = true := fun j hj => by rw [hg.cell, Array.getElem?_eq_getElem (by omega)]; rfl
  have hcp1 : ∀ ty dc sc, (Builtin.copy_ #[87, 87] ty #[.slice (some ⟨g, (i + 1) * 3, none⟩) (L - i) dc, .slice (some ⟨g, i * 3, none⟩) (L + 1 - i) sc]).run Try.prog w.drew = .ok (goInt ((L - i : Nat) : Int)) (w.drew.setCells g ((i + 1) * 3) (flatE (es.drop i))) := fun ty dc sc =>
    run_copy_cellsK w.drew _ _ ty 93 3 g ((i + 1) * 3) (L - i) dc ⟨g, i * 3, none⟩ (L + 1 - i) sc (L - i) (flatE (es.drop i)) Try.underlying87 sizeE (by simp only [Nat.min_def]; split <;> omega) hdl
      (fun j v hj => by
        rw [Addr.add_lit]
        rw [← flatE_drop es i (by omega), List.getElem?_drop] at hj
        exact hcs _ _ hj)
      (fun j hj => hsome _ (by omega)) (fun j hj => hg.frozen _) (oneE _)
  obtain ⟨W1, hW1⟩ : ∃ W1, W1 = w.drew.setCells g ((i + 1) * 3) (flatE (es.drop i)) := ⟨_, rfl⟩
  have hsp1 : ∀ k, k < cap * 3 → (W1.cell? ⟨g, k, none⟩).isSome = true := fun k hk => by
    rw [hW1]
    exact isSome_setCells g (flatE (es.drop i)) ((i + 1) * 3) w.drew (fun j hj => hsome _ (by rw [hdl] at hj; omega)) k (hsome k hk)
  have h3 : (ecells e).length = 3 := rfl
  have hcp2 : ∀ (W : World), (∀ x, W.cell? x = W1.cell? x) → (∀ x, W.frozen? x = W1.frozen? x) → ∀ ty dc, (Builtin.copy_ #[87, 87] ty #[.slice (some ⟨g, i * 3, none⟩) (L + 1 - i) dc, .slice (some ⟨vb, 0, none⟩) 1 vc]).run Try.prog W = .ok (goInt 1) (W.setCells g (i * 3) (ecells e)) := fun W hWc hWf ty dc =>
    run_copy_cellsK W _ _ ty 93 3 g (i * 3) (L + 1 - i) dc ⟨vb, 0, none⟩ 1 vc 1 (ecells e) Try.underlying87 sizeE (by simp only [Nat.min_def]; split <;> omega) rfl
      (fun j v hj => by
        rw [Addr.add_lit, hWc, hW1, World.cell?_setCells_out g _ _ _ _ (fun h _ => absurd h hne), Nat.zero_add]
        exact hvs _ _ hj)
      (fun j hj => by rw [hWc]; exact hsp1 _ (by rw [h3] at hj; omega)) (fun j hj => by rw [hWf, hW1, World.frozen?_setCells]; exact hg.frozen _) (fun u hu => by simp [ecells] at hu; rcases hu with rfl | rfl | rfl <;> rfl)
  rw [← hW1] at hcp1
  clear hsome hsp1 hvs hcs hg hv hdl h3
  go_enter Try.func52, Try.ntmps52
  go_wp2_with (simp only [hov])
  go_region_law (refine step_copy_runI rfl _ _ 87 87 rfl _ _ (by simp [Act.eval, Act.put]) (by simp [Act.eval, Act.put]) (hcp1 _ _ _) ?_)
  go_wp2_with (at_builtin; refine wpList_copy_runI _ rfl _ _ 87 87 rfl _ _ rfl rfl (hcp2 _ (fun _ => rfl) (fun _ => rfl) _ _) ?_)
  go_ret
  first | exact ⟨rfl, rfl⟩ | exact ⟨rfl, by rw [hW1]⟩

set_option maxHeartbeats 1000000 in
set_option maxRecDepth 100000 in
theorem ins_grow {w : World} {g cap vb vc i L : Nat} {es : List (En Nat)} {e : En Nat} (hL : es.length = L)
    (hcs : ∀ j u, (flatE es)[j]? = some u → w.cell? ⟨g, j, none⟩ = some u) (hnc : L ≤ cap)
    (hvs : ∀ j u, (ecells e)[j]? = some u → w.cell? ⟨vb, j, none⟩ = some u)
    (hi : i < L) (hroom : cap < L + 1) (hbig : L ≤ 1099511627776) :
    Calls Try.prog 52 #[.slice (some ⟨g, 0, none⟩) L cap, .int .i64 i, .slice (some ⟨vb, 0, none⟩) 1 vc] w fun x w' =>
      x = .returned (.slice (some ⟨w.heap.size, 0, none⟩) (L + 1) (grownCap w (L + 1) cap 93)) ∧
      ∃ ROW : Array Value, ROW.size = grownCap w (L + 1) cap 93 * 3 ∧ (∀ j u, j < i * 3 → (flatE es)[j]? = some u → ROW[j]? = some u) ∧
        w' = (((w.alloc (.cells ROW 93)).drew.setCells w.heap.size (i * 3) (ecells e)).drew).setCells w.heap.size ((i + 1) * 3) (flatE (es.drop i)) := by
  obtain ⟨i0, hi0, hz0, hzs, hzb⟩ := info_parts infoE
  have hz2 : ¬ ((i : Int) = (L : Int)) := by omega
  have hz3 : (cap : Int) < (L : Int) + 1 := by omega
  have hfl : 0 < (flatE es).length := by rw [flatE_len]; omega
  have hbw : g < w.heap.size := World.block_lt_of_cell? w ⟨g, 0, none⟩ (hcs 0 _ (List.getElem?_eq_getElem hfl))
  have hvw : vb < w.heap.size := World.block_lt_of_cell? w ⟨vb, 0, none⟩ (hvs 0 _ rfl)
  have hkk : (L : Int) + 1 - (i : Int) = ((L + 1 - i : Nat) : Int) := by omega
  have hik : i + (L + 1 - i) = L + 1 := by omega
  have hold : (Builtin.firstCells i0.size i (.slice (some ⟨g, 0, none⟩) i cap)).run Try.prog w.drew = .ok ((flatE es).take (i * 3)).toArray w.drew := by
    rw [hzs]
    exact run_firstCells_some w.drew 3 i ⟨g, 0, none⟩ i cap ((flatE es).take (i * 3)) (by rw [List.length_take, flatE_len]; omega) (fun j v hj => by
      rw [Addr.add_lit, Nat.zero_add]
      rw [List.getElem?_take] at hj
      split at hj
      · exact hcs j _ hj
      · cases hj)
  have hrz : ∀ ty, (Builtin.append_ #[87, 3] ty #[.slice (some ⟨g, 0, none⟩) i cap, .int .i64 ((L : Int) + 1 - (i : Int))]).run Try.prog w =
      .ok (.slice (some ⟨w.heap.size, 0, none⟩) (L + 1) (grownCap w (L + 1) cap 93)) (w.drew.alloc (.cells (((flatE es).take (i * 3)).toArray ++ Builtin.zeroCells (Value.agg #[(.float .f64 0), .int .i64 0, .int .i64 0]).cells (L + 1 - i) ++ Builtin.zeroCells (Value.agg #[(.float .f64 0), .int .i64 0, .int .i64 0]).cells (grownCap w (L + 1) cap 93 - (L + 1))) 93)) := fun ty => by
    have h := Lib.run_append_grow_zeros w 87 3 ty 93 i0 _ .i64 .i64 Try.underlying87 Try.underlying3 hi0 hz0 (some ⟨g, 0, none⟩) i cap ((flatE es).take (i * 3)) hold (L + 1 - i) (by omega) (by omega) (by omega) (by omega) (by rw [hzb]; omega) (by rw [hzb, hik]; exact growslice_fits hroom (by omega))
    rw [hik] at h
    rw [hkk]
    exact h
  have hGn : L + 1 ≤ grownCap w (L + 1) cap 93 := grownCap_ge w _ _ _
  have hG63 : grownCap w (L + 1) cap 93 ≤ 9223372036854775807 := by
    have := grownCap_le_maxLen w (L + 1) cap 93 (by unfold maxLen; omega)
    unfold maxLen at this
    omega
  generalize hG : grownCap w (L + 1) cap 93 = G at *
  obtain ⟨ROW, hROW⟩ : ∃ ROW : Array Value, ROW = ((flatE es).take (i * 3)).toArray ++ Builtin.zeroCells (Value.agg #[(.float .f64 0), .int .i64 0, .int .i64 0]).cells (L + 1 - i) ++ Builtin.zeroCells (Value.agg #[(.float .f64 0), .int .i64 0, .int .i64 0]).cells (G - (L + 1)) := ⟨_, rfl⟩
  rw [← hROW] at hrz
  have hRl : ROW.size = G * 3 := by
    have h3 : (Value.agg #[(.float .f64 0), .int .i64 0, .int .i64 0]).cells.size = 3 := rfl
    rw [hROW, Array.size_append, Array.size_append, size_zeroCells, size_zeroCells, h3, List.size_toArray, List.length_take, flatE_len, hL]
    omega
  have hRf : ∀ j u, j < i * 3 → (flatE es)[j]? = some u → ROW[j]? = some u := by
    intro j u hj hu
    have hjl := (List.getElem?_eq_some_iff.1 hu).1
    rw [hROW, Array.append_assoc, Array.getElem?_append_left (by simp; omega)]
    simp [hj, hu]
  have HRF := hide hRf
  clear hRf
  obtain ⟨W1, hW1⟩ : ∃ W1, W1 = w.drew.alloc (.cells ROW 93) := ⟨_, rfl⟩
  rw [← hW1] at hrz
  have hB1 : Blk W1 w.heap.size ROW 93 := by rw [hW1]; exact Blk.new w.drew ROW 93
  have hN : ∀ j, j < (L + 1) * 3 → (W1.cell? ⟨w.heap.size, j, none⟩).isSome = true := fun j hj => by
    rw [hB1.cell, Array.getElem?_eq_getElem (by omega)]; rfl
  have hNf : ∀ j, W1.frozen? ⟨w.heap.size, j, none⟩ = false := fun j => hB1.frozen j
  have hK1 : Kept [] w W1 := by rw [hW1]; exact (Kept.refl [] w).drew.alloc _
  have h3 : (ecells e).length = 3 := rfl
  have hcpA : ∀ (W : World), (∀ x, W.cell? x = W1.cell? x) → (∀ x, W.frozen? x = W1.frozen? x) → ∀ ty dc, (Builtin.copy_ #[87, 87] ty #[.slice (some ⟨w.heap.size, i * 3, none⟩) (L + 1 - i) dc, .slice (some ⟨vb, 0, none⟩) 1 vc]).run Try.prog W = .ok (goInt 1) (W.setCells w.heap.size (i * 3) (ecells e)) := fun W hWc hWf ty dc =>
    run_copy_cellsK W _ _ ty 93 3 w.heap.size (i * 3) (L + 1 - i) dc ⟨vb, 0, none⟩ 1 vc 1 (ecells e) Try.underlying87 sizeE (by simp only [Nat.min_def]; split <;> omega) rfl
      (fun j v hj => by
        rw [Addr.add_lit, hWc, Nat.zero_add, hK1.cell (p := ⟨vb, j, none⟩) hvw (by simp)]
        exact hvs j _ hj)
      (fun j hj => by rw [hWc]; exact hN _ (by rw [h3] at hj; omega)) (fun j hj => by rw [hWf]; exact hNf _) (fun u hu => by simp [ecells] at hu; rcases hu with rfl | rfl | rfl <;> rfl)
  have hGi : ¬ (G = i) := by omega
  have hGim : ¬ (G = i + 1) := by omega
  have hci : ¬ (cap = i) := by omega
  have hbN : g ≠ w.heap.size := by omega
  have hdl : (flatE (es.drop i)).length = (L - i) * 3 := by rw [flatE_len, List.length_drop, hL]
  have hcpB : ∀ (W : World), (∀ x, W.cell? x = (W1.setCells w.heap.size (i * 3) (ecells e)).cell? x) → (∀ x, W.frozen? x = (W1.setCells w.heap.size (i * 3) (ecells e)).frozen? x) → ∀ ty dc sc, (Builtin.copy_ #[87, 87] ty #[.slice (some ⟨w.heap.size, (i + 1) * 3, none⟩) (L + 1 - (i + 1)) dc, .slice (some ⟨g, i * 3, none⟩) (L - i) sc]).run Try.prog W = .ok (goInt ((L - i : Nat) : Int)) (W.setCells w.heap.size ((i + 1) * 3) (flatE (es.drop i))) := fun W hWc hWf ty dc sc =>
    run_copy_cellsK W _ _ ty 93 3 w.heap.size ((i + 1) * 3) (L + 1 - (i + 1)) dc ⟨g, i * 3, none⟩ (L - i) sc (L - i) (flatE (es.drop i)) Try.underlying87 sizeE (by simp only [Nat.min_def]; split <;> omega) hdl
      (fun j v hj => by
        rw [Addr.add_lit, hWc, World.cell?_setCells_out _ _ _ _ _ (fun h _ => absurd h hbN)]
        rw [← flatE_drop es i (by omega), List.getElem?_drop] at hj
        rw [hK1.cell (p := ⟨g, i * 3 + j, none⟩) hbw (by simp)]
        exact hcs _ _ hj)
      (fun j hj => by rw [hWc]; exact isSome_setCells _ _ _ _ (fun t ht => hN _ (by rw [h3] at ht; omega)) _ (hN _ (by rw [hdl] at hj; omega)))
      (fun j hj => by rw [hWf, World.frozen?_setCells]; exact hNf _) (oneE _)
  subst hW1
  have hE1 : ∀ x, ((w.alloc (.cells ROW 93)).drew).cell? x = (w.drew.alloc (.cells ROW 93)).cell? x := fun x => rfl
  have hE2 : ∀ x, ((w.alloc (.cells ROW 93)).drew).frozen? x = (w.drew.alloc (.cells ROW 93)).frozen? x := fun x => rfl
  have hF1 : ∀ x, (((w.alloc (.cells ROW 93)).drew.setCells w.heap.size (i * 3) (ecells e)).drew).cell? x = ((w.drew.alloc (.cells ROW 93)).setCells w.heap.size (i * 3) (ecells e)).cell? x := fun x => rfl
  have hF2 : ∀ x, (((w.alloc (.cells ROW 93)).drew.setCells w.heap.size (i * 3) (ecells e)).drew).frozen? x = ((w.drew.alloc (.cells ROW 93)).setCells w.heap.size (i * 3) (ecells e)).frozen? x := fun x => rfl
  have hw1 : IntKind.i64.wrap ((i : Int) + 1) = (i : Int) + 1 := by rw [IntKind.wrap_i64]; omega
  have hb1 : (0 : Int) ≤ (i : Int) + 1 := by omega
  have hin : i ≤ L := by omega
  have htn : ((i : Int) + 1).toNat = i + 1 := by omega
  have hb3 : (i : Int) ≤ (L : Int) := by omega
  have HRl := hide hRl
  clear hkk hik hold hROW hG hRl hB1 hN hNf hK1 hcs hvs hfl h3 hdl
  go_enter Try.func52, Try.ntmps52
  go_wp2_with (first
    | (at_builtin; refine Lib.wpList_append_run _ rfl _ _ _ _ rfl _ _ rfl rfl _ _ (hrz _) ?_)
    | (at_builtin; refine wpList_copy_runI _ rfl _ _ 87 87 rfl _ _ rfl rfl (hcpA _ hE1 hE2 _ _) ?_))
  go_region_law (refine step_copy_runI rfl _ _ 87 87 rfl (.slice (some ⟨w.heap.size, (i + 1) * 3, none⟩) (L + 1 - (i + 1)) (G - (i + 1))) (.slice (some ⟨g, i * 3, none⟩) (L - i) (cap - i)) (by simp [Act.eval, Act.put]) (by simp [Act.eval, Act.put]) (hcpB _ hF1 hF2 _ (G - (i + 1)) (cap - i)) ?_)
  go_wp2
  go_ret
  exact ⟨rfl, ROW, unhide HRl, unhide HRF, rfl⟩

theorem cells_three_new (w : World) (x y z : Value) (t : TypeId) : ∀ j u, [x, y, z][j]? = some u → (w.alloc (.cells #[x, y, z] t)).cell? ((⟨w.heap.size, 0, none⟩ : Addr).add j) = some u := by
  intro j u hj
  have hadd : (⟨w.heap.size, 0, none⟩ : Addr).add j = ⟨w.heap.size, j, none⟩ := by unfold Addr.add; split <;> simp_all
  rw [hadd, (Blk.new w #[x, y, z] t).cell]
  simpa using hj

set_option maxHeartbeats 1000000 in
set_option maxRecDepth 100000 in
theorem ins_end {w : World} {v : Value} {vb vc L : Nat} {es : List (En Nat)} {e : En Nat} (hL : es.length = L) (ho : w.ownsRow 0 93 3 v L (flatE es))
    (hvs : ∀ j u, (ecells e)[j]? = some u → w.cell? ⟨vb, j, none⟩ = some u) (hbig : L ≤ 1099511627776) :
    Calls Try.prog 52 #[v, .int .i64 (L : Nat), .slice (some ⟨vb, 0, none⟩) 1 vc] w fun x w' => ∃ v', x = .returned v' ∧ w'.ownsRow 0 93 3 v' (L + 1) (flatE (es ++ [e])) ∧ Kept v.ownBlock.toList w w' ∧ (v'.ownBlock = v.ownBlock ∨ v'.ownBlock = some w.heap.size) := by
  obtain ⟨i0, hi, hz0, hz1, hz2⟩ := info_parts infoE
  have HO := hide ho
  have HV := hide hvs
  obtain ⟨va, cp, rfl⟩ := own_len ho
  have hcp : L ≤ cp := by
    rcases ho.2 with ⟨h1, h2⟩ | ⟨g, cap, cur, hv, _, _, h, _⟩
    · omega
    · cases hv; exact h
  have hcm : cp ≤ 9223372036854775807 := by
    rcases ho.2 with ⟨h1, h2⟩ | ⟨g, cap, cur, hv, _, _, _, h, _⟩
    · cases h1; omega
    · cases hv; unfold maxLen at h; omega
  have hva : va = none ∧ cp = 0 ∧ L = 0 ∨ ∃ g, va = some ⟨g, 0, none⟩ := by
    rcases ho.2 with ⟨h1, h2⟩ | ⟨g, cap, cur, hv, _⟩
    · cases h1; exact Or.inl ⟨rfl, rfl, rfl⟩
    · cases hv; exact Or.inr ⟨g, rfl⟩
  have HL := hide hL
  clear ho hvs hL
  rcases hva with ⟨rfl, rfl, rfl⟩ | ⟨g, rfl⟩
  · clear hcp hcm
    go_enter Try.func52, Try.ntmps52
    go_wp2_with (at_builtin; refine wpList_append_own_at _ rfl _ _ 87 rfl 0 93 i0 _ 3 24 Try.underlying87 hi hz0 hz1 hz2 rfl (by decide) (.slice none 0 0) 0 (flatE es) rfl (unhide HO) ⟨vb, 0, none⟩ 1 vc (ecells e) rfl rfl (fun j u hj => by rw [Addr.add_lit, Nat.zero_add]; exact unhide HV j u hj) (fun u hu => by simp [ecells] at hu; rcases hu with rfl | rfl | rfl <;> rfl) (by unfold maxLen; omega) (by omega) (Nat.zero_le _) ?_; intro v' w1 hown hgr hnil hat; have HO1 := hide hown; have HG := hide hgr; have HA := hide hat; obtain ⟨a1, c1, hv'⟩ := own_len hown; subst hv'; clear hown hgr hat hnil)
    go_ret
    exact ⟨_, rfl, by rw [flatE_app]; exact unhide HO1, (Kept.refl _ _).grown (unhide HG) (fun k hk => Or.inl (by simp [hk])), unhide HA⟩
  · by_cases hcL : cp = L
    · subst hcL
      go_enter Try.func52, Try.ntmps52
      go_wp2_with (at_builtin; refine wpList_append_own_at _ rfl _ _ 87 rfl 0 93 i0 _ 3 24 Try.underlying87 hi hz0 hz1 hz2 rfl (by decide) (.slice (some ⟨g, 0, none⟩) cp cp) cp (flatE es) rfl (unhide HO) ⟨vb, 0, none⟩ 1 vc (ecells e) rfl rfl (fun j u hj => by rw [Addr.add_lit, Nat.zero_add]; exact unhide HV j u hj) (fun u hu => by simp [ecells] at hu; rcases hu with rfl | rfl | rfl <;> rfl) (by unfold maxLen; omega) (by omega) (Nat.zero_le _) ?_; intro v' w1 hown hgr hnil hat; have HO1 := hide hown; have HG := hide hgr; have HA := hide hat; obtain ⟨a1, c1, hv'⟩ := own_len hown; subst hv'; clear hown hgr hat hnil)
      go_ret
      exact ⟨_, rfl, by rw [flatE_app]; exact unhide HO1, (Kept.refl _ _).grown (unhide HG) (fun k hk => Or.inl (by simp [hk])), unhide HA⟩
    · go_enter Try.func52, Try.ntmps52
      go_wp2_with (at_builtin; refine wpList_append_own_at _ rfl _ _ 87 rfl 0 93 i0 _ 3 24 Try.underlying87 hi hz0 hz1 hz2 rfl (by decide) (.slice (some ⟨g, 0, none⟩) L cp) L (flatE es) rfl (unhide HO) ⟨vb, 0, none⟩ 1 vc (ecells e) rfl rfl (fun j u hj => by rw [Addr.add_lit, Nat.zero_add]; exact unhide HV j u hj) (fun u hu => by simp [ecells] at hu; rcases hu with rfl | rfl | rfl <;> rfl) (by unfold maxLen; omega) (by omega) (Nat.zero_le _) ?_; intro v' w1 hown hgr hnil hat; have HO1 := hide hown; have HG := hide hgr; have HA := hide hat; obtain ⟨a1, c1, hv'⟩ := own_len hown; subst hv'; clear hown hgr hat hnil)
      go_ret
      exact ⟨_, rfl, by rw [flatE_app]; exact unhide HO1, (Kept.refl _ _).grown (unhide HG) (fun k hk => Or.inl (by simp [hk])), unhide HA⟩

theorem insE_len {α : Type} (es : List (En α)) (i : Nat) (e : En α) (hi : i ≤ es.length) : (insE es i e).length = es.length + 1 := by simp [insE]; omega
theorem flat_ins {es : List (En Nat)} {i : Nat} {e : En Nat} (hi : i ≤ es.length) : flatE (insE es i e) = (flatE es).take (i * 3) ++ ecells e ++ flatE (es.drop i) := by
  rw [flatE_take es i hi]; simp [insE, flatE]

/-- the cells behind both copies -/
theorem ins_cells {W : World} {g i : Nat} {es : List (En Nat)} {e : En Nat} (hi : i ≤ es.length)
    (h1 : ∀ j u, j < i * 3 → (flatE es)[j]? = some u → W.cell? ⟨g, j, none⟩ = some u)
    (h2 : ∀ j u, (ecells e)[j]? = some u → W.cell? ⟨g, i * 3 + j, none⟩ = some u)
    (h3 : ∀ j u, (flatE (es.drop i))[j]? = some u → W.cell? ⟨g, (i + 1) * 3 + j, none⟩ = some u) :
    ∀ j u, (flatE (insE es i e))[j]? = some u → W.cell? ⟨g, j, none⟩ = some u := by
  intro j u hj
  have hl : ((flatE es).take (i * 3)).length = i * 3 := by rw [List.length_take, flatE_len]; omega
  have hl2 : (ecells e).length = 3 := rfl
  rw [flat_ins hi, List.append_assoc, List.getElem?_append, hl] at hj
  split at hj
  · next h => rw [List.getElem?_take, if_pos h] at hj; exact h1 j u h hj
  · next h =>
    rw [List.getElem?_append, hl2] at hj
    split at hj
    · have := h2 _ _ hj
      rwa [show i * 3 + (j - i * 3) = j by omega] at this
    · have := h3 _ _ hj
      rwa [show (i + 1) * 3 + (j - i * 3 - 3) = j by omega] at this

/-- slices.Insert of one entry that lies in other memory -/
theorem insert_any {w : World} {v : Value} {vb vc i : Nat} {es : List (En Nat)} {e : En Nat} {fcur : Array Value} (ho : w.ownsRow 0 93 3 v es.length (flatE es)) (hv : Blk w vb fcur 93) (hne : v.ownBlock ≠ some vb)
    (hvs : ∀ j u, (ecells e)[j]? = some u → w.cell? ⟨vb, j, none⟩ = some u) (hi : i ≤ es.length) (hbig : es.length ≤ 1099511627776) :
    Calls Try.prog 52 #[v, .int .i64 i, .slice (some ⟨vb, 0, none⟩) 1 vc] w fun x w' => ∃ v', x = .returned v' ∧ w'.ownsRow 0 93 3 v' (es.length + 1) (flatE (insE es i e)) ∧ Kept v.ownBlock.toList w w' ∧ (v'.ownBlock = v.ownBlock ∨ v'.ownBlock = some w.heap.size) := by
  by_cases he : i = es.length
  · subst he
    refine (ins_end rfl ho hvs hbig).mono ?_
    rintro x w' h
    simpa [insE] using h
  · obtain ⟨g, cap, cur, rfl, hg, hsz, hnc, hcm, hcs⟩ := own_form ho (by omega)
    have hvg : vb ≠ g := fun e => hne (by rw [e]; rfl)
    have hlen := insE_len es i e hi
    have hdl : (flatE (es.drop i)).length = (es.length - i) * 3 := by rw [flatE_len, List.length_drop]
    have h3l : (ecells e).length = 3 := rfl
    have hm63 : cap ≤ 9223372036854775807 := by unfold maxLen at hcm; omega
    by_cases hroom : es.length + 1 ≤ cap
    · refine (ins_shift rfl hg hv hvg hcs hsz hvs (by omega) hroom hm63 hbig).mono ?_
      rintro x w' ⟨rfl, rfl⟩
      have hs1 : ∀ j, j < cap * 3 → (w.drew.cell? ⟨g, j, none⟩).isSome = true := fun j hj => by
        show (w.cell? _).isSome = true
        rw [hg.cell, Array.getElem?_eq_getElem (by omega)]; rfl
      have hs2 : ∀ j, j < cap * 3 → ((w.drew.setCells g ((i + 1) * 3) (flatE (es.drop i))).cell? ⟨g, j, none⟩).isSome = true := fun j hj =>
        isSome_setCells g _ _ _ (fun t ht => hs1 _ (by rw [hdl] at ht; omega)) _ (hs1 j hj)
      obtain ⟨c1, hb1, hz1⟩ := blk_setCells (flatE (es.drop i)) ((i + 1) * 3) w.drew cur hg
      obtain ⟨c2, hb2, hz2⟩ := blk_setCells (ecells e) (i * 3) _ c1 hb1
      refine ⟨_, rfl, ?_, ?_, Or.inl rfl⟩
      · have := own_of_cells hb2 (insE es i e) cap (by omega) (by omega) hcm (ins_cells hi ?_ ?_ ?_)
        · rwa [hlen] at this
        · intro j u hj hu
          rw [World.cell?_setCells_out g _ _ _ _ (fun _ _ => Or.inl hj), World.cell?_setCells_out g _ _ _ _ (fun _ _ => Or.inl (by show j < (i + 1) * 3; omega))]
          exact hcs j u hu
        · intro j u hu
          obtain ⟨hj, rfl⟩ := List.getElem?_eq_some_iff.1 hu
          exact World.cell?_setCells_in g (ecells e) (i * 3) _ (fun t ht => hs2 _ (by omega)) j hj
        · intro j u hu
          obtain ⟨hj, rfl⟩ := List.getElem?_eq_some_iff.1 hu
          rw [World.cell?_setCells_out g _ _ _ _ (fun _ _ => Or.inr (by show i * 3 + (ecells e).length ≤ (i + 1) * 3 + j; omega))]
          exact World.cell?_setCells_in g (flatE (es.drop i)) ((i + 1) * 3) w.drew (fun t ht => hs1 _ (by omega)) j hj
      · exact kept_setCells (Or.inl (by simp [Value.ownBlock])) _ _ _ (kept_setCells (Or.inl (by simp [Value.ownBlock])) _ _ _ (Kept.refl _ w).drew)
    · refine (ins_grow rfl hcs hnc hvs (by omega) (by omega) hbig).mono ?_
      rintro x w' ⟨rfl, ROW, hR1, hR2, rfl⟩
      have hGn : es.length + 1 ≤ grownCap w (es.length + 1) cap 93 := grownCap_ge w _ _ _
      have hGm := grownCap_le_maxLen w (es.length + 1) cap 93 (by unfold maxLen; omega)
      generalize grownCap w (es.length + 1) cap 93 = G at *
      have hB : Blk ((w.alloc (.cells ROW 93)).drew) w.heap.size ROW 93 := Blk.new w ROW 93
      have hs1 : ∀ j, j < G * 3 → (((w.alloc (.cells ROW 93)).drew).cell? ⟨w.heap.size, j, none⟩).isSome = true := fun j hj => by
        rw [hB.cell, Array.getElem?_eq_getElem (by omega)]; rfl
      have hs2 : ∀ j, j < G * 3 → ((((w.alloc (.cells ROW 93)).drew).setCells w.heap.size (i * 3) (ecells e)).drew.cell? ⟨w.heap.size, j, none⟩).isSome = true := fun j hj =>
        isSome_setCells w.heap.size (ecells e) (i * 3) ((w.alloc (.cells ROW 93)).drew) (fun t ht => hs1 _ (by omega)) j (hs1 j hj)
      obtain ⟨c1, hb1, hz1⟩ := blk_setCells (ecells e) (i * 3) _ ROW hB
      have hb1' : Blk ((((w.alloc (.cells ROW 93)).drew).setCells w.heap.size (i * 3) (ecells e)).drew) w.heap.size c1 93 := hb1
      obtain ⟨c2, hb2, hz2⟩ := blk_setCells (flatE (es.drop i)) ((i + 1) * 3) _ c1 hb1'
      refine ⟨_, rfl, ?_, ?_, Or.inr rfl⟩
      · have := own_of_cells hb2 (insE es i e) G (by omega) (by omega) hGm (ins_cells hi ?_ ?_ ?_)
        · rwa [hlen] at this
        · intro j u hj hu
          rw [World.cell?_setCells_out w.heap.size _ _ _ _ (fun _ _ => Or.inl (by show j < (i + 1) * 3; omega))]
          show (((w.alloc (.cells ROW 93)).drew).setCells w.heap.size (i * 3) (ecells e)).cell? _ = _
          rw [World.cell?_setCells_out w.heap.size _ _ _ _ (fun _ _ => Or.inl hj), hB.cell]
          exact hR2 j u hj hu
        · intro j u hu
          obtain ⟨hj, rfl⟩ := List.getElem?_eq_some_iff.1 hu
          rw [World.cell?_setCells_out w.heap.size _ _ _ _ (fun _ _ => Or.inl (by show i * 3 + j < (i + 1) * 3; omega))]
          exact World.cell?_setCells_in w.heap.size (ecells e) (i * 3) ((w.alloc (.cells ROW 93)).drew) (fun t ht => hs1 _ (by omega)) j hj
        · intro j u hu
          obtain ⟨hj, rfl⟩ := List.getElem?_eq_some_iff.1 hu
          exact World.cell?_setCells_in w.heap.size (flatE (es.drop i)) ((i + 1) * 3) _ (fun t ht => hs2 _ (by omega)) j hj
      · exact kept_setCells (Or.inr (Nat.le_refl _)) _ _ _ (kept_setCells (Or.inr (Nat.le_refl _)) _ _ _ ((Kept.refl _ w).alloc _).drew).drew
end Go.Proofs.Ytgiifedljebclaa.flo
