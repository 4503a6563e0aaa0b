/- slices.Insert at []byte, of a slice that is owned, of bytes in other memory. -/
import Derived.Test.YtiabhgkndejigabWfail
import Derived.Shelf.Spec.SlicesInsert
import Derived.Deep.RegionLaw
import Derived.Lib.AppendZerosOnto
namespace Go.Proofs.Ytiabhgkndejigab
open Go.RowKit

theorem blk_setCells {b : Nat} {t : TypeId} : ∀ (vs : List Value) (o : Nat) (w : World) (cur : Array Value), Blk w b cur t → ∃ cur', Blk (w.setCells b o vs) b cur' t ∧ cur'.size = cur.size
  | [], _, _, cur, h => ⟨cur, h, rfl⟩
  | v :: r, o, w, cur, h => by
    obtain ⟨c', h1, h2⟩ := blk_setCells r (o + 1) (w.setCell ⟨b, o, none⟩ v) _ (h.set o v)
    exact ⟨c', h1, by rw [h2]; simp⟩

theorem kept_setCells {F : List Nat} {a : World} {b : Nat} (hb : b ∈ F ∨ a.heap.size ≤ b) : ∀ (vs : List Value) (o : Nat) (w : World), Kept F a w → Kept F a (w.setCells b o vs)
  | [], _, _, h => h
  | v :: r, o, _, h => kept_setCells hb r (o + 1) _ (h.setCell (p := ⟨b, o, none⟩) hb v)

/-- A block whose first cells are known cell by cell owns them. -/
theorem own_of_cells {w : World} {g : Nat} {cur : Array Value} (hb : Blk w g cur 5) (bs : List Nat) (cap : Nat) (hs : cur.size = cap) (hn : bs.length ≤ cap) (hm : cap ≤ maxLen)
    (hc : ∀ j, j < bs.length → w.cell? ⟨g, j, none⟩ = some (.int .u8 (bs.getD j 0 : Nat))) :
    w.ownsRow 0 5 1 (.slice (some ⟨g, 0, none⟩) bs.length cap) bs.length (u8s bs) := by
  refine ⟨by simp [u8s], Or.inr ⟨g, cap, cur, rfl, Nat.zero_le _, hb, hn, hm, by omega, ?_⟩⟩
  apply List.ext_getElem?
  intro j
  by_cases hj : j < bs.length
  · have := hc j hj
    rw [hb.cell] at this
    rw [List.getElem?_take, if_pos (by omega), Array.getElem?_toList, this]
    simp [u8s, List.getElem?_eq_getElem hj]
  · rw [List.getElem?_eq_none (by simp; omega), List.getElem?_eq_none (by simp [u8s]; omega)]

theorem getD_ins (bs fs : List Nat) (i j : Nat) (hi : i ≤ bs.length) :
    (bs.take i ++ fs ++ bs.drop i).getD j 0 = if j < i then bs.getD j 0 else if j < i + fs.length then fs.getD (j - i) 0 else bs.getD (j - fs.length) 0 := by
  simp only [List.getD, List.append_assoc, List.getElem?_append, List.length_take, List.getElem?_take, List.getElem?_drop]
  rw [Nat.min_eq_left hi]
  by_cases h1 : j < i
  · simp [h1]
  · by_cases h2 : j < i + fs.length
    · simp [h1, h2, show j - i < fs.length by omega]
    · simp [h1, h2, show ¬ j - i < fs.length by omega, show i + (j - i - fs.length) = j - fs.length by omega]

theorem u8_get {bs : List Nat} {j : Nat} {v : Value} (h : (u8s bs)[j]? = some v) : j < bs.length ∧ v = .int .u8 (bs.getD j 0 : Nat) := by
  have hj : j < bs.length := by have := (List.getElem?_eq_some_iff.1 h).1; simpa [u8s] using this
  refine ⟨hj, ?_⟩
  simp [u8s, List.getElem?_eq_getElem hj] at h
  rw [← h]; simp [List.getElem?_eq_getElem hj]

theorem Try.z5 (w : World) : (Go.sizeOf 5).run Try.prog w = .ok 1 w := by kernel_rfl

set_option maxHeartbeats 1000000 in
set_option maxRecDepth 100000 in
theorem ins_shift {w : World} {g cap vb vc i : Nat} {bs fs : List Nat} {cur fcur : Array Value} (hg : Blk w g cur 5) (hv : Blk w vb fcur 5) (hne : vb ≠ g)
    (hcs : ∀ j, j < bs.length → w.cell? ⟨g, j, none⟩ = some (.int .u8 (bs.getD j 0 : Nat))) (hsz : cur.size = cap)
    (hvs : ∀ j, j < fs.length → w.cell? ⟨vb, j, none⟩ = some (.int .u8 (fs.getD j 0 : Nat)))
    (hi : i < bs.length) (hm : 0 < fs.length) (hroom : bs.length + fs.length ≤ cap) (hmx : cap ≤ 9223372036854775807) :
    Calls Try.prog 54 #[.slice (some ⟨g, 0, none⟩) bs.length cap, .int .i64 i, .slice (some ⟨vb, 0, none⟩) fs.length vc] w fun e w' =>
      e = .returned (.slice (some ⟨g, 0, none⟩) (bs.length + fs.length) cap) ∧ w' = (w.drew.setCells g (i + fs.length) ((u8s bs).drop i)).setCells g i (u8s fs) := by
  have hz1 : ¬ ((fs.length : Int) = 0) := by omega
  have hz2 : ¬ ((i : Int) = (bs.length : Int)) := by omega
  have hsz1 : (Try.prog.info? 5).map (·.size) = some 1 := by
    obtain ⟨i0, hi0, h0, h1, h2⟩ := info_parts Try.info5
    rw [hi0]; simp [h1]
  have hov : ∀ lb cb, (callFunc 77 #[.slice (some ⟨vb, 0, none⟩) fs.length vc, .slice (some ⟨g, i + fs.length, none⟩) lb cb]).run Try.prog w = .ok (.value (.bool false)) w := fun lb cb => by
    rw [run_callFunc_extern Try.func77 (by kernel_rfl) (by kernel_rfl) (by kernel_rfl) (e := Extern.SlicesOverlaps.overlaps #[22, 22] #[4]) (by kernel_rfl),
      Lib.run_overlaps_apart w 22 4 5 Try.underlying22 1 Try.z5 ⟨vb, 0, none⟩ ⟨g, i + fs.length, none⟩ fs.length vc lb cb hne 5 5 fcur.size cur.size (by unfold Blk at hv; simp [World.shape?, hv]) (by unfold Blk at hg; simp [World.shape?, hg]) (by omega) (hv.frozen _) (hv.frozen _)]
    rfl
  have hdl : ((u8s bs).drop i).length = bs.length - i := by simp [u8s]
  have hw1 : IntKind.i64.wrap ((i : Int) + (fs.length : Int)) = (i : Int) + (fs.length : Int) := by rw [IntKind.wrap_i64]; omega
  have hb1 : (0 : Int) ≤ (i : Int) + (fs.length : Int) := by omega
  have hin : i ≤ bs.length := by omega
  have htn : ((i : Int) + (fs.length : Int)).toNat = i + fs.length := by omega
  have hb2 : ¬ (cap = i + fs.length) := by omega
  have hb3 : (i : Int) ≤ (bs.length : Int) + (fs.length : Int) := by omega
  have hb4 : ¬ (cap = i) := by omega
  have hsome : ∀ j, j < cap → (w.cell? ⟨g, j, none⟩).isSome = true := fun j hj => by rw [hg.cell, Array.getElem?_eq_getElem (by omega)]; rfl
  have hcp1 : ∀ ty dc sc, (Builtin.copy_ #[22, 22] ty #[.slice (some ⟨g, i + fs.length, none⟩) (bs.length + fs.length - (i + fs.length)) dc, .slice (some ⟨g, i, none⟩) (bs.length + fs.length - i) sc]).run Try.prog w.drew = .ok (goInt ((u8s bs).drop i).length) (w.drew.setCells g (i + fs.length) ((u8s bs).drop i)) := fun ty dc sc =>
    run_copy_cells w.drew _ _ ty 5 g (i + fs.length) (bs.length + fs.length - (i + fs.length)) dc ⟨g, i, none⟩ (bs.length + fs.length - i) sc ((u8s bs).drop i) Try.underlying22 hsz1 (by rw [hdl]; simp only [Nat.min_def]; split <;> omega)
      (fun j v hj => by
        rw [Addr.add_lit]
        obtain ⟨h1, rfl⟩ := u8_get (by rwa [List.getElem?_drop] at hj)
        exact hcs _ h1)
      (fun j hj => hsome _ (by omega)) (fun j hj => hg.frozen _) (fun v hv => u8s_one bs v (List.mem_of_mem_drop hv))
  obtain ⟨W1, hW1⟩ : ∃ W1, W1 = w.drew.setCells g (i + fs.length) ((u8s bs).drop i) := ⟨_, rfl⟩
  have hsp1 : ∀ k, k < cap → (W1.cell? ⟨g, k, none⟩).isSome = true := fun k hk => by
    rw [hW1]
    exact isSome_setCells g ((u8s bs).drop i) (i + fs.length) w.drew (fun j hj => hsome _ (by rw [hdl] at hj; omega)) k (hsome k hk)
  have hcp2 : ∀ (W : World), (∀ x, W.cell? x = W1.cell? x) → (∀ x, W.frozen? x = W1.frozen? x) → ∀ ty dc, (Builtin.copy_ #[22, 22] ty #[.slice (some ⟨g, i, none⟩) (bs.length + fs.length - i) dc, .slice (some ⟨vb, 0, none⟩) fs.length vc]).run Try.prog W = .ok (goInt (u8s fs).length) (W.setCells g i (u8s fs)) := fun W hWc hWf ty dc =>
    run_copy_cells W _ _ ty 5 g i (bs.length + fs.length - i) dc ⟨vb, 0, none⟩ fs.length vc (u8s fs) Try.underlying22 hsz1 (by rw [u8s_length]; simp only [Nat.min_def]; split <;> omega)
      (fun j v hj => by
        rw [Addr.add_lit, hWc, hW1, World.cell?_setCells_out g _ _ _ _ (fun h _ => absurd h hne)]
        obtain ⟨h1, rfl⟩ := u8_get hj
        rw [Nat.zero_add]
        exact hvs _ h1)
      (fun j hj => by rw [hWc]; exact hsp1 _ (by rw [u8s_length] at hj; omega)) (fun j hj => by rw [hWf, hW1, World.frozen?_setCells]; exact hg.frozen _) (u8s_one fs)
  rw [← hW1] at hcp1
  clear hsome hsp1 hvs hcs hg hv
  go_enter Try.func54, Try.ntmps54
  go_wp2_with (simp only [hov])
  go_region_law (refine step_copy_runI rfl _ _ 22 22 rfl _ _ (by simp [Act.eval, Act.put]) (by simp [Act.eval, Act.put]) (hcp1 _ _ _) ?_)
  go_wp2_with (at_builtin; refine wpList_copy_runI _ rfl _ _ 22 22 rfl _ _ rfl rfl (hcp2 _ (fun _ => rfl) (fun _ => rfl) _ _) ?_)
  go_ret
  first | exact ⟨rfl, rfl⟩ | exact ⟨rfl, by rw [hW1]⟩
end Go.Proofs.Ytiabhgkndejigab
