/- The calls of a bag that change it. -/
import Derived.Test.YtcohdkemfkiekaaUConvZ
import Derived.Deep.RegionWith
namespace Go.Proofs.Ytcohdkemfkiekaa
open Go.RowKit Go.Maps
set_option linter.unusedSimpArgs false

def Bg.sum (g : Bg) : Int := g.sent + g.twice + g.deliv + g.drop + g.lost
/-- A message that may be. -/
structure Ms.ok (m : Ms) : Prop where
  byt : ∀ x ∈ m.dat, x < 256
  len : m.dat.length ≤ 524288
  frm : 0 ≤ m.frm ∧ m.frm ≤ 9223372036854775807
  dst : 0 ≤ m.dst ∧ m.dst ≤ 9223372036854775807
def Bg.gone (g : Bg) (n : Int) : Nat → Bg
  | 3 => { g with row := without g.row n, deliv := g.deliv + 1 }
  | _ => { g with row := without g.row n, drop := g.drop + 1 }
def Bg.put (g : Bg) (m : Ms) : Nat → Bg
  | 1 => { g with row := g.row ++ [(g.next, m)], sent := g.sent + 1 }
  | _ => { g with row := g.row ++ [(g.next, m)], twice := g.twice + 1 }
def Bg.loses (g : Bg) : Bg := { g with lost := g.lost + 1 }
theorem Bg.ok.gone {g : Bg} (h : g.ok) (hs : g.sum < 4611686018427387904) (n : Int) (k : Nat) : (g.gone n k).ok := by
  obtain ⟨p1, p2, p3, p4, p5⟩ := h.pos
  unfold Bg.sum at hs
  have hl : (without g.row n).length ≤ 65536 := Nat.le_trans (List.length_filter_le _ _) h.room
  unfold Bg.gone
  split
  · exact ⟨without_rises h.rises n, fun p hp => h.low p (without_mem.1 hp).1, hl, ⟨p1, p2, by show 0 ≤ g.deliv + 1; omega, p4, p5⟩, by show g.sent + g.twice + (g.deliv + 1) + g.drop + g.lost ≤ _; omega, fun p hp => h.byt p (without_mem.1 hp).1, fun p hp => h.num p (without_mem.1 hp).1⟩
  · exact ⟨without_rises h.rises n, fun p hp => h.low p (without_mem.1 hp).1, hl, ⟨p1, p2, p3, by show 0 ≤ g.drop + 1; omega, p5⟩, by show g.sent + g.twice + g.deliv + (g.drop + 1) + g.lost ≤ _; omega, fun p hp => h.byt p (without_mem.1 hp).1, fun p hp => h.num p (without_mem.1 hp).1⟩
theorem Bg.ok.loses {g : Bg} (h : g.ok) (hs : g.sum < 4611686018427387904) : g.loses.ok := by
  obtain ⟨p1, p2, p3, p4, p5⟩ := h.pos
  unfold Bg.sum at hs
  exact ⟨h.rises, h.low, h.room, ⟨p1, p2, p3, p4, by show 0 ≤ g.lost + 1; omega⟩, by show g.sent + g.twice + g.deliv + g.drop + (g.lost + 1) ≤ _; omega, h.byt, h.num⟩
theorem put_row {g : Bg} (h : g.ok) (m : Ms) : Rises (g.row ++ [(g.next, m)]) ∧ ∀ p ∈ g.row ++ [(g.next, m)], 0 ≤ p.1 ∧ p.1 < g.next + 1 := by
  have hn := h.wrap.2.1
  constructor
  · refine List.pairwise_append.2 ⟨h.rises, by simp, fun p hp q hq => ?_⟩
    simp at hq
    subst hq
    exact (h.low p hp).2
  · intro p hp
    rcases List.mem_append.1 hp with hp | hp
    · have := h.low p hp; omega
    · simp at hp; subst hp; exact ⟨hn, by show g.next < g.next + 1; omega⟩
theorem Bg.ok.put {g : Bg} (h : g.ok) (hs : g.sum < 4611686018427387904) {m : Ms} (hm : m.ok) (hr : g.row.length < 65536) (k : Nat) : (g.put m k).ok := by
  obtain ⟨p1, p2, p3, p4, p5⟩ := h.pos
  unfold Bg.sum at hs
  obtain ⟨r1, r2⟩ := put_row h m
  have hb : ∀ p ∈ g.row ++ [(g.next, m)], (∀ x ∈ p.2.dat, x < 256) ∧ p.2.dat.length ≤ 524288 := fun p hp => by
    rcases List.mem_append.1 hp with hp | hp
    · exact h.byt p hp
    · simp at hp; subst hp; exact ⟨hm.byt, hm.len⟩
  have hn : ∀ p ∈ g.row ++ [(g.next, m)], (0 ≤ p.2.frm ∧ p.2.frm ≤ 9223372036854775807) ∧ (0 ≤ p.2.dst ∧ p.2.dst ≤ 9223372036854775807) := fun p hp => by
    rcases List.mem_append.1 hp with hp | hp
    · exact h.num p hp
    · simp at hp; subst hp; exact ⟨hm.frm, hm.dst⟩
  unfold Bg.put
  split
  · refine ⟨r1, fun p hp => ?_, by simp; omega, ⟨by show 0 ≤ g.sent + 1; omega, p2, p3, p4, p5⟩, by show (g.sent + 1) + g.twice + g.deliv + g.drop + g.lost ≤ _; omega, hb, hn⟩
    have h1 := r2 p hp
    have h2 : Bg.next { g with row := g.row ++ [(g.next, m)], sent := g.sent + 1 } = g.next + 1 := by unfold Bg.next; show g.sent + 1 + g.twice = g.sent + g.twice + 1; omega
    rw [h2]
    exact h1
  · refine ⟨r1, fun p hp => ?_, by simp; omega, ⟨p1, by show 0 ≤ g.twice + 1; omega, p3, p4, p5⟩, by show g.sent + (g.twice + 1) + g.deliv + g.drop + g.lost ≤ _; omega, hb, hn⟩
    have h1 := r2 p hp
    have h2 : Bg.next { g with row := g.row ++ [(g.next, m)], twice := g.twice + 1 } = g.next + 1 := by unfold Bg.next; show g.sent + (g.twice + 1) = g.sent + g.twice + 1; omega
    rw [h2]
    exact h1
theorem mnil_yes (w : World) : (binOp .eql 65 (.map none) (.map none)).run Try.prog w = .ok (.bool true) w := by kernel_rfl
theorem mnil_no (m : Nat) (w : World) : (binOp .eql 65 (.map (some m)) (.map none)).run Try.prog w = .ok (.bool false) w := by kernel_rfl
/-- The data of a letter: a block of its own, from base on. -/
def DatP (w : World) (base : Nat) (v : Value) (bs : List Nat) : Prop := ∃ g cap cur, v = .slice (some ⟨g, 0, none⟩) bs.length cap ∧ base ≤ g ∧ bs.length ≤ cap ∧ cap ≤ maxLen ∧ w.heap[g]? = some (.cells cur 5 (cap, cap + 1)) ∧ cur.size = cap ∧ cur.toList.take bs.length = u8s bs
theorem DatP.kept {w w' : World} {base : Nat} {v : Value} {bs : List Nat} {F : List Nat} (h : DatP w base v bs) (k : Kept F w w') (hF : ∀ x, v.ownBlock = some x → x ∉ F) : DatP w' base v bs := by
  obtain ⟨g, cap, cur, rfl, h1, h2, h3, h4, h5, h6⟩ := h
  have hlt : g < w.heap.size := (Array.getElem?_eq_some_iff.1 h4).1
  exact ⟨g, cap, cur, rfl, h1, h2, h3, (k.block g hlt (hF g rfl)).trans h4, h5, h6⟩
theorem DatP.own {w : World} {base : Nat} {v : Value} {bs : List Nat} (h : DatP w base v bs) : ∃ x, v.ownBlock = some x ∧ base ≤ x ∧ x < w.heap.size := by
  obtain ⟨g, cap, cur, rfl, h1, h2, h3, h4, h5, h6⟩ := h
  exact ⟨g, rfl, h1, (Array.getElem?_eq_some_iff.1 h4).1⟩
theorem DatP.down {w : World} {base base' : Nat} {v : Value} {bs : List Nat} (h : DatP w base v bs) (hb : base' ≤ base) : DatP w base' v bs := by
  obtain ⟨g, cap, cur, rfl, h1, r⟩ := h
  exact ⟨g, cap, cur, rfl, Nat.le_trans hb h1, r⟩
theorem cell_of_take {cur : Array Value} {l : List Value} {n j : Nat} (h : cur.toList.take n = l) (hj : j < l.length) : cur[j]? = l[j]? := by
  subst h
  rw [List.getElem?_take, if_pos (by simp at hj; omega)]
  simp
theorem DatP.sees {w : World} {base : Nat} {v : Value} {bs : List Nat} (h : DatP w base v bs) (hb : ∀ x ∈ bs, x < 256) : Sees w v bs := by
  obtain ⟨g, cap, cur, rfl, h1, h2, h3, h4, h5, h6⟩ := h
  refine ⟨_, cap, rfl, h2, h3, hb, Or.inr ⟨g, 0, rfl, (Array.getElem?_eq_some_iff.1 h4).1, fun j hj => ?_⟩⟩
  rw [Nat.zero_add]
  unfold World.cell?
  simp only [h4]
  rw [cell_of_take h6 (by rw [u8s_length]; exact hj), u8s_at bs hj]
  rfl
theorem conv_dat (w : World) (bs : List Nat) (hb : ∀ x ∈ bs, x < 256) (hl : bs.length ≤ 524288) : DatP (Lib.bytesWorld w 5 (strB bs)) w.heap.size (.slice (some ⟨w.heap.size, 0, none⟩) (strB bs).size (grownCap w (strB bs).size 0 5)) bs := by
  have hsz : (strB bs).size = bs.length := strB_size bs
  have hge := grownCap_ge w (strB bs).size 0 5
  have hle := grownCap_le_maxLen w (strB bs).size 0 5 (by unfold maxLen; omega)
  have hcs : (Lib.bytesCells w 5 (strB bs)).size = grownCap w (strB bs).size 0 5 := by
    unfold Lib.bytesCells
    rw [Array.size_append, Array.size_map, Array.size_replicate]
    show (strB bs).size + _ = _
    omega
  refine ⟨w.heap.size, grownCap w (strB bs).size 0 5, Lib.bytesCells w 5 (strB bs), by rw [hsz], Nat.le_refl _, by omega, hle, ?_, hcs, ?_⟩
  · have := Lib.bytesWorld_at_new w 5 (strB bs)
    rw [hcs] at this
    exact this
  · unfold Lib.bytesCells
    rw [Array.toList_append, Array.toList_map, strB_list, List.take_append_of_le_length (by simp), List.take_of_length_le (by simp), List.map_map]
    unfold u8s
    apply List.map_congr_left
    intro x hx
    have := hb x hx
    simp [Nat.mod_eq_of_lt this]
theorem Kept.from' {F : List Nat} {a b c : World} (h : Kept F b c) (k : Kept [] a b) : Kept F a c := (k.mono (by simp)).trans h (fun x hx => Or.inl hx)
/-- A letter of its own: its data new since w. -/
def LtrP (w : World) (n : Int) (m : Ms) (v : Value) (w' : World) : Prop := ∃ sl, v = .agg #[.int .i64 n, .int .i64 m.frm, .int .i64 m.dst, sl] ∧ DatP w' w.heap.size sl m.dat
set_option maxRecDepth 100000 in
set_option maxHeartbeats 800000 in
theorem remove_3 {w : World} {b : Nat} {F : List Nat} {g : Bg} (h : Bk w b F g) (hs : g.sum < 4611686018427387904) {n : Int} {m : Ms} (hl : look g.row n = some m) (h1 : -9223372036854775808 ≤ n) (h2 : n ≤ 9223372036854775807) : Calls Try.prog 46 #[.pointer (some ⟨b, 0, none⟩), .int .i64 n, .pointer (some ⟨b, 3, none⟩)] w fun e w' => e = .returned (.tuple #[]) ∧ Bk w' b F (g.gone n 3) ∧ Kept F w w' := by
  have HG := hide (h.1.gone hs n 3)
  have HW := hide (h.1.wrap1 g.deliv (by simp)).1
  obtain ⟨ho, mv, hb, hm⟩ := h
  rcases hm with ⟨_, hr, _⟩ | ⟨mm, rfl, rfl, hne, hown⟩
  · rw [hr] at hl; cases hl
  · obtain ⟨c0, c1, c2, c3, c4, c5⟩ := bag_cells hb
    have HB := hide hb
    have HO := hide hown
    have hw := unhide HW
    clear hb hown ho hl
    go_enter Try.func46, Try.ntmps46
    go_upto_region 1 with (at_delete; refine wpList_delete_own _ rfl _ _ 65 3 rfl 77 keyedI Try.underlying65 RM mm g.row.length (Dof g.row) rfl (unhide HO) _ _ rfl (keyI h1 h2) ?_; intro w1 hown1 hturn1)
    refine world_at (R := fun X => X.ownsMap Try.prog 3 RM mm g.row.length ((Dof g.row).del (.int .i64 n)) ∧ Kept [mm] w X) ⟨hown1, Kept.of_turned hturn1⟩ ?_
    clear hown1 hturn1 c0 c1 c2 c3 c4 c5
    rintro X ⟨hx, hk⟩
    rw [Dof_del] at hx
    have hb2 := (unhide HB).kept hk (by simp; exact fun e => hne e.symm)
    obtain ⟨c0, c1, c2, c3, c4, c5⟩ := bag_cells hb2
    have f3 := hb2.frozen 3
    have HB2 := hide hb2
    have HX := hide hx
    have HK := hide hk
    clear hb2 hx hk HB HO
    go_wp2_with fail
    refine bodyPost_end (results_none rfl _ _ _) rfl ?_
    have q : Kept [b] X (X.setCell ⟨b, 3, none⟩ (.int .i64 (g.deliv + 1))) := (Kept.refl [b] X).setCell (Or.inl (by simp)) _
    exact ⟨rfl, ⟨unhide HG, .map (some mm), (unhide HB2).set 3 (.int .i64 (g.deliv + 1)), Or.inr ⟨mm, rfl, rfl, hne, map_size (map_kept q (by simp; exact hne) (unhide HX))⟩⟩, ((unhide HK).mono (fun x hx => by simp at hx; simp [hx])).trans q (fun x hx => by simp at hx; simp [hx])⟩
set_option maxRecDepth 100000 in
set_option maxHeartbeats 800000 in
theorem remove_4 {w : World} {b : Nat} {F : List Nat} {g : Bg} (h : Bk w b F g) (hs : g.sum < 4611686018427387904) {n : Int} {m : Ms} (hl : look g.row n = some m) (h1 : -9223372036854775808 ≤ n) (h2 : n ≤ 9223372036854775807) : Calls Try.prog 46 #[.pointer (some ⟨b, 0, none⟩), .int .i64 n, .pointer (some ⟨b, 4, none⟩)] w fun e w' => e = .returned (.tuple #[]) ∧ Bk w' b F (g.gone n 4) ∧ Kept F w w' := by
  have HG := hide (h.1.gone hs n 4)
  have HW := hide (h.1.wrap1 g.drop (by simp)).1
  obtain ⟨ho, mv, hb, hm⟩ := h
  rcases hm with ⟨_, hr, _⟩ | ⟨mm, rfl, rfl, hne, hown⟩
  · rw [hr] at hl; cases hl
  · obtain ⟨c0, c1, c2, c3, c4, c5⟩ := bag_cells hb
    have HB := hide hb
    have HO := hide hown
    have hw := unhide HW
    clear hb hown ho hl
    go_enter Try.func46, Try.ntmps46
    go_upto_region 1 with (at_delete; refine wpList_delete_own _ rfl _ _ 65 3 rfl 77 keyedI Try.underlying65 RM mm g.row.length (Dof g.row) rfl (unhide HO) _ _ rfl (keyI h1 h2) ?_; intro w1 hown1 hturn1)
    refine world_at (R := fun X => X.ownsMap Try.prog 3 RM mm g.row.length ((Dof g.row).del (.int .i64 n)) ∧ Kept [mm] w X) ⟨hown1, Kept.of_turned hturn1⟩ ?_
    clear hown1 hturn1 c0 c1 c2 c3 c4 c5
    rintro X ⟨hx, hk⟩
    rw [Dof_del] at hx
    have hb2 := (unhide HB).kept hk (by simp; exact fun e => hne e.symm)
    obtain ⟨c0, c1, c2, c3, c4, c5⟩ := bag_cells hb2
    have f4 := hb2.frozen 4
    have HB2 := hide hb2
    have HX := hide hx
    have HK := hide hk
    clear hb2 hx hk HB HO
    go_wp2_with fail
    refine bodyPost_end (results_none rfl _ _ _) rfl ?_
    have q : Kept [b] X (X.setCell ⟨b, 4, none⟩ (.int .i64 (g.drop + 1))) := (Kept.refl [b] X).setCell (Or.inl (by simp)) _
    exact ⟨rfl, ⟨unhide HG, .map (some mm), (unhide HB2).set 4 (.int .i64 (g.drop + 1)), Or.inr ⟨mm, rfl, rfl, hne, map_size (map_kept q (by simp; exact hne) (unhide HX))⟩⟩, ((unhide HK).mono (fun x hx => by simp at hx; simp [hx])).trans q (fun x hx => by simp at hx; simp [hx])⟩
set_option maxRecDepth 100000 in
set_option maxHeartbeats 800000 in
theorem add_full_1 {w : World} {b : Nat} {F : List Nat} {g : Bg} (h : Bk w b F g) (hs : g.sum < 4611686018427387904) (hr : 65536 ≤ g.row.length) (m : Ms) : Calls Try.prog 39 #[.pointer (some ⟨b, 0, none⟩), msV m, .pointer (some ⟨b, 1, none⟩)] w fun e w' => e = .returned (.tuple #[.int .i64 0, .int .i64 201]) ∧ Bk w' b F g.loses ∧ Kept F w w' := by
  have HG := hide (h.1.loses hs)
  have HW := hide (h.1.wrap1 g.lost (by simp)).1
  have hmem := h.mem
  obtain ⟨ho, mv, hb, hm⟩ := h
  have hl := fun W (k : Kept [] w W) => (hm.kept (G := []) k (by simp)).len 3
  have hg2 : (65536 ≤ ((g.row.length : Nat) : Int)) = True := eq_true (by omega)
  have HB := hide hb
  have HM := hide hm
  have HL := hide hl
  have hw := unhide HW
  clear hb hm ho hl
  unfold msV
  go_enter Try.func39, Try.ntmps39
  go_upto_region 1 with fail
  refine world_at (R := fun X => Kept [] w X) ((Kept.refl [] w).alloc _) ?_
  rintro X hk
  have hb2 := (unhide HB).kept hk (by simp)
  obtain ⟨c0, c1, c2, c3, c4, c5⟩ := bag_cells hb2
  have f5 := hb2.frozen 5
  have hl2 := fun ty => ((unhide HM).kept hk (by simp)).len ty
  have HB2 := hide hb2
  have HK := hide hk
  clear hb2 hk HB
  go_wp2_with fail
  go_ret2
  have q : Kept [b] X (X.setCell ⟨b, 5, none⟩ (.int .i64 (g.lost + 1))) := (Kept.refl [b] X).setCell (Or.inl (by simp)) _
  exact ⟨rfl, ⟨unhide HG, mv, (unhide HB2).set 5 (.int .i64 (g.lost + 1)), ((unhide HM).kept (unhide HK) (by simp)).kept q (fun x _ hx => by simp; exact hx)⟩, ((unhide HK).mono (by simp)).trans q (fun x hx => by simp at hx; subst hx; exact Or.inl hmem)⟩
set_option maxRecDepth 100000 in
set_option maxHeartbeats 800000 in
theorem add_full_2 {w : World} {b : Nat} {F : List Nat} {g : Bg} (h : Bk w b F g) (hs : g.sum < 4611686018427387904) (hr : 65536 ≤ g.row.length) (m : Ms) : Calls Try.prog 39 #[.pointer (some ⟨b, 0, none⟩), msV m, .pointer (some ⟨b, 2, none⟩)] w fun e w' => e = .returned (.tuple #[.int .i64 0, .int .i64 201]) ∧ Bk w' b F g.loses ∧ Kept F w w' := by
  have HG := hide (h.1.loses hs)
  have HW := hide (h.1.wrap1 g.lost (by simp)).1
  have hmem := h.mem
  obtain ⟨ho, mv, hb, hm⟩ := h
  have hl := fun W (k : Kept [] w W) => (hm.kept (G := []) k (by simp)).len 3
  have hg2 : (65536 ≤ ((g.row.length : Nat) : Int)) = True := eq_true (by omega)
  have HB := hide hb
  have HM := hide hm
  have HL := hide hl
  have hw := unhide HW
  clear hb hm ho hl
  unfold msV
  go_enter Try.func39, Try.ntmps39
  go_upto_region 1 with fail
  refine world_at (R := fun X => Kept [] w X) ((Kept.refl [] w).alloc _) ?_
  rintro X hk
  have hb2 := (unhide HB).kept hk (by simp)
  obtain ⟨c0, c1, c2, c3, c4, c5⟩ := bag_cells hb2
  have f5 := hb2.frozen 5
  have hl2 := fun ty => ((unhide HM).kept hk (by simp)).len ty
  have HB2 := hide hb2
  have HK := hide hk
  clear hb2 hk HB
  go_wp2_with fail
  go_ret2
  have q : Kept [b] X (X.setCell ⟨b, 5, none⟩ (.int .i64 (g.lost + 1))) := (Kept.refl [b] X).setCell (Or.inl (by simp)) _
  exact ⟨rfl, ⟨unhide HG, mv, (unhide HB2).set 5 (.int .i64 (g.lost + 1)), ((unhide HM).kept (unhide HK) (by simp)).kept q (fun x _ hx => by simp; exact hx)⟩, ((unhide HK).mono (by simp)).trans q (fun x hx => by simp at hx; subst hx; exact Or.inl hmem)⟩
set_option maxRecDepth 100000 in
set_option maxHeartbeats 800000 in
theorem add_1 {w : World} {b : Nat} {F : List Nat} {g : Bg} (h : Bk w b F g) (hs : g.sum < 4611686018427387904) (hr : g.row.length < 65536) {m : Ms} (hmo : m.ok) : Calls Try.prog 39 #[.pointer (some ⟨b, 0, none⟩), msV m, .pointer (some ⟨b, 1, none⟩)] w fun e w' => e = .returned (.tuple #[.int .i64 g.next, .int .i64 0]) ∧ BkP w b F (g.put m 1) w' := by
  have HG := hide (h.1.put hs hmo hr 1)
  have hw := (h.1.wrap1 g.sent (by simp)).1
  have hmem := h.mem
  obtain ⟨ho, mv, hb, hm⟩ := h
  have hg2 : (65536 ≤ ((g.row.length : Nat) : Int)) = False := eq_false (by omega)
  have HB := hide hb
  have HM := hide hm
  have hblt := hb.lt
  have hmm := @run_makeMap Try.prog
  have hny := mnil_yes
  have hnn := mnil_no
  rcases hm with ⟨rfl, hr0, rfl⟩ | ⟨mm, rfl, rfl, hne, hown⟩
  · unfold msV
    go_enter Try.func39, Try.ntmps39
    go_upto_region 1 with fail
    refine world_at (R := fun X => Kept [] w X ∧ Blk X w.heap.size #[.int .i64 m.frm, .int .i64 m.dst, .string (strB m.dat)] 77) ⟨(Kept.refl [] w).alloc _, Blk.new _ _ _⟩ ?_
    rintro X ⟨hk, hx⟩
    have hb2 := (unhide HB).kept hk (by simp)
    have c0 := (bag_cells hb2).1
    have f0 := hb2.frozen 0
    have hl2 := fun ty => ((unhide HM).kept hk (by simp)).len ty
    have HB2 := hide hb2
    have HK := hide hk
    have HX := hide hx
    have hsz := hk.size
    have c0' := (bag_cells (hb2.alloc (.map #[] 0))).1
    have f0' := (hb2.alloc (.map #[] 0)).frozen 0
    clear hb2 hk hx hb
    go_upto_region 6 with fail
    clear c0' f0'
    have hmade := World.ownsMap_made (H := Value) X Try.prog 3 RM
    have hbm := ((unhide HB2).alloc (.map #[] 0)).set 0 (.map (some X.heap.size))
    have hxl := (unhide HX).alloc (.map #[] 0)
    have hkl := ((unhide HK).mono (G := [b]) (by simp)).alloc (.map #[] 0)
    generalize hq : X.heap.size = mm at *
    have hne : mm ≠ b := by omega
    refine world_at (R := fun X => X.ownsMap Try.prog 3 RM mm g.row.length (Dof g.row) ∧ Blk X b (bagC (.map (some mm)) g) 67 ∧ Blk X w.heap.size #[.int .i64 m.frm, .int .i64 m.dst, .string (strB m.dat)] 77 ∧ Kept [b] w X) ⟨(by rw [hr0]; exact map_kept (F := [b]) ((Kept.refl [b] _).setCell (Or.inl (by simp)) _) (by simp; omega) hmade), hbm, (hxl.kept (F := [b]) ((Kept.refl [b] _).setCell (Or.inl (by simp)) _) (by simp; omega)), (hkl.setCell (Or.inl (by simp)) _)⟩ ?_
    rintro Y ⟨hy1, hy2, hy3, hy4⟩
    have HY := hide (And.intro hy1 (And.intro hy2 (And.intro hy3 hy4)))
    clear hy1 hy2 hy3 hy4 hmade hbm hxl hkl HB2 HX HK
    go_upto_region 7 with (go_at_call 50; refine (next_any (unhide HY).2.1 ho).mono ?_; rintro e v ⟨rfl, nn, rfl⟩)
    refine world_at (R := fun Z => Z.ownsMap Try.prog 3 RM mm g.row.length (Dof g.row) ∧ Blk Z b (bagC (.map (some mm)) g) 67 ∧ Blk Z w.heap.size #[.int .i64 m.frm, .int .i64 m.dst, .string (strB m.dat)] 77 ∧ Kept [b] w Z) ⟨map_kept ((Kept.refl [] Y).drewN nn) (by simp) (unhide HY).1, (unhide HY).2.1.kept ((Kept.refl [] Y).drewN nn) (by simp), (unhide HY).2.2.1.kept ((Kept.refl [] Y).drewN nn) (by simp), (unhide HY).2.2.2.drewN nn⟩ ?_
    rintro Z ⟨hz1, hz2, hz3, hz4⟩
    clear HY
    obtain ⟨w1, hrun, hown1, hturn⟩ := (hz1.drew).store keyedI Try.underlying65 (by unfold maxLen; omega) (keyI (by have := ho.wrap.2; omega) (by have := ho.wrap.2; omega)) (RM_mk m) (key := .int .i64 g.next)
    rw [Dof_put m (fun p hp => (ho.low p hp).2)] at hown1
    have k1 := Kept.of_turned hturn
    have c0 := (bag_cells hz2).1
    have d0 := hz3.cell 0
    have d1 := hz3.cell 1
    have d2 := hz3.cell 2
    simp only [List.getElem?_toArray, List.getElem?_cons_zero, List.getElem?_cons_succ] at d0 d1 d2
    unfold msV at hrun
    have hb3 := (hz2.kept (Kept.refl [] Z).drew (by simp)).kept k1 (by simp; exact fun e => hne e.symm)
    obtain ⟨-, c1, c2, -, -, -⟩ := bag_cells hb3
    have f1 := hb3.frozen 1
    have HB3 := hide hb3
    have HO3 := hide hown1
    have HK3 := hide ((hz4.drew).trans k1 (fun x hx => by simp at hx; subst hx; exact (Or.inr hsz)))
    clear hb3 hown1 hz1 hz2 hz3 hz4 k1 hturn
    go_region_with fail
    all_goals
      go_wp2_with fail
      go_ret2
      have q : Kept [b] w1 (w1.setCell ⟨b, 1, none⟩ (.int .i64 (g.sent + 1))) := (Kept.refl [b] w1).setCell (Or.inl (by simp)) _
      refine ⟨rfl, [b, mm], ⟨unhide HG, .map (some mm), (unhide HB3).set 1 (.int .i64 (g.sent + 1)), Or.inr ⟨mm, rfl, rfl, hne, map_size (map_kept q (by simp; exact hne) (unhide HO3))⟩⟩, (unhide HK3).trans q (fun x hx => by simp at hx; subst hx; exact Or.inl hmem), fun x hx => ?_⟩
      simp at hx
      rcases hx with rfl | rfl
      · exact Or.inl hmem
      · exact (Or.inr hsz)
  · unfold msV
    go_enter Try.func39, Try.ntmps39
    go_upto_region 1 with fail
    refine world_at (R := fun X => Kept [] w X ∧ Blk X w.heap.size #[.int .i64 m.frm, .int .i64 m.dst, .string (strB m.dat)] 77) ⟨(Kept.refl [] w).alloc _, Blk.new _ _ _⟩ ?_
    rintro X ⟨hk, hx⟩
    have hb2 := (unhide HB).kept hk (by simp)
    have c0 := (bag_cells hb2).1
    have hl2 := fun ty => ((unhide HM).kept hk (by simp)).len ty
    have HB2 := hide hb2
    have HK := hide hk
    have HX := hide hx
    have HO := hide (map_kept hk (by simp) hown)
    clear hb2 hk hx hown hb
    go_upto_region 6 with fail
    refine world_at (R := fun X => X.ownsMap Try.prog 3 RM mm g.row.length (Dof g.row) ∧ Blk X b (bagC (.map (some mm)) g) 67 ∧ Blk X w.heap.size #[.int .i64 m.frm, .int .i64 m.dst, .string (strB m.dat)] 77 ∧ Kept [b, mm] w X) ⟨(unhide HO), (unhide HB2), (unhide HX), ((unhide HK).mono (by simp))⟩ ?_
    rintro Y ⟨hy1, hy2, hy3, hy4⟩
    have HY := hide (And.intro hy1 (And.intro hy2 (And.intro hy3 hy4)))
    clear hy1 hy2 hy3 hy4
    go_upto_region 7 with (go_at_call 50; refine (next_any (unhide HY).2.1 ho).mono ?_; rintro e v ⟨rfl, nn, rfl⟩)
    refine world_at (R := fun Z => Z.ownsMap Try.prog 3 RM mm g.row.length (Dof g.row) ∧ Blk Z b (bagC (.map (some mm)) g) 67 ∧ Blk Z w.heap.size #[.int .i64 m.frm, .int .i64 m.dst, .string (strB m.dat)] 77 ∧ Kept [b, mm] w Z) ⟨map_kept ((Kept.refl [] Y).drewN nn) (by simp) (unhide HY).1, (unhide HY).2.1.kept ((Kept.refl [] Y).drewN nn) (by simp), (unhide HY).2.2.1.kept ((Kept.refl [] Y).drewN nn) (by simp), (unhide HY).2.2.2.drewN nn⟩ ?_
    rintro Z ⟨hz1, hz2, hz3, hz4⟩
    clear HY
    obtain ⟨w1, hrun, hown1, hturn⟩ := (hz1.drew).store keyedI Try.underlying65 (by unfold maxLen; omega) (keyI (by have := ho.wrap.2; omega) (by have := ho.wrap.2; omega)) (RM_mk m) (key := .int .i64 g.next)
    rw [Dof_put m (fun p hp => (ho.low p hp).2)] at hown1
    have k1 := Kept.of_turned hturn
    have c0 := (bag_cells hz2).1
    have d0 := hz3.cell 0
    have d1 := hz3.cell 1
    have d2 := hz3.cell 2
    simp only [List.getElem?_toArray, List.getElem?_cons_zero, List.getElem?_cons_succ] at d0 d1 d2
    unfold msV at hrun
    have hb3 := (hz2.kept (Kept.refl [] Z).drew (by simp)).kept k1 (by simp; exact fun e => hne e.symm)
    obtain ⟨-, c1, c2, -, -, -⟩ := bag_cells hb3
    have f1 := hb3.frozen 1
    have HB3 := hide hb3
    have HO3 := hide hown1
    have HK3 := hide ((hz4.drew).trans k1 (fun x hx => by simp at hx; subst hx; exact (Or.inl (by simp))))
    clear hb3 hown1 hz1 hz2 hz3 hz4 k1 hturn
    go_region_with fail
    all_goals
      go_wp2_with fail
      go_ret2
      have q : Kept [b] w1 (w1.setCell ⟨b, 1, none⟩ (.int .i64 (g.sent + 1))) := (Kept.refl [b] w1).setCell (Or.inl (by simp)) _
      refine ⟨rfl, [b, mm], ⟨unhide HG, .map (some mm), (unhide HB3).set 1 (.int .i64 (g.sent + 1)), Or.inr ⟨mm, rfl, rfl, hne, map_size (map_kept q (by simp; exact hne) (unhide HO3))⟩⟩, (unhide HK3).trans q (fun x hx => by simp at hx; subst hx; exact Or.inl hmem), fun x hx => ?_⟩
      simp at hx
      rcases hx with rfl | rfl
      · exact Or.inl hmem
      · exact (Or.inl (by simp))
set_option maxRecDepth 100000 in
set_option maxHeartbeats 800000 in
theorem add_2 {w : World} {b : Nat} {F : List Nat} {g : Bg} (h : Bk w b F g) (hs : g.sum < 4611686018427387904) (hr : g.row.length < 65536) {m : Ms} (hmo : m.ok) : Calls Try.prog 39 #[.pointer (some ⟨b, 0, none⟩), msV m, .pointer (some ⟨b, 2, none⟩)] w fun e w' => e = .returned (.tuple #[.int .i64 g.next, .int .i64 0]) ∧ BkP w b F (g.put m 2) w' := by
  have HG := hide (h.1.put hs hmo hr 2)
  have hw := (h.1.wrap1 g.twice (by simp)).1
  have hmem := h.mem
  obtain ⟨ho, mv, hb, hm⟩ := h
  have hg2 : (65536 ≤ ((g.row.length : Nat) : Int)) = False := eq_false (by omega)
  have HB := hide hb
  have HM := hide hm
  have hblt := hb.lt
  have hmm := @run_makeMap Try.prog
  have hny := mnil_yes
  have hnn := mnil_no
  rcases hm with ⟨rfl, hr0, rfl⟩ | ⟨mm, rfl, rfl, hne, hown⟩
  · unfold msV
    go_enter Try.func39, Try.ntmps39
    go_upto_region 1 with fail
    refine world_at (R := fun X => Kept [] w X ∧ Blk X w.heap.size #[.int .i64 m.frm, .int .i64 m.dst, .string (strB m.dat)] 77) ⟨(Kept.refl [] w).alloc _, Blk.new _ _ _⟩ ?_
    rintro X ⟨hk, hx⟩
    have hb2 := (unhide HB).kept hk (by simp)
    have c0 := (bag_cells hb2).1
    have f0 := hb2.frozen 0
    have hl2 := fun ty => ((unhide HM).kept hk (by simp)).len ty
    have HB2 := hide hb2
    have HK := hide hk
    have HX := hide hx
    have hsz := hk.size
    have c0' := (bag_cells (hb2.alloc (.map #[] 0))).1
    have f0' := (hb2.alloc (.map #[] 0)).frozen 0
    clear hb2 hk hx hb
    go_upto_region 6 with fail
    clear c0' f0'
    have hmade := World.ownsMap_made (H := Value) X Try.prog 3 RM
    have hbm := ((unhide HB2).alloc (.map #[] 0)).set 0 (.map (some X.heap.size))
    have hxl := (unhide HX).alloc (.map #[] 0)
    have hkl := ((unhide HK).mono (G := [b]) (by simp)).alloc (.map #[] 0)
    generalize hq : X.heap.size = mm at *
    have hne : mm ≠ b := by omega
    refine world_at (R := fun X => X.ownsMap Try.prog 3 RM mm g.row.length (Dof g.row) ∧ Blk X b (bagC (.map (some mm)) g) 67 ∧ Blk X w.heap.size #[.int .i64 m.frm, .int .i64 m.dst, .string (strB m.dat)] 77 ∧ Kept [b] w X) ⟨(by rw [hr0]; exact map_kept (F := [b]) ((Kept.refl [b] _).setCell (Or.inl (by simp)) _) (by simp; omega) hmade), hbm, (hxl.kept (F := [b]) ((Kept.refl [b] _).setCell (Or.inl (by simp)) _) (by simp; omega)), (hkl.setCell (Or.inl (by simp)) _)⟩ ?_
    rintro Y ⟨hy1, hy2, hy3, hy4⟩
    have HY := hide (And.intro hy1 (And.intro hy2 (And.intro hy3 hy4)))
    clear hy1 hy2 hy3 hy4 hmade hbm hxl hkl HB2 HX HK
    go_upto_region 7 with (go_at_call 50; refine (next_any (unhide HY).2.1 ho).mono ?_; rintro e v ⟨rfl, nn, rfl⟩)
    refine world_at (R := fun Z => Z.ownsMap Try.prog 3 RM mm g.row.length (Dof g.row) ∧ Blk Z b (bagC (.map (some mm)) g) 67 ∧ Blk Z w.heap.size #[.int .i64 m.frm, .int .i64 m.dst, .string (strB m.dat)] 77 ∧ Kept [b] w Z) ⟨map_kept ((Kept.refl [] Y).drewN nn) (by simp) (unhide HY).1, (unhide HY).2.1.kept ((Kept.refl [] Y).drewN nn) (by simp), (unhide HY).2.2.1.kept ((Kept.refl [] Y).drewN nn) (by simp), (unhide HY).2.2.2.drewN nn⟩ ?_
    rintro Z ⟨hz1, hz2, hz3, hz4⟩
    clear HY
    obtain ⟨w1, hrun, hown1, hturn⟩ := (hz1.drew).store keyedI Try.underlying65 (by unfold maxLen; omega) (keyI (by have := ho.wrap.2; omega) (by have := ho.wrap.2; omega)) (RM_mk m) (key := .int .i64 g.next)
    rw [Dof_put m (fun p hp => (ho.low p hp).2)] at hown1
    have k1 := Kept.of_turned hturn
    have c0 := (bag_cells hz2).1
    have d0 := hz3.cell 0
    have d1 := hz3.cell 1
    have d2 := hz3.cell 2
    simp only [List.getElem?_toArray, List.getElem?_cons_zero, List.getElem?_cons_succ] at d0 d1 d2
    unfold msV at hrun
    have hb3 := (hz2.kept (Kept.refl [] Z).drew (by simp)).kept k1 (by simp; exact fun e => hne e.symm)
    obtain ⟨-, c1, c2, -, -, -⟩ := bag_cells hb3
    have f2 := hb3.frozen 2
    have HB3 := hide hb3
    have HO3 := hide hown1
    have HK3 := hide ((hz4.drew).trans k1 (fun x hx => by simp at hx; subst hx; exact (Or.inr hsz)))
    clear hb3 hown1 hz1 hz2 hz3 hz4 k1 hturn
    go_region_with fail
    all_goals
      go_wp2_with fail
      go_ret2
      have q : Kept [b] w1 (w1.setCell ⟨b, 2, none⟩ (.int .i64 (g.twice + 1))) := (Kept.refl [b] w1).setCell (Or.inl (by simp)) _
      refine ⟨rfl, [b, mm], ⟨unhide HG, .map (some mm), (unhide HB3).set 2 (.int .i64 (g.twice + 1)), Or.inr ⟨mm, rfl, rfl, hne, map_size (map_kept q (by simp; exact hne) (unhide HO3))⟩⟩, (unhide HK3).trans q (fun x hx => by simp at hx; subst hx; exact Or.inl hmem), fun x hx => ?_⟩
      simp at hx
      rcases hx with rfl | rfl
      · exact Or.inl hmem
      · exact (Or.inr hsz)
  · unfold msV
    go_enter Try.func39, Try.ntmps39
    go_upto_region 1 with fail
    refine world_at (R := fun X => Kept [] w X ∧ Blk X w.heap.size #[.int .i64 m.frm, .int .i64 m.dst, .string (strB m.dat)] 77) ⟨(Kept.refl [] w).alloc _, Blk.new _ _ _⟩ ?_
    rintro X ⟨hk, hx⟩
    have hb2 := (unhide HB).kept hk (by simp)
    have c0 := (bag_cells hb2).1
    have hl2 := fun ty => ((unhide HM).kept hk (by simp)).len ty
    have HB2 := hide hb2
    have HK := hide hk
    have HX := hide hx
    have HO := hide (map_kept hk (by simp) hown)
    clear hb2 hk hx hown hb
    go_upto_region 6 with fail
    refine world_at (R := fun X => X.ownsMap Try.prog 3 RM mm g.row.length (Dof g.row) ∧ Blk X b (bagC (.map (some mm)) g) 67 ∧ Blk X w.heap.size #[.int .i64 m.frm, .int .i64 m.dst, .string (strB m.dat)] 77 ∧ Kept [b, mm] w X) ⟨(unhide HO), (unhide HB2), (unhide HX), ((unhide HK).mono (by simp))⟩ ?_
    rintro Y ⟨hy1, hy2, hy3, hy4⟩
    have HY := hide (And.intro hy1 (And.intro hy2 (And.intro hy3 hy4)))
    clear hy1 hy2 hy3 hy4
    go_upto_region 7 with (go_at_call 50; refine (next_any (unhide HY).2.1 ho).mono ?_; rintro e v ⟨rfl, nn, rfl⟩)
    refine world_at (R := fun Z => Z.ownsMap Try.prog 3 RM mm g.row.length (Dof g.row) ∧ Blk Z b (bagC (.map (some mm)) g) 67 ∧ Blk Z w.heap.size #[.int .i64 m.frm, .int .i64 m.dst, .string (strB m.dat)] 77 ∧ Kept [b, mm] w Z) ⟨map_kept ((Kept.refl [] Y).drewN nn) (by simp) (unhide HY).1, (unhide HY).2.1.kept ((Kept.refl [] Y).drewN nn) (by simp), (unhide HY).2.2.1.kept ((Kept.refl [] Y).drewN nn) (by simp), (unhide HY).2.2.2.drewN nn⟩ ?_
    rintro Z ⟨hz1, hz2, hz3, hz4⟩
    clear HY
    obtain ⟨w1, hrun, hown1, hturn⟩ := (hz1.drew).store keyedI Try.underlying65 (by unfold maxLen; omega) (keyI (by have := ho.wrap.2; omega) (by have := ho.wrap.2; omega)) (RM_mk m) (key := .int .i64 g.next)
    rw [Dof_put m (fun p hp => (ho.low p hp).2)] at hown1
    have k1 := Kept.of_turned hturn
    have c0 := (bag_cells hz2).1
    have d0 := hz3.cell 0
    have d1 := hz3.cell 1
    have d2 := hz3.cell 2
    simp only [List.getElem?_toArray, List.getElem?_cons_zero, List.getElem?_cons_succ] at d0 d1 d2
    unfold msV at hrun
    have hb3 := (hz2.kept (Kept.refl [] Z).drew (by simp)).kept k1 (by simp; exact fun e => hne e.symm)
    obtain ⟨-, c1, c2, -, -, -⟩ := bag_cells hb3
    have f2 := hb3.frozen 2
    have HB3 := hide hb3
    have HO3 := hide hown1
    have HK3 := hide ((hz4.drew).trans k1 (fun x hx => by simp at hx; subst hx; exact (Or.inl (by simp))))
    clear hb3 hown1 hz1 hz2 hz3 hz4 k1 hturn
    go_region_with fail
    all_goals
      go_wp2_with fail
      go_ret2
      have q : Kept [b] w1 (w1.setCell ⟨b, 2, none⟩ (.int .i64 (g.twice + 1))) := (Kept.refl [b] w1).setCell (Or.inl (by simp)) _
      refine ⟨rfl, [b, mm], ⟨unhide HG, .map (some mm), (unhide HB3).set 2 (.int .i64 (g.twice + 1)), Or.inr ⟨mm, rfl, rfl, hne, map_size (map_kept q (by simp; exact hne) (unhide HO3))⟩⟩, (unhide HK3).trans q (fun x hx => by simp at hx; subst hx; exact Or.inl hmem), fun x hx => ?_⟩
      simp at hx
      rcases hx with rfl | rfl
      · exact Or.inl hmem
      · exact (Or.inl (by simp))
set_option maxRecDepth 100000 in
set_option maxHeartbeats 800000 in
theorem letter_any (w : World) (m : Ms) (hb : ∀ x ∈ m.dat, x < 256) (hlen : m.dat.length ≤ 524288) (n : Int) : Calls Try.prog 41 #[msV m, .int .i64 n] w fun e w' => ∃ v, e = .returned v ∧ LtrP w n m v w' ∧ Kept [] w w' := by
  unfold msV
  have hc := fun W => run_bytes W (strB m.dat)
  go_enter Try.func41, Try.ntmps41
  go_upto_region 1 with fail
  refine world_at (R := fun X => Kept [] w X ∧ Blk X w.heap.size #[.int .i64 m.frm, .int .i64 m.dst, .string (strB m.dat)] 77 ∧ Blk X (w.heap.size + 1) #[.int .i64 0, .int .i64 0, .int .i64 0, .slice none 0 0] 48) ⟨((Kept.refl [] w).alloc _).alloc _, (Blk.new _ _ _).alloc _, (by have h := Blk.new (w.alloc (.cells #[.int .i64 m.frm, .int .i64 m.dst, .string (strB m.dat)] 77)) #[.int .i64 0, .int .i64 0, .int .i64 0, .slice none 0 0] 48; rw [World.size_alloc] at h; exact h)⟩ ?_
  rintro X ⟨hk, hx, hy⟩
  have d0 := hx.cell 0
  have d1 := hx.cell 1
  have d2 := hx.cell 2
  simp only [List.getElem?_toArray, List.getElem?_cons_zero, List.getElem?_cons_succ] at d0 d1 d2
  have hc1 := hc X
  have HY := hide hy
  have HK := hide hk
  clear hx hy hk hc
  go_wp2_with (refine wpList_store_row rfl 48 _ _ rfl (w.heap.size + 1) _ rfl rfl 48 _ ((unhide HY).kept (kept_conv X (strB m.dat)) (by simp)) infoLtr rfl (by simp [Value.oneCell']) ?_)
  refine ret_struct rfl rfl (setRow_heap _ _ _ _ _ _ ((unhide HY).kept (kept_conv X (strB m.dat)) (by simp))) Try.underlying48 infoLtr rfl ?_
  have hd := conv_dat X m.dat hb hlen
  have kc := kept_conv X (strB m.dat)
  have hs := (unhide HK).size
  have hlt := (unhide HY).lt
  refine ⟨_, rfl, ⟨_, rfl, (hd.kept (F := [w.heap.size + 1]) ((Kept.refl _ _).setRow (Or.inl (by simp)) _) (fun x hx hm => by obtain ⟨y, h1, h2, _⟩ := hd.own; rw [h1] at hx; simp at hx hm; omega)).down hs⟩, ((unhide HK).trans kc (by simp)).setRow (Or.inr (Nat.le_succ _)) _⟩

set_option maxRecDepth 100000 in
set_option maxHeartbeats 800000 in
theorem nsend (w : World) (x y : Int) (v : Value) : Calls Try.prog 14 #[.pointer none, .int .i64 x, .int .i64 y, v] w fun e w' => e = .returned (.tuple #[.int .i64 0, .int .i64 1]) ∧ Kept [] w w' := by
  go_enter Try.func14, Try.ntmps14
  go_wp2_with fail
  go_ret2
  exact ⟨rfl, Kept.refl _ _⟩
set_option maxRecDepth 100000 in
set_option maxHeartbeats 800000 in
theorem send_arg (w : World) (b : Nat) {x y : Int} (v : Value) (h : x < 0 ∨ y < 0) : Calls Try.prog 14 #[.pointer (some ⟨b, 0, none⟩), .int .i64 x, .int .i64 y, v] w fun e w' => e = .returned (.tuple #[.int .i64 0, .int .i64 2]) ∧ Kept [] w w' := by
  by_cases hx : x < 0
  · clear h
    go_enter Try.func14, Try.ntmps14
    go_wp2_with fail
    go_ret2
    exact ⟨rfl, Kept.refl _ _⟩
  · have hy : y < 0 := by omega
    clear h
    go_enter Try.func14, Try.ntmps14
    go_wp2_with fail
    go_ret2
    exact ⟨rfl, Kept.refl _ _⟩
set_option maxRecDepth 100000 in
set_option maxHeartbeats 800000 in
theorem send_long (w : World) (b : Nat) {x y : Int} {a : Option Addr} {n cap : Nat} (hx : 0 ≤ x) (hy : 0 ≤ y) (hl : 524288 < n) : Calls Try.prog 14 #[.pointer (some ⟨b, 0, none⟩), .int .i64 x, .int .i64 y, .slice a n cap] w fun e w' => e = .returned (.tuple #[.int .i64 0, .int .i64 3]) ∧ Kept [] w w' := by
  have h1 : (x < 0) = False := eq_false (by omega)
  have h2 : (y < 0) = False := eq_false (by omega)
  have h3 : ((524288 : Int) < (n : Int)) = True := eq_true (by omega)
  clear hx hy hl
  go_enter Try.func14, Try.ntmps14
  go_wp2_with fail
  go_ret2
  exact ⟨rfl, Kept.refl _ _⟩
set_option maxRecDepth 100000 in
set_option maxHeartbeats 800000 in
theorem send_ok {w : World} {b : Nat} {F : List Nat} {g : Bg} (h : Bk w b F g) (hs : g.sum < 4611686018427387904) (hr : g.row.length < 65536) {m : Ms} (hmo : m.ok) {v : Value} (hv : Sees w v m.dat) : Calls Try.prog 14 #[.pointer (some ⟨b, 0, none⟩), .int .i64 m.frm, .int .i64 m.dst, v] w fun e w' => e = .returned (.tuple #[.int .i64 g.next, .int .i64 0]) ∧ BkP w b F (g.put m 1) w' := by
  have h1 : (m.frm < 0) = False := eq_false (by have := hmo.frm; omega)
  have h2 : (m.dst < 0) = False := eq_false (by have := hmo.dst; omega)
  have h3 : ((524288 : Int) < (m.dat.length : Int)) = False := eq_false (by have := hmo.len; omega)
  have HA : Hid (∀ W, Kept [] w W → Calls Try.prog 39 #[.pointer (some ⟨b, 0, none⟩), .agg #[.int .i64 m.frm, .int .i64 m.dst, .string (strB m.dat)], .pointer (some ⟨b, 1, none⟩)] W fun e w' => e = .returned (.tuple #[.int .i64 g.next, .int .i64 0]) ∧ BkP w b F (g.put m 1) w') := fun W k => (add_1 (h.kept k (by simp)) hs hr hmo).mono (by
    rintro e w' ⟨he, F', hb', k2, hf⟩
    exact ⟨he, F', hb', k2.from' k, fun x hx => (hf x hx).imp id (fun h3 => Nat.le_trans k.size h3)⟩)
  have hc0 := conv_sees hv
  have hc1 := conv_sees (hv.kept (Kept.refl [] w).drew (Or.inr (by simp)))
  obtain ⟨a, cap, rfl, -⟩ := hv
  clear h hs hr hmo
  go_enter Try.func14, Try.ntmps14
  go_wp2_with fail
  go_region_with (go_at_call 39; refine (unhide HA _ (by first | exact Kept.refl _ _ | exact (Kept.refl _ _).drew | exact (Kept.refl _ _).drewN _)).mono ?_; rintro e w2 ⟨rfl, hq⟩; have HQ := hide hq; clear hq)
  all_goals
    go_wp2_with fail
    go_ret2
    exact ⟨rfl, unhide HQ⟩
set_option maxRecDepth 100000 in
set_option maxHeartbeats 800000 in
theorem send_full {w : World} {b : Nat} {F : List Nat} {g : Bg} (h : Bk w b F g) (hs : g.sum < 4611686018427387904) (hr : 65536 ≤ g.row.length) {m : Ms} (hmo : m.ok) {v : Value} (hv : Sees w v m.dat) : Calls Try.prog 14 #[.pointer (some ⟨b, 0, none⟩), .int .i64 m.frm, .int .i64 m.dst, v] w fun e w' => e = .returned (.tuple #[.int .i64 0, .int .i64 201]) ∧ BkP w b F g.loses w' := by
  have h1 : (m.frm < 0) = False := eq_false (by have := hmo.frm; omega)
  have h2 : (m.dst < 0) = False := eq_false (by have := hmo.dst; omega)
  have h3 : ((524288 : Int) < (m.dat.length : Int)) = False := eq_false (by have := hmo.len; omega)
  have HA : Hid (∀ W, Kept [] w W → Calls Try.prog 39 #[.pointer (some ⟨b, 0, none⟩), .agg #[.int .i64 m.frm, .int .i64 m.dst, .string (strB m.dat)], .pointer (some ⟨b, 1, none⟩)] W fun e w' => e = .returned (.tuple #[.int .i64 0, .int .i64 201]) ∧ BkP w b F g.loses w') := fun W k => (add_full_1 (h.kept k (by simp)) hs hr m).mono (by
    rintro e w' ⟨he, hb', k2⟩
    exact ⟨he, F, hb', k2.from' k, fun x hx => Or.inl hx⟩)
  have hc0 := conv_sees hv
  have hc1 := conv_sees (hv.kept (Kept.refl [] w).drew (Or.inr (by simp)))
  obtain ⟨a, cap, rfl, -⟩ := hv
  clear h hs hr hmo
  go_enter Try.func14, Try.ntmps14
  go_wp2_with fail
  go_region_with (go_at_call 39; refine (unhide HA _ (by first | exact Kept.refl _ _ | exact (Kept.refl _ _).drew | exact (Kept.refl _ _).drewN _)).mono ?_; rintro e w2 ⟨rfl, hq⟩; have HQ := hide hq; clear hq)
  all_goals
    go_wp2_with fail
    go_ret2
    exact ⟨rfl, unhide HQ⟩
end Go.Proofs.Ytcohdkemfkiekaa
