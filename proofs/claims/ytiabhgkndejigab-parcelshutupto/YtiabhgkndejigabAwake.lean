/- awake; a reader that was just made; a row that the call owns. -/
import Derived.Test.YtiabhgkndejigabShut
namespace Go.Proofs.Ytiabhgkndejigab
open Go.RowKit

theorem cellsT_get (ts : List Th) : ∀ (j c : Nat) (h : j < ts.length), c < 4 → (cellsT ts)[j * 4 + c]? = ts[j].cells[c]? := by
  induction ts with
  | nil => intro j c h; simp at h
  | cons t ts ih =>
    intro j c h hc
    have e : cellsT (t :: ts) = t.cells ++ cellsT ts := by simp [cellsT]
    have hl : t.cells.length = 4 := rfl
    rw [e]
    cases j with
    | zero => rw [List.getElem?_append_left (by omega)]; simp
    | succ j =>
      rw [List.getElem?_append_right (by omega), hl, show (j + 1) * 4 + c - 4 = j * 4 + c by omega, ih j c (by simpa using h) hc]
      simp

theorem rowT_of_own {w : World} {base : Nat} {v : Value} {ts : List Th} (h : w.ownsRow base 35 4 v ts.length (cellsT ts)) : RowT w v ts := by
  rcases h.2 with ⟨h1, h2⟩ | ⟨g, cap, cur, hv, hb, hg, hc, hm, hs, ht⟩
  · exact Or.inl ⟨none, h1, List.eq_nil_of_length_eq_zero h2⟩
  · refine Or.inr ⟨g, 0, cap, hv, hc, hm, (Array.getElem?_eq_some_iff.1 hg).1, fun j hj => ?_⟩
    have hadd : ∀ k, (⟨g, 0, none⟩ : Addr).add k = ⟨g, k, none⟩ := fun k => by unfold Addr.add; split <;> simp_all
    have hcell : ∀ c u, c < 4 → ts[j].cells[c]? = some u → w.cell? ⟨g, 0 + j * 4 + c, none⟩ = some u := by
      intro c u hc4 hu
      have := h.cells (g := g) (by rw [hv]; rfl) (j * 4 + c) u (by rw [cellsT_get ts j c hj hc4]; exact hu)
      rw [hadd] at this
      simpa [Nat.add_assoc] using this
    exact ⟨hcell 0 _ (by omega) rfl, hcell 1 _ (by omega) rfl, hcell 2 _ (by omega) rfl, hcell 3 _ (by omega) rfl⟩

/-- A reader that was just made. -/
theorem Rf.new {w : World} {b : Nat} {lv : Value} {l : List Nat} (h : Rd w b lv nilS l) : Rf w b lv nilS [] l [] lv.ownBlock := by
  refine ⟨h, ⟨rfl, Or.inl ⟨rfl, rfl⟩⟩, rfl, by simp, by simp, fun k hk => hk, by simp, ?_, ?_, ?_, ?_, by simp⟩
  · exact h.n1
  · intro k hk; simp [nilS, Value.ownBlock]
  · intro k hk; exact (rd_lt h).2 k hk
  · simp [nilS, Value.ownBlock]

theorem sees_new (w : World) (xs : List Nat) (t : TypeId) (hx : xs.length ≤ 1000) : Sees (w.alloc (.cells (u8s xs).toArray t)) (.slice (some ⟨w.heap.size, 0, none⟩) xs.length xs.length) xs := by
  refine Or.inr ⟨w.heap.size, 0, xs.length, rfl, Nat.le_refl _, by unfold maxLen; omega, by simp, fun j hj => ?_⟩
  rw [(Blk.new w (u8s xs).toArray t).cell (0 + j)]
  simp [u8s, List.getElem?_eq_getElem hj]

/-- A writer of the call's own. -/
def WOwn (w : World) (b : Nat) (s : WS) (w' : World) : Prop := ∃ v sv, Wr w' b s v sv ∧ Kept [] w w' ∧ ∀ x, x ∈ foot b v sv → w.heap.size ≤ x
theorem WOwn.new {w w' : World} {b room : Nat} (hb : w.heap.size ≤ b) (h : Wr w' b (newWS room) nilS nilS) (k : Kept [] w w') : WOwn w b (newWS room) w' :=
  ⟨nilS, nilS, h, k, fun x hx => by simp [foot, nilS, Value.ownBlock] at hx; omega⟩
theorem WOwn.go {w W w' : World} {b : Nat} {s s' : WS} {v sv : Value} (h : Wr W b s v sv ∧ Kept [] w W ∧ ∀ x, x ∈ foot b v sv → w.heap.size ≤ x) (hp : WPost W b v sv s' w') : WOwn w b s' w' := by
  obtain ⟨v', sv', g1, g2, g3⟩ := hp
  refine ⟨v', sv', g1, h.2.1.trans g2 (fun x hx => Or.inr (h.2.2 x hx)), fun x hx => ?_⟩
  rcases g3 x hx with h' | h'
  · exact h.2.2 x h'
  · have := h.2.1.size; omega
/-- A reader of the call's own. -/
def ROwn (w : World) (b : Nat) (l : List Nat) (bh : List (List Nat)) (w' : World) : Prop := ∃ lv bv hs D, Rf w' b lv bv hs l bh D ∧ Kept [] w w' ∧ ∀ x, x ∈ D.toList ++ rfoot b bv → w.heap.size ≤ x
theorem ROwn.new {w w' : World} {b : Nat} {lv : Value} {l : List Nat} (hb : w.heap.size ≤ b) (h : Rd w' b lv nilS l) (hl : ∀ k, lv.ownBlock = some k → w.heap.size ≤ k) (k : Kept [] w w') : ROwn w b l [] w' :=
  ⟨lv, nilS, [], lv.ownBlock, Rf.new h, k, fun x hx => by
    simp only [rfoot, nilS, Value.ownBlock, List.mem_append, List.mem_cons, Option.mem_toList, Option.toList_none, List.not_mem_nil, or_false] at hx
    rcases hx with hx | rfl
    · exact hl x hx
    · exact hb⟩
theorem ROwn.go {w W w' : World} {b : Nat} {lv bv : Value} {hs : List Value} {l l' : List Nat} {bh bh' : List (List Nat)} {D : Option Nat} (h : Rf W b lv bv hs l bh D ∧ Kept [] w W ∧ ∀ x, x ∈ D.toList ++ rfoot b bv → w.heap.size ≤ x) (hp : RPost W b bv D l' bh' w') : ROwn w b l' bh' w' := by
  obtain ⟨lv', bv', hs', g1, g2, g3⟩ := hp
  refine ⟨lv', bv', hs', D, g1, h.2.1.trans g2 (fun x hx => Or.inr (h.2.2 x (by simp only [List.mem_append]; exact Or.inr hx))), fun x hx => ?_⟩
  simp only [List.mem_append] at hx
  rcases hx with hx | hx
  · exact h.2.2 x (by simp only [List.mem_append]; exact Or.inl hx)
  · rcases g3 x hx with h' | h'
    · exact h.2.2 x (by simp only [List.mem_append]; exact Or.inr h')
    · have := h.2.1.size; omega
theorem ROwn.took {w W w' : World} {b : Nat} {lv bv : Value} {hs : List Value} {l l' : List Nat} {bh : List (List Nat)} {D : Option Nat} (h : Rf W b lv bv hs l bh D ∧ Kept [] w W ∧ ∀ x, x ∈ D.toList ++ rfoot b bv → w.heap.size ≤ x) (hr : ∃ lv', Rd w' b lv' bv l' ∧ lv'.ownBlock = lv.ownBlock) (hk : Kept [b] W w') : ROwn w b l' bh w' :=
  ROwn.go h (Took.post h.1 ⟨hr, hk⟩)

set_option maxRecDepth 100000 in
set_option maxHeartbeats 1000000 in
theorem awake_any (w : World) : Calls Try.prog 8 #[] w fun e w' => e = .returned (.bool true) ∧ Kept [] w w' := by
  have f300 : form 300 = [172, 2] := by rw [form_big (by omega), form_small (by omega)]
  have f2 : form 2 = [2] := form_small (by omega)
  have f3 : form 3 = [3] := form_small (by omega)
  have e2 : wLay (newWS 6) (form 300) = ⟨6, [172, 2], [], 0⟩ := by rw [f300]; rfl
  have e3 : wOpen ⟨6, [172, 2], [], 0⟩ = ⟨6, [172, 2], [2], 0⟩ := rfl
  have e4 : wLay ⟨6, [172, 2], [2], 0⟩ (form [8, 9].length ++ [8, 9]) = ⟨6, [172, 2, 2, 8, 9], [2], 0⟩ := by
    show wLay ⟨6, [172, 2], [2], 0⟩ (form 2 ++ [8, 9]) = _
    rw [f2]; rfl
  have e5 : wClose ⟨6, [172, 2, 2, 8, 9], [2], 0⟩ = ⟨6, [172, 2, 3, 2, 8, 9], [], 0⟩ := by
    simp [wClose, f3]
  have HE := hide (And.intro e2 (And.intro e3 (And.intro e4 e5)))
  have r1 : readNum 0 0 [172, 2, 3, 2, 8, 9] = .inr (300, [3, 2, 8, 9]) := by rw [show [172, 2, 3, 2, 8, 9] = form 300 ++ [3, 2, 8, 9] by rw [f300]; rfl, read_form0 _ _ (by omega)]
  have r2 : readNum 0 0 [3, 2, 8, 9] = .inr (3, [2, 8, 9]) := by rw [show [3, 2, 8, 9] = form 3 ++ [2, 8, 9] by rw [f3]; rfl, read_form0 _ _ (by omega)]
  have r3 : readNum 0 0 [2, 8, 9] = .inr (2, [8, 9]) := by rw [show [2, 8, 9] = form 2 ++ [8, 9] by rw [f2]; rfl, read_form0 _ _ (by omega)]
  have HR := hide (And.intro r1 (And.intro r2 r3))
  clear f300 f2 f3 e2 e3 e4 e5 r1 r2 r3
  go_enter Try.func8, Try.ntmps8
  go_wp2_with fail
  refine (new_any 6 _ (by omega)).mono ?_
  rintro e w1 ⟨b, rfl, hb, hw1, hk1⟩
  obtain ⟨v1, sv1, HW1⟩ := WOwn.new hb hw1 hk1
  replace HW1 := hide HW1
  clear hw1 hk1 hb
  go_wp2_with fail
  refine (wnum_any (unhide HW1).1 300 (by omega) (by simp [newWS])).mono ?_
  rintro e w2 ⟨rfl, hp⟩
  obtain ⟨v2, sv2, HW2⟩ := WOwn.go (unhide HW1) hp
  rw [(unhide HE).1] at HW2
  replace HW2 := hide HW2
  clear hp
  go_wp2_with fail
  refine (wopen_any (unhide HW2).1).mono ?_
  rintro e w3 ⟨rfl, hp⟩
  obtain ⟨v3, sv3, HW3⟩ := WOwn.go (unhide HW2) hp
  rw [(unhide HE).2.1] at HW3
  replace HW3 := hide HW3
  clear hp
  go_wp2_with fail
  refine (wtext_any ((unhide HW3).1.alloc _) _ [8, 9] (sees_new w3 [8, 9] 5 (by simp)) (fun k hk hf => by
    simp [Value.ownBlock] at hk; subst hk; have := foot_lt (unhide HW3).1 _ hf; omega) (by simp)).mono ?_
  rintro e w4 ⟨rfl, hp⟩
  obtain ⟨v4, sv4, HW4⟩ := WOwn.go (unhide HW3) (hp.from ((Kept.refl [] _).alloc _))
  rw [(unhide HE).2.2.1] at HW4
  replace HW4 := hide HW4
  clear hp
  go_wp2_with fail
  refine (wclose_any (unhide HW4).1 (by simp) (by simp)).mono ?_
  rintro e w5 ⟨rfl, hp⟩
  obtain ⟨v5, sv5, HW5⟩ := WOwn.go (unhide HW4) hp
  rw [(unhide HE).2.2.2] at HW5
  replace HW5 := hide HW5
  clear hp
  go_wp2_with fail
  refine (wdone_ok (unhide HW5).1 rfl rfl).mono ?_
  rintro e w6 ⟨a6, c6, rfl, ho6, hk6⟩
  have HS6 := hide (Sees.of_own ho6)
  have HK6 := hide ((unhide HW5).2.1.trans hk6 (by simp))
  clear ho6 hk6
  go_wp2_with fail
  refine (same_yes ((unhide HS6).kept ((Kept.refl [] _).alloc _) (by simp)) (sees_new w6 [172, 2, 3, 2, 8, 9] 5 (by simp)) (by simp)).mono ?_
  rintro e w7 ⟨rfl, m, rfl⟩
  have HS7 := hide ((unhide HS6).kept (((Kept.refl [] w6).alloc (.cells (u8s [172, 2, 3, 2, 8, 9]).toArray 5)).drewN m) (by simp))
  have HK7 := hide ((unhide HK6).trans (((Kept.refl [] w6).alloc (.cells (u8s [172, 2, 3, 2, 8, 9]).toArray 5)).drewN m) (by simp))
  generalize ((w6.alloc (.cells (u8s [172, 2, 3, 2, 8, 9]).toArray 5)).drewN m) = w7 at HS7 HK7
  go_wp2_with fail
  refine (read_any (unhide HS7) (by simp)).mono ?_
  rintro e w8 ⟨rb, lv8, rfl, hr8, hb8, hl8, hk8⟩
  have hs7 := (unhide HK7).size
  obtain ⟨lv, bv, hs, D, HR8⟩ := ROwn.new (w := w) (by omega) hr8 (fun k hk => by have := hl8 k hk; omega) ((unhide HK7).trans hk8 (by simp))
  replace HR8 := hide HR8
  clear hr8 hb8 hl8 hk8 hs7
  go_wp2_with fail
  refine (rnum_ok (unhide HR8).1.rd (by simp) (unhide HR).1).mono ?_
  rintro e w9 ⟨rfl, hr, hk⟩
  obtain ⟨lv9, bv9, hs9, D9, HR9⟩ := ROwn.took (unhide HR8) hr hk
  replace HR9 := hide HR9
  clear hr hk
  go_wp2_with fail
  refine (renter_ok (unhide HR9).1 (by simp) (by simp) 3 (unhide HR).2.1 (by simp) (by simp)).mono ?_
  rintro e w10 ⟨rfl, ⟨lv', bv', hs', g1, g2⟩, hk⟩
  obtain ⟨lv10, bv10, hs10, D10, HR10⟩ := ROwn.go (unhide HR9) (w' := w10) ⟨lv', bv', hs', g1, hk, fun x hx => by
    simp only [rfoot, List.mem_cons, Option.mem_toList] at hx ⊢
    rcases hx with rfl | hx
    · exact Or.inl (Or.inl rfl)
    · rcases g2 with g2 | g2
      · rw [g2] at hx; exact Or.inl (Or.inr hx)
      · exact Or.inr (g2 x hx)⟩
  replace HR10 := hide HR10
  clear g1 g2 hk
  go_wp2_with fail
  refine (rtext_ok (unhide HR10).1.rd (by simp) 2 2 (by omega) (unhide HR).2.2 (by simp) (by simp)).mono ?_
  rintro e w11 ⟨a11, c11, rfl, ho11, hr, hk⟩
  obtain ⟨lv11, bv11, hs11, D11, HR11⟩ := ROwn.took (unhide HR10) hr hk
  replace HR11 := hide HR11
  have HS11 := hide (Sees.of_own ho11)
  have HB11 := hide (fun x (hx : (Value.slice a11 2 c11).ownBlock = some x) => (ho11.lt x hx))
  clear hr hk ho11
  have hrb : rb < w10.heap.size := (unhide HR10).1.rd.blk.lt
  go_wp2_with fail
  refine (rleave_ok (unhide HR11).1 (by simp)).mono ?_
  rintro e w12 ⟨rfl, ⟨lv', bv', hs', g1, g2⟩, hk⟩
  have HS12 := hide ((unhide HS11).kept hk (fun x hx => by have := (unhide HB11 x hx).1; simp; omega))
  obtain ⟨lv12, bv12, hs12, D12, HR12⟩ := ROwn.go (unhide HR11) (w' := w12) ⟨lv', bv', hs', g1, hk.mono (fun x hx => by simp at hx; subst hx; exact Or.inl (by simp [rfoot])), fun x hx => by
    simp only [rfoot, g2] at hx ⊢
    exact Or.inl hx⟩
  replace HR12 := hide HR12
  clear g1 g2 hk
  have HD : Hid (∀ W, Kept [] w12 W → Calls Try.prog 14 #[.pointer (some ⟨rb, 0, none⟩)] W fun e w' => e = .returned (.int .i64 0) ∧ W = w') := by
    refine hide fun W hW => (rdone_f ((unhide HR12).1.kept hW (by simp)) 0 (by simp)).mono ?_
    rintro e w' ⟨rfl, rfl⟩
    exact ⟨rfl, rfl⟩
  go_wp2_with fail
  refine (same_yes ((unhide HS12).kept ((Kept.refl [] _).alloc _) (by simp)) (sees_new w12 [8, 9] 5 (by simp)) (by simp)).mono ?_
  rintro e w13 ⟨rfl, m2, rfl⟩
  go_wp2_with fail
  refine (unhide HD _ (((Kept.refl [] w12).alloc _).drewN m2)).mono ?_
  rintro e w14 ⟨rfl, rfl⟩
  go_wp2
  go_ret
  exact ⟨rfl, ((unhide HR12).2.1.alloc _).drewN m2⟩
end Go.Proofs.Ytiabhgkndejigab
