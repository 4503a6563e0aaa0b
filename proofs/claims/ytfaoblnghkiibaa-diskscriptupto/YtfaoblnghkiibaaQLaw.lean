/- The law's own: num, same, lent, kept, over, full. -/
import Derived.Test.YtfaoblnghkiibaaQSync
import Derived.OwnWalk
import Derived.BigQuiet
import Derived.Deep.OwnRows
namespace Go.Proofs.Ytfaoblnghkiibaa
open Go.RowKit

set_option maxRecDepth 100000 in
theorem num_any (w : World) (x : Int) : Calls Try.prog 13 #[.int .i64 x] w fun e w' => e = .returned (.int .i64 x) ∧ w' = w := by
  go_enter Try.func13, Try.ntmps13
  go_wp2
  go_ret
  exact ⟨rfl, rfl⟩

set_option maxRecDepth 100000 in
set_option maxHeartbeats 400000 in
theorem same_any {w : World} {v1 v2 : Value} {bs : List Nat} (h1 : Sees w v1 bs) (h2 : Sees w v2 bs) :
    Calls Try.prog 28 #[v1, v2] w fun e w' => e = .returned (.bool true) ∧ ∃ m, w' = w.drewN m := by
  obtain ⟨a, cap, rfl, a1, a2, a3, a4⟩ := h1
  obtain ⟨b, cap2, rfl, b1, b2, b3, b4⟩ := h2
  have A4 := hide a4
  have B4 := hide b4
  have hml : bs.length ≤ 9223372036854775807 := by unfold maxLen at a2; omega
  clear a3 a4 b3 b4
  generalize hL : bs.length = L at a1 b1 hml
  have HL := hide hL
  clear hL
  go_enter Try.func28, Try.ntmps28
  go_wp2_with fail
  go_loopw [5] (fun i wr => ∃ k : Nat, k ≤ L ∧ i = .int .i64 k ∧ ∃ m, wr = w.drewN m) (fun i _ => L - (intOf i).toNat)
  case atStart => exact ⟨0, by omega, rfl, 0, rfl⟩
  case round =>
    obtain ⟨k, hk, rfl, m, hq⟩ := hrel
    subst hq
    by_cases hkl : k < L
    · obtain ⟨b1', o1, rfl, c1⟩ := at_sees (unhide HL) (unhide A4) hkl
      obtain ⟨b2', o2, rfl, c2⟩ := at_sees (unhide HL) (unhide B4) hkl
      generalize bs.getD k 0 = x at c1 c2
      go_wp2
      go_quiet (fail)
      go_wp2
      go_roundw
      case rel => exact ⟨k + 1, by omega, by simp, _, rfl⟩
      case measure => simp [intOf]; omega
    · obtain rfl : k = L := by omega
      go_wp2
      go_ret
      exact ⟨rfl, _, rfl⟩

/-- by a first place at which they differ -/
theorem at_diff {a b : List Nat} (hl : a.length = b.length) (hn : a ≠ b) : ∃ k, k < a.length ∧ a.getD k 0 ≠ b.getD k 0 ∧ ∀ j, j < k → a.getD j 0 = b.getD j 0 := by
  induction a generalizing b with
  | nil => cases b with
    | nil => exact absurd rfl hn
    | cons _ _ => simp at hl
  | cons x a ih => cases b with
    | nil => simp at hl
    | cons y b =>
      by_cases hxy : x = y
      · subst hxy
        obtain ⟨k, h1, h2, h3⟩ := ih (by simpa using hl) (fun e => hn (by rw [e]))
        exact ⟨k + 1, by simp; omega, by simpa using h2, fun j hj => by cases j with
          | zero => rfl
          | succ j => simpa using h3 j (by omega)⟩
      · exact ⟨0, by simp, by simpa using hxy, fun j hj => by omega⟩

set_option maxRecDepth 100000 in
set_option maxHeartbeats 400000 in
theorem same_no {w : World} {v1 v2 : Value} {cs bs : List Nat} (h1 : Sees w v1 cs) (h2 : Sees w v2 bs) (hl : cs.length = bs.length) (hn : cs ≠ bs) :
    Calls Try.prog 28 #[v1, v2] w fun e w' => e = .returned (.bool false) ∧ Quiet w w' := by
  obtain ⟨q, hq1, hq2, hq3⟩ := at_diff hl hn
  obtain ⟨a, cap, rfl, a1, a2, a3, a4⟩ := h1
  obtain ⟨b, cap2, rfl, b1, b2, b3, b4⟩ := h2
  have A4 := hide a4
  have B4 := hide b4
  have hml : cs.length ≤ 9223372036854775807 := by unfold maxLen at a2; omega
  rw [← hl] at b1 ⊢
  clear a3 a4 b3 b4 hn
  have HB := hide hl.symm
  clear hl
  generalize hL : cs.length = L at a1 b1 hml hq1 HB ⊢
  have HL := hide hL
  clear hL
  have HQ := hide hq3
  have HQ2 := hide hq2
  clear hq2 hq3
  go_enter Try.func28, Try.ntmps28
  go_wp2_with fail
  go_loopw [5] (fun i wr => ∃ k : Nat, k ≤ q ∧ i = .int .i64 k ∧ ∃ m, wr = w.drewN m) (fun i _ => L - (intOf i).toNat)
  case atStart => exact ⟨0, by omega, rfl, 0, rfl⟩
  case round =>
    obtain ⟨k, hk, rfl, m, hq⟩ := hrel
    subst hq
    have hkl : k < L := by omega
    obtain ⟨b1', o1, rfl, c1⟩ := at_sees (unhide HL) (unhide A4) hkl
    obtain ⟨b2', o2, rfl, c2⟩ := at_sees (unhide HB) (unhide B4) hkl
    by_cases hkq : k < q
    · have e := unhide HQ k hkq
      rw [e] at c1
      generalize bs.getD k 0 = x at c1 c2
      clear e
      go_wp2
      go_quiet (fail)
      go_wp2
      go_roundw
      case rel => exact ⟨k + 1, by omega, by simp, _, rfl⟩
      case measure => simp [intOf]; omega
    · obtain rfl : k = q := by omega
      have e := unhide HQ2
      generalize cs.getD k 0 = x at c1 e
      generalize bs.getD k 0 = y at c2 e
      have t1 : ((x : Int) == (y : Int)) = false := by simp; omega
      clear e hkq
      go_wp2
      go_quiet (fail)
      go_wp2
      go_ret
      exact ⟨rfl, ((Quiet.refl w).drewN _).drewN _⟩

theorem same_dec {w : World} {v1 v2 : Value} {cs bs : List Nat} (h1 : Sees w v1 cs) (h2 : Sees w v2 bs) (hl : cs.length = bs.length) :
    Calls Try.prog 28 #[v1, v2] w fun e w' => e = .returned (.bool (decide (cs = bs))) ∧ Quiet w w' := by
  by_cases h : cs = bs
  · subst h
    refine (same_any h1 h2).mono ?_
    rintro e w' ⟨rfl, m, rfl⟩
    exact ⟨by simp, (Quiet.refl w).drewN m⟩
  · refine (same_no h1 h2 hl h).mono ?_
    rintro e w' ⟨rfl, hq⟩
    exact ⟨by simp [h], hq⟩
theorem same_q {w : World} {v1 v2 : Value} {bs : List Nat} (h1 : Sees w v1 bs) (h2 : Sees w v2 bs) :
    Calls Try.prog 28 #[v1, v2] w fun e w' => e = .returned (.bool true) ∧ Quiet w w' := by
  refine (same_any h1 h2).mono ?_
  rintro e w' ⟨rfl, m, rfl⟩
  exact ⟨rfl, (Quiet.refl w).drewN m⟩
def three : List Nat := [201, 202, 203]
/-- the bytes bs lie in block g, three marks behind them -/
def Lent (w : World) (base g cap L : Nat) (bs : List Nat) : Prop :=
  bs.length = L ∧ (∀ x ∈ bs, x < 256) ∧ w.ownsRow base 5 1 (.slice (some ⟨g, 0, none⟩) (L + 3) cap) (L + 3) (u8s (bs ++ three))

theorem Lent.kept {F : List Nat} {w w' : World} {base g cap L : Nat} {bs : List Nat} (h : Lent w base g cap L bs) (hk : Kept F w w') (hn : g ∉ F) : Lent w' base g cap L bs :=
  ⟨h.1, h.2.1, own_kept h.2.2 hk (fun k hk' => by simp [Value.ownBlock] at hk'; subst hk'; exact hn)⟩
theorem Lent.caps {w : World} {base g cap L : Nat} {bs : List Nat} (h : Lent w base g cap L bs) : L + 3 ≤ cap ∧ cap ≤ 9223372036854775807 ∧ base ≤ g ∧ g < w.heap.size := by
  obtain ⟨g', cap', hv, h1, h2, h3, h4⟩ := row_of_own h.2.2 (by omega)
  cases hv
  unfold maxLen at h4
  exact ⟨h3, by omega, h1, h2⟩
theorem Lent.cell {w : World} {base g cap L : Nat} {bs : List Nat} (h : Lent w base g cap L bs) {k : Nat} (hk : k < L) : w.cell? ⟨g, k, none⟩ = some (.int .u8 (bs.getD k 0 : Nat)) := by
  have h1 := own_cell h.2.2 (show k < (bs ++ three).length by rw [List.length_append, h.1]; omega)
  rw [h1, List.getD, List.getD, List.getElem?_append_left (by rw [h.1]; exact hk)]
theorem Lent.mark {w : World} {base g cap L : Nat} {bs : List Nat} (h : Lent w base g cap L bs) {k : Nat} (hk : k < 3) : w.cell? ⟨g, L + k, none⟩ = some (.int .u8 (three.getD k 0 : Nat)) := by
  have h1 := own_cell h.2.2 (show L + k < (bs ++ three).length by rw [List.length_append, h.1]; simp [three]; omega)
  rw [h1, List.getD, List.getD, List.getElem?_append_right (by rw [h.1]; omega), h.1, show L + k - L = k by omega]
theorem Lent.frozen {w : World} {base g cap L : Nat} {bs : List Nat} (h : Lent w base g cap L bs) (k : Nat) : w.frozen? ⟨g, k, none⟩ = false := own_frozen h.2.2 k
theorem Lent.sees {w : World} {base g cap L : Nat} {bs : List Nat} (h : Lent w base g cap L bs) : Sees w (.slice (some ⟨g, 0, none⟩) L cap) bs := by
  obtain ⟨h1, h2, h3, h4⟩ := h.caps
  refine ⟨_, cap, by rw [h.1], by rw [h.1]; omega, by unfold maxLen; omega, h.2.1, Or.inr ⟨g, 0, rfl, h4, fun j hj => ?_⟩⟩
  rw [Nat.zero_add]
  exact h.cell (by rw [← h.1]; exact hj)
theorem Lent.set {w : World} {base g cap L : Nat} {bs : List Nat} (h : Lent w base g cap L bs) {k y : Nat} (hk : k < L) (hy : y < 256) : Lent (w.setCell ⟨g, k, none⟩ (.int .u8 (y : Int))) base g cap L (bs.set k y) := by
  refine ⟨by rw [List.length_set]; exact h.1, set_bytes h.2.1 hy, ?_⟩
  have h1 := own_set h.2.2 k y
  rwa [List.set_append_left _ _ (by rw [h.1]; exact hk)] at h1

set_option maxRecDepth 100000 in
set_option maxHeartbeats 1000000 in
theorem lent_any {w : World} {v : Value} {bs : List Nat} (hs : Sees w v bs) (hl : bs.length ≤ 140737488351232) :
    Calls Try.prog 8 #[v] w fun e w' => ∃ g cap, e = .returned (.slice (some ⟨g, 0, none⟩) bs.length cap) ∧ Lent w' w.heap.size g cap bs.length bs ∧ Kept [] w w' := by
  obtain ⟨i0, hi, hz0, hz1, hz2⟩ := info_parts info5p
  have HB : Hid (∀ x ∈ bs, x < 256) := by obtain ⟨_, _, _, _, _, h, _⟩ := hs; exact h
  have HS := hide hs
  obtain ⟨p, pc, hp, -⟩ := hs
  subst hp
  have HI := hide (⟨hi, hz0, hz1, hz2⟩ : _ ∧ _ ∧ _ ∧ _)
  clear hi hz0 hz1 hz2
  generalize hA : bs.length = L at *
  have HA := hide hA
  clear hA
  have hmx : L + 3 ≤ maxLen := by unfold maxLen; omega
  have e3 : ((L : Int) + 3) = ((L + 3 : Nat) : Int) := by omega
  have HE3 := hide e3
  clear e3
  go_enter Try.func8, Try.ntmps8
  go_wp2_with (at_make; refine wpList_make_own _ rfl _ _ 22 rfl w.heap.size 5 i0 (.int .u8 0) 1 Try.underlying22 (unhide HI).1 (unhide HI).2.1 (unhide HI).2.2.1 .i64 .i64 _ (L + 3) rfl rfl (unhide HE3) ?b2 hmx (Nat.le_refl _) ?_)
  case b2 => rw [(unhide HI).2.2.2]; omega
  intro w1 ho1 hg1
  have HO1 : Hid (w1.ownsRow w.heap.size 5 1 (.slice (some ⟨w.heap.size, 0, none⟩) 0 (L + 3)) ([] : List Nat).length (u8s [])) := ho1
  have HK1 : Hid (Kept [] w w1) := (Kept.refl [] w).grown hg1 (fun k hk => by cases hk)
  have hle1 := (unhide HK1).size
  have HS1 : Hid (Sees w1 (.slice p L pc) bs) := (unhide HS).kept (unhide HK1) (Or.inr (by simp))
  clear ho1 hg1
  go_wp2_with (at_builtin; refine wpList_append_sees _ rfl _ _ 22 rfl w.heap.size 5 i0 (.int .u8 0) Try.underlying22 (unhide HI).1 (unhide HI).2.1 (unhide HI).2.2.1 (unhide HI).2.2.2 rfl _ [] rfl (unhide HO1) _ bs rfl (unhide HS1) ?c1 hle1 ?_)
  case c1 => rw [unhide HA]; simp; omega
  intro v2 w2 ho2 hg2 hat2
  obtain ⟨a2, c2, rfl⟩ := own_len ho2
  have HO2 : Hid (w2.ownsRow w.heap.size 5 1 (.slice a2 bs.length c2) bs.length (u8s bs)) := ho2
  have HK2 : Hid (Kept [] w w2) := (unhide HK1).grown hg2 (fun k hk => Or.inr ((unhide HO1).lt k hk).1)
  clear ho2 hg2 hat2
  rw [unhide HA] at HO2 ⊢
  have hle2 := (unhide HK2).size
  have HO3 : Hid ((w2.alloc (.cells #[.int .u8 201, .int .u8 202, .int .u8 203] 5)).ownsRow w.heap.size 5 1 (.slice a2 L c2) bs.length (u8s bs)) := by
    rw [unhide HA]; exact own_kept (unhide HO2) ((Kept.refl [] _).alloc _) (by simp)
  have HS3 : Hid (Sees (w2.alloc (.cells #[.int .u8 201, .int .u8 202, .int .u8 203] 5)) (.slice (some ⟨w2.heap.size, 0, none⟩) 3 3) three) := Sees.of_blk (n := 3) rfl (Blk.new w2 _ 5) (by decide) 3 (by omega) (by omega)
  go_wp2_with (at_builtin; refine wpList_append_sees _ rfl _ _ 22 rfl w.heap.size 5 i0 (.int .u8 0) Try.underlying22 (unhide HI).1 (unhide HI).2.1 (unhide HI).2.2.1 (unhide HI).2.2.2 rfl _ bs rfl (unhide HO3) _ three rfl (unhide HS3) ?c1 ?c2 ?_)
  case c1 => rw [unhide HA]; simp [three]; omega
  case c2 => simp; omega
  intro v3 w3 ho3 hg3 hat3
  have hn3 : bs.length + three.length = L + 3 := by rw [unhide HA]; rfl
  rw [hn3] at ho3
  obtain ⟨g3, c3, hv3, hg3b, hg3l, hc3, hm3⟩ := row_of_own ho3 (by omega)
  subst hv3
  have HO4 := hide ho3
  have HK4 : Hid (Kept [] w w3) := ((unhide HK2).alloc _).grown hg3 (fun k hk => Or.inr ((unhide HO3).lt k hk).1)
  unfold maxLen at hm3
  clear ho3 hg3 hat3
  have t1 : (L : Int) ≤ (c3 : Int) := by omega
  have t2 : L ≤ c3 := by omega
  go_wp2
  go_ret
  exact ⟨g3, c3, rfl, ⟨unhide HA, unhide HB, unhide HO4⟩, unhide HK4⟩

set_option maxRecDepth 100000 in
set_option maxHeartbeats 400000 in
theorem kept_any {w : World} {base g cap L : Nat} {v : Value} {bs : List Nat} (h : Lent w base g cap L bs) (hv : Sees w v bs) :
    Calls Try.prog 14 #[.slice (some ⟨g, 0, none⟩) L cap, v] w fun e w' => e = .returned (.bool true) ∧ Quiet w w' := by
  have HS := hide (same_any h.sees hv)
  have m0 := h.mark (k := 0) (by omega)
  have m1 := h.mark (k := 1) (by omega)
  have m2 := h.mark (k := 2) (by omega)
  obtain ⟨h1, h2, -, -⟩ := h.caps
  obtain ⟨p, pc, rfl, -⟩ := hv
  rw [h.1] at HS ⊢
  clear h
  simp [three] at m0 m1 m2
  have t1 : (L : Int) + 3 ≤ (cap : Int) := by omega
  have t2 : ((L : Int) + 3).toNat = L + 3 := by omega
  have t3 : ((L : Int) + 1).toNat = L + 1 := by omega
  have t4 : ((L : Int) + 2).toNat = L + 2 := by omega
  have t5 : (0 : Int) ≤ (L : Int) + 3 := by omega
  go_enter Try.func14, Try.ntmps14
  go_wp2_with (first | (go_at_call 28; refine (unhide HS).mono ?_; rintro e w' ⟨rfl, m, rfl⟩))
  go_ret
  exact ⟨rfl, (Quiet.refl w).drewN m⟩

/-- bytes written over -/
def ov (l : List Nat) : List Nat := l.map (255 - ·)
theorem ov_len (l : List Nat) : (ov l).length = l.length := by simp [ov]

set_option maxRecDepth 100000 in
set_option maxHeartbeats 1000000 in
theorem over_any {w : World} {g cap L : Nat} {bs : List Nat} (hL : bs.length = L) (hb : ∀ x ∈ bs, x < 256) (hm : L ≤ 9223372036854775807) (hc : ∀ k, k < L → w.cell? ⟨g, k, none⟩ = some (.int .u8 (bs.getD k 0 : Nat))) (hf : ∀ k, w.frozen? ⟨g, k, none⟩ = false) :
    Calls Try.prog 15 #[.slice (some ⟨g, 0, none⟩) L cap] w fun e w' => e = .returned (.tuple #[]) ∧ Kept [g] w w' := by
  have HB : Hid (∀ k, k < L → bs.getD k 0 < 256) := fun k hk => getD_lt hb (by rw [hL]; exact hk)
  have HC := hide hc
  have HF := hide hf
  clear hc hf hb hL
  go_enter Try.func15, Try.ntmps15
  go_wp2_with fail
  go_loopw [2] (fun i wr => ∃ k : Nat, k ≤ L ∧ i = .int .i64 k ∧ (∀ j, k ≤ j → j < L → wr.cell? ⟨g, j, none⟩ = some (.int .u8 (bs.getD j 0 : Nat))) ∧ (∀ j, wr.frozen? ⟨g, j, none⟩ = false) ∧ Kept [g] w wr) (fun i _ => L - (intOf i).toNat)
  case atStart => exact ⟨0, by omega, rfl, fun j _ hj => unhide HC j hj, unhide HF, Kept.refl _ _⟩
  case round =>
    obtain ⟨k, hk, rfl, h1, h2, h3⟩ := hrel
    have H1 := hide h1
    have H2 := hide h2
    have H3 := hide h3
    by_cases hkl : k < L
    · have c := h1 k (Nat.le_refl _) hkl
      have f := h2 k
      have hx := unhide HB k hkl
      clear h1 h2 h3
      have t1 : (k : Int) < (L : Int) := by omega
      have HN : Hid (∀ j, k + 1 ≤ j → j < L → wr.cell? ⟨g, j, none⟩ = some (.int .u8 (bs.getD j 0 : Nat))) := fun j h1 h2 => unhide H1 j (by omega) h2
      generalize bs.getD k 0 = x at c hx
      have t2 : IntKind.u8.wrap (255 - (x : Int)) = ((255 - x : Nat) : Int) := by rw [IntKind.wrap_u8]; omega
      go_wp2
      refine ⟨⟨k + 1, by omega, by simp, fun j hj1 hj2 => ?_, fun j => ?_, (unhide H3).setCell (p := ⟨g, k, none⟩) (Or.inl (by simp)) _⟩, by simp [intOf]; omega⟩
      · rw [World.cell?_setCell_other _ _ _ _ (by simp <;> omega)]
        exact unhide HN j hj1 hj2
      · rw [World.frozen?_setCell]; exact unhide H2 j
    · obtain rfl : k = L := by omega
      clear h1 h2 h3
      go_wp2
      refine bodyPost_end (results_none rfl _ _ _) rfl ?_
      exact ⟨rfl, unhide H3⟩
theorem over_nil (w : World) : Calls Try.prog 15 #[.slice none 0 0] w fun e w' => e = .returned (.tuple #[]) ∧ w' = w := by
  go_enter Try.func15, Try.ntmps15
  go_wp2_with fail
  go_loopw [2] (fun i wr => i = .int .i64 0 ∧ wr = w) (fun _ _ => 0)
  case atStart => exact ⟨rfl, rfl⟩
  case round =>
    obtain ⟨rfl, hq⟩ := hrel
    have hq' := hq.symm
    subst hq'
    go_wp2
    refine bodyPost_end (results_none rfl _ _ _) rfl ?_
    exact ⟨rfl, rfl⟩

/-- a sector of one byte -/
def fl (b : Nat) : List Nat := List.replicate 64 b
theorem fl_len (b : Nat) : (fl b).length = 64 := by simp [fl]
theorem fl_byte {b : Nat} (hb : b < 256) : ∀ x ∈ fl b, x < 256 := by intro x hx; rw [List.eq_of_mem_replicate hx]; exact hb

set_option maxRecDepth 100000 in
set_option maxHeartbeats 1000000 in
theorem full_any (w : World) (b : Nat) : Calls Try.prog 20 #[.int .u8 b] w fun e w' => ∃ g, e = .returned (.slice (some ⟨g, 0, none⟩) 64 64) ∧ Blk w' g (u8s (fl b)).toArray 5 ∧ w.heap.size ≤ g ∧ Kept [] w w' := by
  obtain ⟨i0, hi, hz0, hz1, hz2⟩ := info_parts info5p
  have HI := hide (⟨hi, hz0, hz1, hz2⟩ : _ ∧ _ ∧ _ ∧ _)
  clear hi hz0 hz1 hz2
  obtain ⟨M, hM⟩ : ∃ M, M = madeCells #[Value.int .u8 0] 64 := ⟨_, rfl⟩
  have hMs : M.size = 64 := by rw [hM]; exact size_madeCells _ _
  go_enter Try.func20, Try.ntmps20
  go_wp2_with (at_make; refine wpList_make_row _ rfl _ _ 22 rfl 5 i0 (.int .u8 0) Try.underlying22 (unhide HI).1 (unhide HI).2.1 (unhide HI).2.2.1 rfl .i64 .i64 64 rfl rfl (by rw [(unhide HI).2.2.2]; omega) (by omega) ?_; rw [← hM]; have HM := hide hM; clear hM)
  go_loopw [4] (fun i wr => ∃ k : Nat, k ≤ 64 ∧ i = .int .i64 k ∧ (∃ cs : Array Value, Blk wr w.heap.size cs 5 ∧ cs.size = 64 ∧ ∀ j, j < k → cs[j]? = some (.int .u8 (b : Int))) ∧ Kept [] w wr) (fun i _ => 64 - (intOf i).toNat)
  case atStart => exact ⟨0, by omega, rfl, ⟨M, Blk.new _ _ _, hMs, fun j hj => by omega⟩, (Kept.refl _ _).alloc _⟩
  case round =>
    obtain ⟨k, hk, rfl, ⟨cs, h1, h2, h3⟩, h4⟩ := hrel
    by_cases hkl : k < 64
    · have c : wr.cell? ⟨w.heap.size, k, none⟩ = some cs[k] := by rw [h1.cell]; exact Array.getElem?_eq_getElem (by omega)
      have f := h1.frozen k
      generalize cs[k] = old at c
      have H1 := hide h1
      have H3 := hide h3
      have H4 := hide h4
      have t1 : (k : Int) < 64 := by omega
      clear h1 h3 h4
      go_wp2
      refine ⟨⟨k + 1, by omega, by simp, ⟨_, (unhide H1).set k _, by simpa using h2, fun j hj => ?_⟩, (unhide H4).setCell (p := ⟨w.heap.size, k, none⟩) (Or.inr (Nat.le_refl _)) _⟩, by simp [intOf]; omega⟩
      by_cases e : j = k
      · subst e; simp [h2, hkl]
      · rw [Array.getElem?_setIfInBounds_ne (by omega)]
        exact unhide H3 j (by omega)
    · obtain rfl : k = 64 := by omega
      have e : cs = (u8s (fl b)).toArray := by
        apply Array.ext_getElem?
        intro j
        by_cases hj : j < 64
        · rw [h3 j hj]
          simp only [fl, u8s, List.getElem?_toArray, List.getElem?_map, List.getElem?_replicate, if_pos hj]; rfl
        · rw [Array.getElem?_eq_none (by omega), Array.getElem?_eq_none (by simp [u8s_length, fl_len]; omega)]
      subst e
      have H1 := hide h1
      have H4 := hide h4
      clear h1 h2 h3 h4
      go_wp2
      go_ret
      exact ⟨_, rfl, unhide H1, Nat.le_refl _, unhide H4⟩
end Go.Proofs.Ytfaoblnghkiibaa
