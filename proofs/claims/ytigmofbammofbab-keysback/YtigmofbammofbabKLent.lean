/- lent: bytes in memory of their own, with two marks behind them. -/
import Derived.Test.YtigmofbammofbabKCount
namespace Go.Proofs.Ytigmofbammofbab
open Go.RowKit

def two : List Nat := [201, 77]
/-- the bytes bs lie in block g, two marks behind them -/
def Lent (w : World) (base g cap L : Nat) (bs : List Nat) : Prop :=
  bs.length = L ∧ (∀ x ∈ bs, x < 256) ∧ w.ownsRow base 5 1 (.slice (some ⟨g, 0, none⟩) (L + 2) cap) (L + 2) (u8s (bs ++ two))

theorem Lent.kept {F : List Nat} {w w' : World} {base g cap L : Nat} {bs : List Nat} (h : Lent w base g cap L bs) (hk : Kept F w w') (hn : g ∉ F) : Lent w' base g cap L bs :=
  ⟨h.1, h.2.1, own_kept h.2.2 hk (fun k hk' => by simp [Value.ownBlock] at hk'; subst hk'; exact hn)⟩
theorem Lent.caps {w : World} {base g cap L : Nat} {bs : List Nat} (h : Lent w base g cap L bs) : L + 2 ≤ cap ∧ cap ≤ 9223372036854775807 ∧ base ≤ g ∧ g < w.heap.size := by
  obtain ⟨g', cap', hv, h1, h2, h3, h4⟩ := row_of_own h.2.2 (by omega)
  cases hv
  unfold maxLen at h4
  exact ⟨h3, by omega, h1, h2⟩
theorem Lent.cell {w : World} {base g cap L : Nat} {bs : List Nat} (h : Lent w base g cap L bs) {k : Nat} (hk : k < L) : w.cell? ⟨g, k, none⟩ = some (.int .u8 (bs.getD k 0 : Nat)) := by
  have h1 := own_cell h.2.2 (show k < (bs ++ two).length by rw [List.length_append, h.1]; omega)
  rw [h1, List.getD, List.getD, List.getElem?_append_left (by rw [h.1]; exact hk)]
theorem Lent.mark {w : World} {base g cap L : Nat} {bs : List Nat} (h : Lent w base g cap L bs) {k : Nat} (hk : k < 2) : w.cell? ⟨g, L + k, none⟩ = some (.int .u8 (two.getD k 0 : Nat)) := by
  have h1 := own_cell h.2.2 (show L + k < (bs ++ two).length by rw [List.length_append, h.1]; simp [two]; omega)
  rw [h1, List.getD, List.getD, List.getElem?_append_right (by rw [h.1]; omega), h.1, show L + k - L = k by omega]
theorem Lent.frozen {w : World} {base g cap L : Nat} {bs : List Nat} (h : Lent w base g cap L bs) (k : Nat) : w.frozen? ⟨g, k, none⟩ = false := own_frozen h.2.2 k
theorem Lent.sees {w : World} {base g cap L : Nat} {bs : List Nat} (h : Lent w base g cap L bs) : Sees w (.slice (some ⟨g, 0, none⟩) L cap) bs := by
  obtain ⟨h1, h2, h3, h4⟩ := h.caps
  refine ⟨_, cap, by rw [h.1], by rw [h.1]; omega, by unfold maxLen; omega, h.2.1, Or.inr ⟨g, 0, rfl, h4, fun j hj => ?_⟩⟩
  rw [Nat.zero_add]
  exact h.cell (by rw [← h.1]; exact hj)
theorem Lent.set {w : World} {base g cap L : Nat} {bs : List Nat} (h : Lent w base g cap L bs) {k y : Nat} (hk : k < L) (hy : y < 256) : Lent (w.setCell ⟨g, k, none⟩ (.int .u8 (y : Int))) base g cap L (bs.set k y) := by
  refine ⟨by rw [List.length_set]; exact h.1, set_bytes h.2.1 hy, ?_⟩
  have h1 := own_set h.2.2 k y
  rwa [List.set_append_left _ _ (by rw [h.1]; exact hk)] at h1

theorem own_new_nil (w : World) : (w.alloc (.cells #[] 5)).ownsRow w.heap.size 5 1 (.slice (some ⟨w.heap.size, 0, none⟩) 0 0) ([] : List Nat).length (u8s []) := by
  refine ⟨by simp [u8s], Or.inr ⟨w.heap.size, 0, #[], rfl, Nat.le_refl _, heap_alloc_new w _, by simp, by simp [maxLen], by simp, by simp [u8s]⟩⟩

set_option maxRecDepth 100000 in
set_option maxHeartbeats 1000000 in
theorem lent_any {w : World} {v : Value} {bs : List Nat} (hs : Sees w v bs) (hl : bs.length ≤ 140737488351232) :
    Calls Try.prog 29 #[v] w fun e w' => ∃ g cap, e = .returned (.slice (some ⟨g, 0, none⟩) bs.length cap) ∧ Lent w' w.heap.size g cap bs.length bs ∧ Kept [] w w' := by
  obtain ⟨i0, hi, hz0, hz1, hz2⟩ := info_parts info5p
  have HB : Hid (∀ x ∈ bs, x < 256) := by obtain ⟨_, _, _, _, _, h, _⟩ := hs; exact h
  have HS := hide hs
  obtain ⟨p, pc, hp, -⟩ := hs
  subst hp
  have HI := hide (⟨hi, hz0, hz1, hz2⟩ : _ ∧ _ ∧ _ ∧ _)
  clear hi hz0 hz1 hz2
  generalize hA : bs.length = L at *
  have HA := hide hA
  clear hA
  have hmx : L + 2 ≤ maxLen := by unfold maxLen; omega
  have e3 : ((L : Int) + 2) = ((L + 2 : Nat) : Int) := by omega
  have HE3 := hide e3
  clear e3
  have HO1 : Hid ((w.alloc (.cells #[] 5)).ownsRow w.heap.size 5 1 (.slice (some ⟨w.heap.size, 0, none⟩) 0 0) ([] : List Nat).length (u8s [])) := own_new_nil w
  have HK1 : Hid (Kept [] w (w.alloc (.cells #[] 5))) := (Kept.refl [] w).alloc _
  have hle1 : w.heap.size ≤ (w.alloc (.cells #[] 5)).heap.size := (unhide HK1).size
  have HS1 : Hid (Sees (w.alloc (.cells #[] 5)) (.slice p L pc) bs) := (unhide HS).kept (unhide HK1) (Or.inr (by simp))
  have HLE := hide hle1
  clear hle1
  go_enter Try.func29, Try.ntmps29
  go_wp2_with (at_builtin; refine wpList_append_sees _ rfl _ _ 25 rfl w.heap.size 5 i0 (.int .u8 0) Try.underlying25 (unhide HI).1 (unhide HI).2.1 (unhide HI).2.2.1 (unhide HI).2.2.2 rfl _ [] rfl (unhide HO1) _ bs rfl (unhide HS1) ?c1 (unhide HLE) ?_)
  case c1 => rw [unhide HA]; simp; omega
  intro v2 w2 ho2 hg2 hat2
  obtain ⟨a2, c2, rfl⟩ := own_len ho2
  have HO2 : Hid (w2.ownsRow w.heap.size 5 1 (.slice a2 bs.length c2) bs.length (u8s bs)) := ho2
  have HK2 : Hid (Kept [] w w2) := (unhide HK1).grown hg2 (fun k hk => Or.inr ((unhide HO1).lt k hk).1)
  clear ho2 hg2 hat2
  rw [unhide HA] at HO2 ⊢
  have hle2 := (unhide HK2).size
  have HO3 : Hid ((w2.alloc (.cells #[.int .u8 201, .int .u8 77] 5)).ownsRow w.heap.size 5 1 (.slice a2 L c2) bs.length (u8s bs)) := by
    rw [unhide HA]; exact own_kept (unhide HO2) ((Kept.refl [] _).alloc _) (by simp)
  have HS3 : Hid (Sees (w2.alloc (.cells #[.int .u8 201, .int .u8 77] 5)) (.slice (some ⟨w2.heap.size, 0, none⟩) 2 2) two) := Sees.of_blk (n := 2) rfl (Blk.new w2 _ 5) (by decide) 2 (by omega) (by omega)
  go_wp2_with (at_builtin; refine wpList_append_sees _ rfl _ _ 25 rfl w.heap.size 5 i0 (.int .u8 0) Try.underlying25 (unhide HI).1 (unhide HI).2.1 (unhide HI).2.2.1 (unhide HI).2.2.2 rfl _ bs rfl (unhide HO3) _ two rfl (unhide HS3) ?c1 ?c2 ?_)
  case c1 => rw [unhide HA]; simp [two]; omega
  case c2 => simp; omega
  intro v3 w3 ho3 hg3 hat3
  have hn3 : bs.length + two.length = L + 2 := by rw [unhide HA]; rfl
  rw [hn3] at ho3
  obtain ⟨g3, c3, hv3, hg3b, hg3l, hc3, hm3⟩ := row_of_own ho3 (by omega)
  subst hv3
  have HO4 := hide ho3
  have HK4 : Hid (Kept [] w w3) := ((unhide HK2).alloc _).grown hg3 (fun k hk => Or.inr ((unhide HO3).lt k hk).1)
  unfold maxLen at hm3
  clear ho3 hg3 hat3
  have t1 : (L : Int) ≤ (c3 : Int) := by omega
  have t2 : L ≤ c3 := by omega
  go_wp2
  go_ret
  exact ⟨g3, c3, rfl, ⟨unhide HA, unhide HB, unhide HO4⟩, unhide HK4⟩

end Go.Proofs.Ytigmofbammofbab
