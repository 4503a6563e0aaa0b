/- lent, kept: bytes in memory of their own, with three marks behind them; the document's FNV. -/
import Derived.Test.YtiafnfjgmfnnoaaJByt
namespace Go.Proofs.Ytiafnfjgmfnnoaa
open Go.RowKit

def three : List Nat := [201, 202, 203]
/-- the bytes bs lie in block g, three marks behind them -/
def Lent (w : World) (base g cap L : Nat) (bs : List Nat) : Prop :=
  bs.length = L ∧ (∀ x ∈ bs, x < 256) ∧ w.ownsRow base 5 1 (.slice (some ⟨g, 0, none⟩) (L + 3) cap) (L + 3) (u8s (bs ++ three))

theorem Lent.kept {F : List Nat} {w w' : World} {base g cap L : Nat} {bs : List Nat} (h : Lent w base g cap L bs) (hk : Kept F w w') (hn : g ∉ F) : Lent w' base g cap L bs :=
  ⟨h.1, h.2.1, own_kept h.2.2 hk (fun k hk' => by simp [Value.ownBlock] at hk'; subst hk'; exact hn)⟩
theorem Lent.caps {w : World} {base g cap L : Nat} {bs : List Nat} (h : Lent w base g cap L bs) : L + 3 ≤ cap ∧ cap ≤ 9223372036854775807 ∧ base ≤ g ∧ g < w.heap.size := by
  obtain ⟨g', cap', hv, h1, h2, h3, h4⟩ := row_of_own h.2.2 (by omega)
  cases hv
  unfold maxLen at h4
  exact ⟨h3, by omega, h1, h2⟩
theorem Lent.cell {w : World} {base g cap L : Nat} {bs : List Nat} (h : Lent w base g cap L bs) {k : Nat} (hk : k < L) : w.cell? ⟨g, k, none⟩ = some (.int .u8 (bs.getD k 0 : Nat)) := by
  have h1 := own_cell h.2.2 (show k < (bs ++ three).length by rw [List.length_append, h.1]; omega)
  rw [h1, List.getD, List.getD, List.getElem?_append_left (by rw [h.1]; exact hk)]
theorem Lent.mark {w : World} {base g cap L : Nat} {bs : List Nat} (h : Lent w base g cap L bs) {k : Nat} (hk : k < 3) : w.cell? ⟨g, L + k, none⟩ = some (.int .u8 (three.getD k 0 : Nat)) := by
  have h1 := own_cell h.2.2 (show L + k < (bs ++ three).length by rw [List.length_append, h.1]; simp [three]; omega)
  rw [h1, List.getD, List.getD, List.getElem?_append_right (by rw [h.1]; omega), h.1, show L + k - L = k by omega]
theorem Lent.frozen {w : World} {base g cap L : Nat} {bs : List Nat} (h : Lent w base g cap L bs) (k : Nat) : w.frozen? ⟨g, k, none⟩ = false := own_frozen h.2.2 k
theorem Lent.sees {w : World} {base g cap L : Nat} {bs : List Nat} (h : Lent w base g cap L bs) : Sees w (.slice (some ⟨g, 0, none⟩) L cap) bs := by
  obtain ⟨h1, h2, h3, h4⟩ := h.caps
  refine ⟨_, cap, by rw [h.1], by rw [h.1]; omega, by unfold maxLen; omega, h.2.1, Or.inr ⟨g, 0, rfl, h4, fun j hj => ?_⟩⟩
  rw [Nat.zero_add]
  exact h.cell (by rw [← h.1]; exact hj)
theorem Lent.set {w : World} {base g cap L : Nat} {bs : List Nat} (h : Lent w base g cap L bs) {k y : Nat} (hk : k < L) (hy : y < 256) : Lent (w.setCell ⟨g, k, none⟩ (.int .u8 (y : Int))) base g cap L (bs.set k y) := by
  refine ⟨by rw [List.length_set]; exact h.1, set_bytes h.2.1 hy, ?_⟩
  have h1 := own_set h.2.2 k y
  rwa [List.set_append_left _ _ (by rw [h.1]; exact hk)] at h1

theorem own_new_nil (w : World) : (w.alloc (.cells #[] 5)).ownsRow w.heap.size 5 1 (.slice (some ⟨w.heap.size, 0, none⟩) 0 0) ([] : List Nat).length (u8s []) := by
  refine ⟨by simp [u8s], Or.inr ⟨w.heap.size, 0, #[], rfl, Nat.le_refl _, heap_alloc_new w _, by simp, by simp [maxLen], by simp, by simp [u8s]⟩⟩

set_option maxRecDepth 100000 in
set_option maxHeartbeats 1000000 in
theorem lent_any {w : World} {v : Value} {bs : List Nat} (hs : Sees w v bs) (hl : bs.length ≤ 140737488351232) :
    Calls Try.prog 14 #[v] w fun e w' => ∃ g cap, e = .returned (.slice (some ⟨g, 0, none⟩) bs.length cap) ∧ Lent w' w.heap.size g cap bs.length bs ∧ Kept [] w w' := by
  obtain ⟨i0, hi, hz0, hz1, hz2⟩ := info_parts info5p
  have HB : Hid (∀ x ∈ bs, x < 256) := by obtain ⟨_, _, _, _, _, h, _⟩ := hs; exact h
  have HS := hide hs
  obtain ⟨p, pc, hp, -⟩ := hs
  subst hp
  have HI := hide (⟨hi, hz0, hz1, hz2⟩ : _ ∧ _ ∧ _ ∧ _)
  clear hi hz0 hz1 hz2
  generalize hA : bs.length = L at *
  have HA := hide hA
  clear hA
  have hmx : L + 3 ≤ maxLen := by unfold maxLen; omega
  have e3 : ((L : Int) + 3) = ((L + 3 : Nat) : Int) := by omega
  have HE3 := hide e3
  clear e3
  have HO1 : Hid ((w.alloc (.cells #[] 5)).ownsRow w.heap.size 5 1 (.slice (some ⟨w.heap.size, 0, none⟩) 0 0) ([] : List Nat).length (u8s [])) := own_new_nil w
  have HK1 : Hid (Kept [] w (w.alloc (.cells #[] 5))) := (Kept.refl [] w).alloc _
  have hle1 : w.heap.size ≤ (w.alloc (.cells #[] 5)).heap.size := (unhide HK1).size
  have HS1 : Hid (Sees (w.alloc (.cells #[] 5)) (.slice p L pc) bs) := (unhide HS).kept (unhide HK1) (Or.inr (by simp))
  have HLE := hide hle1
  clear hle1
  go_enter Try.func14, Try.ntmps14
  go_wp2_with (at_builtin; refine wpList_append_sees _ rfl _ _ 28 rfl w.heap.size 5 i0 (.int .u8 0) Try.underlying28 (unhide HI).1 (unhide HI).2.1 (unhide HI).2.2.1 (unhide HI).2.2.2 rfl _ [] rfl (unhide HO1) _ bs rfl (unhide HS1) ?c1 (unhide HLE) ?_)
  case c1 => rw [unhide HA]; simp; omega
  intro v2 w2 ho2 hg2 hat2
  obtain ⟨a2, c2, rfl⟩ := own_len ho2
  have HO2 : Hid (w2.ownsRow w.heap.size 5 1 (.slice a2 bs.length c2) bs.length (u8s bs)) := ho2
  have HK2 : Hid (Kept [] w w2) := (unhide HK1).grown hg2 (fun k hk => Or.inr ((unhide HO1).lt k hk).1)
  clear ho2 hg2 hat2
  rw [unhide HA] at HO2 ⊢
  have hle2 := (unhide HK2).size
  have HO3 : Hid ((w2.alloc (.cells #[.int .u8 201, .int .u8 202, .int .u8 203] 5)).ownsRow w.heap.size 5 1 (.slice a2 L c2) bs.length (u8s bs)) := by
    rw [unhide HA]; exact own_kept (unhide HO2) ((Kept.refl [] _).alloc _) (by simp)
  have HS3 : Hid (Sees (w2.alloc (.cells #[.int .u8 201, .int .u8 202, .int .u8 203] 5)) (.slice (some ⟨w2.heap.size, 0, none⟩) 3 3) three) := Sees.of_blk (n := 3) rfl (Blk.new w2 _ 5) (by decide) 3 (by omega) (by omega)
  go_wp2_with (at_builtin; refine wpList_append_sees _ rfl _ _ 28 rfl w.heap.size 5 i0 (.int .u8 0) Try.underlying28 (unhide HI).1 (unhide HI).2.1 (unhide HI).2.2.1 (unhide HI).2.2.2 rfl _ bs rfl (unhide HO3) _ three rfl (unhide HS3) ?c1 ?c2 ?_)
  case c1 => rw [unhide HA]; simp [three]; omega
  case c2 => simp; omega
  intro v3 w3 ho3 hg3 hat3
  have hn3 : bs.length + three.length = L + 3 := by rw [unhide HA]; rfl
  rw [hn3] at ho3
  obtain ⟨g3, c3, hv3, hg3b, hg3l, hc3, hm3⟩ := row_of_own ho3 (by omega)
  subst hv3
  have HO4 := hide ho3
  have HK4 : Hid (Kept [] w w3) := ((unhide HK2).alloc _).grown hg3 (fun k hk => Or.inr ((unhide HO3).lt k hk).1)
  unfold maxLen at hm3
  clear ho3 hg3 hat3
  have t1 : (L : Int) ≤ (c3 : Int) := by omega
  have t2 : L ≤ c3 := by omega
  go_wp2
  go_ret
  exact ⟨g3, c3, rfl, ⟨unhide HA, unhide HB, unhide HO4⟩, unhide HK4⟩

set_option maxRecDepth 100000 in
set_option maxHeartbeats 400000 in
theorem rtaken_any {w : World} {v : Value} {bs : List Nat} (hs : Sees w v bs) (h : Nat) (hh : h < 18446744073709551616) :
    Calls Try.prog 45 #[.int .u64 h, v] w fun e w' => e = .returned (.int .u64 (marks h bs : Nat)) ∧ w' = w := by
  obtain ⟨a, cap, rfl, h1, h2, h3, h4⟩ := hs
  have H3 := hide h3
  have H4 := hide h4
  have hml : bs.length ≤ 9223372036854775807 := by unfold maxLen at h2; omega
  clear h3 h4
  generalize hL : bs.length = L at h1 hml
  have HL := hide hL
  clear hL
  go_enter Try.func45, Try.ntmps45
  go_wp2_with fail
  go_loop [0, 5] (fun r i => ∃ j : Nat, j ≤ L ∧ i = .int .i64 j ∧ r = .int .u64 (marks h (bs.take j) : Nat)) (fun _ i => L - (intOf i).toNat)
  case atStart => exact ⟨0, by omega, rfl, rfl⟩
  case round =>
    obtain ⟨j, hj, rfl, rfl⟩ := hrel
    have hl2 := marks_lt hh (bs.take j)
    by_cases hjl : j < L
    · obtain ⟨pb, poff, rfl, hpc⟩ := at_sees (unhide HL) (unhide H4) hjl
      have hx := getD_lt (unhide H3) (show j < bs.length by rw [unhide HL]; exact hjl)
      have HS := hide (marks_succ h bs j (by rw [unhide HL]; exact hjl))
      generalize bs.getD j 0 = x at hpc hx HS
      generalize marks h (bs.take j) = r at hl2 HS
      have e1 := u64_xor_nat r x hl2 (by omega)
      have HS2 : Hid (marks h (bs.take (j + 1)) = (r ^^^ x) * 1099511628211 % 18446744073709551616) := by
        have := unhide HS
        unfold mark1 at this
        exact this
      clear HS
      generalize r ^^^ x = y at e1 HS2
      go_wp2
      exact ⟨⟨j + 1, by omega, by simp, by rw [unhide HS2]; exact congrArg (Value.int .u64) (wrap_mul y 1099511628211)⟩, by simp [intOf]; omega⟩
    · obtain rfl : j = L := by omega
      have hfull : bs.take j = bs := by rw [← unhide HL, List.take_length]
      rw [hfull]
      go_wp2
      go_ret
      exact ⟨rfl, rfl⟩

set_option maxRecDepth 100000 in
set_option maxHeartbeats 400000 in
theorem rfnv_any {w : World} {v : Value} {ps : List (Value × List Nat)} (hs : Parts w v ps) :
    Calls Try.prog 35 #[v] w fun e w' => e = .returned (.int .u64 (marks fnv0 (catP ps) : Nat)) ∧ w' = w := by
  obtain ⟨a, cap, rfl, h1, h2, h3, h4⟩ := hs
  have hml : ps.length ≤ 9223372036854775807 := by unfold maxLen at h2; omega
  have H3 := hide h3
  have H4 := hide h4
  clear h3 h4
  generalize hL : ps.length = L at *
  have HL := hide hL
  clear hL
  go_enter Try.func35, Try.ntmps35
  go_wp2_with fail
  go_loop [3, 4] (fun r i => ∃ k : Nat, k ≤ L ∧ i = .int .i64 k ∧ r = .int .u64 (marks fnv0 (catP (ps.take k)) : Nat)) (fun _ i => L - (intOf i).toNat)
  case atStart => exact ⟨0, by omega, rfl, rfl⟩
  case round =>
    obtain ⟨k, hk, rfl, rfl⟩ := hrel
    have hlt : marks fnv0 (catP (ps.take k)) < 18446744073709551616 := marks_lt (by unfold fnv0; omega) _
    by_cases hkl : k < L
    · have hk2 : k < ps.length := by rw [unhide HL]; exact hkl
      obtain ⟨b, off, hc⟩ : ∃ b off, a = some ⟨b, off, none⟩ ∧ w.cell? ⟨b, off + k, none⟩ = some (ps[k].1) := by
        rcases unhide H4 with h | ⟨b, off, q1, _, q3⟩
        · subst h; simp at hk2
        · exact ⟨b, off, q1, q3 k ps[k] (List.getElem?_eq_getElem hk2)⟩
      obtain ⟨rfl, hc⟩ := hc
      have HTK := hide (rtaken_any (unhide H3 ps[k] (List.getElem_mem hk2)) _ hlt)
      obtain ⟨pa, pc, hpv, -⟩ := unhide H3 ps[k] (List.getElem_mem hk2)
      rw [hpv] at hc HTK
      have HE : Hid (marks fnv0 (catP (ps.take (k + 1))) = marks (marks fnv0 (catP (ps.take k))) ps[k].2) := by
        have := catP_succ ps k hk2
        unfold Hid
        rw [this, marks_append]
      rw [← unhide HE] at HTK
      clear hpv
      generalize ps[k].2.length = M at hc HTK
      generalize hmm : marks fnv0 (catP (ps.take (k + 1))) = m1 at HTK
      have HMM := hide hmm
      clear hmm HE
      generalize marks fnv0 (catP (ps.take k)) = m0 at hlt HTK
      go_wp2_with (first | (go_at_call 45; refine (unhide HTK).mono ?_; rintro e w' ⟨rfl, hq⟩; have hq' := hq.symm; subst hq'))
      exact ⟨⟨k + 1, by omega, by simp, by rw [unhide HMM]⟩, by simp [intOf]; omega⟩
    · obtain rfl : k = L := by omega
      have hfull : ps.take k = ps := by rw [← unhide HL, List.take_length]
      rw [hfull]
      go_wp2
      go_ret
      exact ⟨rfl, rfl⟩

end Go.Proofs.Ytiafnfjgmfnnoaa
