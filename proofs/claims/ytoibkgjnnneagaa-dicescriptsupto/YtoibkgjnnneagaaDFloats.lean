/- floats: words made weights, with a mark behind. -/
import Derived.Test.YtoibkgjnnneagaaDPick
import Derived.Maps.AppendAt
namespace Go.Proofs.Ytoibkgjnnneagaa
open Go.RowKit

theorem kb : ∀ (w : World) (n : Nat), (callFunc 34 #[.float .f64 n]).run Try.prog w = .ok (.value (.int .u64 n)) w := by intro w n; kernel_rfl
theorem kf : ∀ (w : World) (n : Int), (callFunc 49 #[.int .u64 n]).run Try.prog w = .ok (.value (.float .f64 n.toNat)) w := by intro w n; kernel_rfl

/-- The slice v reads as these numbers of 64 bits. -/
def SeesU (w : World) (v : Value) (l : List Nat) : Prop :=
  ∃ a cap, v = .slice a l.length cap ∧ l.length ≤ cap ∧ cap ≤ maxLen ∧
    (l = [] ∨ ∃ b off, a = some ⟨b, off, none⟩ ∧ b < w.heap.size ∧ ∀ j, j < l.length → w.cell? ⟨b, off + j, none⟩ = some (.int .u64 ((l.getD j 0 : Nat) : Int)))
theorem SeesU.kept {F : List Nat} {w w' : World} {v : Value} {l : List Nat} (h : SeesU w v l) (hk : Kept F w w') (hn : l = [] ∨ ∀ k, v.ownBlock = some k → k ∉ F) : SeesU w' v l := by
  obtain ⟨a, cap, rfl, h1, h2, h4⟩ := h
  refine ⟨a, cap, rfl, h1, h2, ?_⟩
  rcases h4 with h4 | ⟨b, off, rfl, h5, h6⟩
  · exact Or.inl h4
  · rcases hn with hn | hn
    · exact Or.inl hn
    · refine Or.inr ⟨b, off, rfl, Nat.lt_of_lt_of_le h5 hk.size, fun j hj => ?_⟩
      rw [hk.cell (p := ⟨b, off + j, none⟩) h5 (hn b rfl)]
      exact h6 j hj
theorem SeesU.at {w : World} {a : Option Addr} {L cap : Nat} {l : List Nat} (h : SeesU w (.slice a L cap) l) {k : Nat} (hk : k < L) : ∃ b off, a = some ⟨b, off, none⟩ ∧ w.cell? ⟨b, off + k, none⟩ = some (.int .u64 ((l.getD k 0 : Nat) : Int)) := by
  obtain ⟨a', cap', hv, h1, h2, h4⟩ := h
  have hl : L = l.length := by cases hv; rfl
  have ha : a = a' := by cases hv; rfl
  subst ha
  rcases h4 with h | ⟨b, off, e, _, h3⟩
  · subst h; simp at hl; omega
  · exact ⟨b, off, e, h3 k (by omega)⟩

/-- words as cells -/
def flts (l : List Nat) : List Value := l.map (Value.float .f64)
theorem flts_append (l m : List Nat) : flts (l ++ m) = flts l ++ flts m := by simp [flts]
theorem flts_length (l : List Nat) : (flts l).length = l.length := by simp [flts]
theorem flts_at (l : List Nat) {j : Nat} (hj : j < l.length) : (flts l)[j]? = some (.float .f64 (l.getD j 0)) := by
  simp [flts, List.getElem?_eq_getElem hj]
theorem infoFp : (Try.prog.info? 52).map (fun i => (i.zero, i.size, i.bytes)) = some (some (.float .f64 0), 1, 8) := by kernel_rfl
theorem cell_one_new (w : World) (x : Value) (t : TypeId) : ∀ j u, [x][j]? = some u → (w.alloc (.cells #[x] t)).cell? ((⟨w.heap.size, 0, none⟩ : Addr).add j) = some u := by
  intro j u hj
  have hadd : (⟨w.heap.size, 0, none⟩ : Addr).add j = ⟨w.heap.size, j, none⟩ := by unfold Addr.add; split <;> simp_all
  rw [hadd, (Blk.new w #[x] t).cell]
  simpa using hj
/-- weights of the call's own, the mark behind them -/
def FRow (w : World) (base g cap : Nat) (l : List Nat) : Prop := w.ownsRow base 52 1 (.slice (some ⟨g, 0, none⟩) (l.length + 1) cap) (l.length + 1) (flts (l ++ [13842939354630062080]))
theorem FRow.sees {w : World} {base g cap : Nat} {l : List Nat} (h : FRow w base g cap l) : SeesF w (.slice (some ⟨g, 0, none⟩) l.length cap) l := by
  have hc : ∀ j, j < l.length → w.cell? ⟨g, 0 + j, none⟩ = some (.float .f64 (l.getD j 0)) := by
    intro j hj
    have := h.cells (g := g) rfl j (.float .f64 (l.getD j 0)) (by rw [flts_append, List.getElem?_append_left (by rw [flts_length]; exact hj)]; exact flts_at l hj)
    have hadd : (⟨g, 0, none⟩ : Addr).add j = ⟨g, j, none⟩ := by unfold Addr.add; split <;> simp_all
    rw [hadd] at this
    rw [Nat.zero_add]; exact this
  rcases h.2 with ⟨h1, _⟩ | ⟨g', cap', cur, hv, hb, hg, hnc, hm, _⟩
  · cases h1
  · cases hv
    exact ⟨_, cap, rfl, by omega, hm, Or.inr ⟨g, 0, rfl, (Array.getElem?_eq_some_iff.1 hg).1, hc⟩⟩

set_option maxRecDepth 100000 in
set_option maxHeartbeats 2000000 in
theorem floats_any {w : World} {v : Value} {l : List Nat} (hs : SeesU w v l) (hl : l.length ≤ 2097152) :
    Calls Try.prog 39 #[v] w fun e w' => ∃ g cap, e = .returned (.slice (some ⟨g, 0, none⟩) l.length cap) ∧ FRow w' w.heap.size g cap l ∧ Kept [] w w' := by
  obtain ⟨i0, hi, hz0, hz1, hz2⟩ := info_parts infoFp
  have HI := hide (⟨hi, hz0, hz1, hz2⟩ : _ ∧ _ ∧ _ ∧ _)
  clear hi hz0 hz1 hz2
  have HS := hide hs
  obtain ⟨p, pc, rfl, h1, h2, -⟩ := hs
  have HF := kf
  generalize hLL : l.length = L at *
  have HL := hide hLL
  clear hLL
  go_enter Try.func39, Try.ntmps39
  go_wp2_with fail
  go_loopw [3, 4] (fun r i wr => ∃ k : Nat, k ≤ L ∧ i = .int .i64 k ∧ wr.ownsRow w.heap.size 52 1 r k (flts (l.take k)) ∧ Kept [] w wr) (fun _ i _ => L - (intOf i).toNat)
  case atStart => exact ⟨0, by omega, rfl, World.ownsRow_nil _ _ _ _, Kept.refl _ _⟩
  case round =>
    obtain ⟨k, hk, rfl, ho, hkp⟩ := hrel
    obtain ⟨ra, rc, rfl⟩ := own_len ho
    have HO := hide ho
    have HK := hide hkp
    clear ho hkp
    by_cases hlt : k < L
    · obtain ⟨b, off, hpa, hc⟩ := ((unhide HS).kept (unhide HK) (Or.inr (by simp))).at (k := k) hlt
      subst hpa
      have HT : Hid (l.take (k + 1) = l.take k ++ [l.getD k 0]) := by
        unfold Hid
        rw [List.take_add_one, List.getD, List.getElem?_eq_getElem (by rw [unhide HL]; exact hlt)]; rfl
      generalize l.getD k 0 = x at *
      have ex : ((x : Nat) : Int).toNat = x := by omega
      go_wp2_with (first
        | (at_builtin; refine wpList_append_own_at _ rfl _ _ 64 rfl w.heap.size 52 i0 _ 1 8 Try.underlying64 (unhide HI).1 (unhide HI).2.1 (unhide HI).2.2.1 (unhide HI).2.2.2 rfl (by decide) _ _ _ rfl ((unhide HO).alloc _) ⟨wr.heap.size, 0, none⟩ 1 1 [.float .f64 x] rfl rfl (cell_one_new _ _ _) (by simp [Value.oneCell']) (by unfold maxLen; omega) (by omega) (by have := (unhide HK).size; simp; omega) ?_))
      intro v' w2 hown' hgrow hnil hloc
      obtain ⟨va, vc, rfl⟩ := own_len hown'
      have HO2 : Hid (w2.ownsRow w.heap.size 52 1 (.slice va (k + 1) vc) (k + 1) (flts (l.take (k + 1)))) := by
        unfold Hid
        rw [unhide HT, flts_append]
        exact hown'
      have HK2 : Hid (Kept [] w w2) := ((unhide HK).alloc _).grown hgrow (fun k hk => Or.inr ((unhide HO).lt k hk).1)
      clear hown' hgrow hnil hloc
      go_wp2
      exact ⟨⟨k + 1, by omega, by simp, unhide HO2, unhide HK2⟩, by simp [intOf]; omega⟩
    · obtain rfl : k = L := by omega
      have HT : Hid (l.take k = l) := by unfold Hid; rw [← unhide HL, List.take_length]
      rw [unhide HT] at HO
      go_wp2_with (first
        | (at_builtin; refine wpList_append_own_at _ rfl _ _ 64 rfl w.heap.size 52 i0 _ 1 8 Try.underlying64 (unhide HI).1 (unhide HI).2.1 (unhide HI).2.2.1 (unhide HI).2.2.2 rfl (by decide) _ _ _ rfl ((unhide HO).alloc _) ⟨wr.heap.size, 0, none⟩ 1 1 [.float .f64 13842939354630062080] rfl rfl (cell_one_new _ _ _) (by simp [Value.oneCell']) (by unfold maxLen; omega) (by omega) (by have := (unhide HK).size; simp; omega) ?_))
      intro v' w2 hown' hgrow hnil hloc
      have hgo : ∃ g cap, v' = .slice (some ⟨g, 0, none⟩) (k + 1) cap ∧ k + 1 ≤ cap ∧ cap ≤ maxLen := by
        rcases hown'.2 with ⟨_, h0⟩ | ⟨g, cap, cur, hv, _, _, hc, hm, _⟩
        · omega
        · exact ⟨g, cap, hv, hc, hm⟩
      obtain ⟨g, cap, rfl, hc1, hc2⟩ := hgo
      have HO2 : Hid (w2.ownsRow w.heap.size 52 1 (.slice (some ⟨g, 0, none⟩) (k + 1) cap) (k + 1) (flts (l ++ [13842939354630062080]))) := by
        unfold Hid
        rw [flts_append]
        exact hown'
      have HK2 : Hid (Kept [] w w2) := ((unhide HK).alloc _).grown hgrow (fun k hk => Or.inr ((unhide HO).lt k hk).1)
      unfold maxLen at hc2
      clear hown' hgrow hnil hloc
      go_wp2
      go_ret
      exact ⟨g, cap, rfl, by unfold FRow; rw [unhide HL]; exact unhide HO2, unhide HK2⟩
end Go.Proofs.Ytoibkgjnnneagaa
