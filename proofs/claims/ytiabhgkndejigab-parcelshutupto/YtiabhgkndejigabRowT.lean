/- A slice of things. -/
import Derived.Test.YtiabhgkndejigabTree
namespace Go.Proofs.Ytiabhgkndejigab
open Go.RowKit

/-- The slice v holds the things ts. -/
def RowT (w : World) (v : Value) (ts : List Th) : Prop :=
  (∃ a, v = .slice a 0 0 ∧ ts = []) ∨
  ∃ b off cap, v = .slice (some ⟨b, off, none⟩) ts.length cap ∧ ts.length ≤ cap ∧ cap ≤ maxLen ∧ b < w.heap.size ∧ ∀ j (h : j < ts.length),
    w.cell? ⟨b, off + j * 4, none⟩ = some (.int .i64 ts[j].kind) ∧ w.cell? ⟨b, off + j * 4 + 1, none⟩ = some (.int .u64 (ts[j].n : Int)) ∧ w.cell? ⟨b, off + j * 4 + 2, none⟩ = some (.int .i64 ts[j].i) ∧ w.cell? ⟨b, off + j * 4 + 3, none⟩ = some (.slice ts[j].pa ts[j].p.length ts[j].pc)

theorem RowT.kept {F : List Nat} {w w' : World} {v : Value} {ts : List Th} (h : RowT w v ts) (k : Kept F w w') (hn : ∀ x, v.ownBlock = some x → x ∉ F) : RowT w' v ts := by
  rcases h with h | ⟨b, off, cap, rfl, h1, h2, h3, h4⟩
  · exact Or.inl h
  · refine Or.inr ⟨b, off, cap, rfl, h1, h2, Nat.lt_of_lt_of_le h3 k.size, fun j hj => ?_⟩
    obtain ⟨a0, a1, a2, a3⟩ := h4 j hj
    have hb := hn b rfl
    exact ⟨(k.cell (p := ⟨b, _, none⟩) h3 hb).trans a0, (k.cell (p := ⟨b, _, none⟩) h3 hb).trans a1, (k.cell (p := ⟨b, _, none⟩) h3 hb).trans a2, (k.cell (p := ⟨b, _, none⟩) h3 hb).trans a3⟩

theorem RowT.len {w : World} {v : Value} {ts : List Th} (h : RowT w v ts) : ∃ a cap, v = .slice a ts.length cap := by
  rcases h with ⟨a, rfl, rfl⟩ | ⟨b, off, cap, rfl, _⟩
  · exact ⟨a, 0, rfl⟩
  · exact ⟨_, _, rfl⟩

def sum1 (ts : List Th) : Nat := (ts.map fun t => 1 + t.p.length).sum
theorem sum1_take (ts : List Th) (k : Nat) (h : k < ts.length) : sum1 (ts.take (k + 1)) = sum1 (ts.take k) + 1 + ts[k].p.length := by
  unfold sum1; rw [List.take_succ_eq_append_getElem h, List.map_append, List.sum_append]; simp; omega

set_option maxRecDepth 100000 in
set_option maxHeartbeats 400000 in
theorem long_any {w : World} {v : Value} {ts : List Th} (h : RowT w v ts) (hp : ∀ t ∈ ts, t.p.length ≤ 4611686018427387904) :
    Calls Try.prog 24 #[v] w fun e w' => ∃ c, e = .returned (.bool c) ∧ (c = false → sum1 ts ≤ 1073741824) ∧ ∃ m, w' = w.drewN m := by
  obtain ⟨a, cap, rfl⟩ := h.len
  go_enter Try.func24, Try.ntmps24
  go_wp2
  go_loopw [3, 4] (fun n i wr => ∃ k m : Nat, k ≤ ts.length ∧ i = .int .i64 k ∧ n = .int .i64 (sum1 (ts.take k) : Nat) ∧ sum1 (ts.take k) ≤ 1073741824 ∧ wr = w.drewN m) (fun _ i _ => ts.length - (intOf i).toNat)
  case atStart => exact ⟨0, 0, by omega, rfl, by simp [sum1], by simp [sum1], rfl⟩
  case round =>
    obtain ⟨k, m, hk, rfl, rfl, hs, rfl⟩ := hrel
    by_cases hlt : k < ts.length
    · have hsum := sum1_take ts k hlt
      have hpk := hp ts[k] (List.getElem_mem hlt)
      rcases h with ⟨_, _, h2⟩ | ⟨b, off, cap', hv, _, hm, _, h4⟩
      · subst h2; simp at hlt
      cases hv
      obtain ⟨q0, q1, q2, q3⟩ := h4 k hlt
      have HS := hide hsum
      have hm2 : ts.length ≤ 9223372036854775807 := by unfold maxLen at hm; omega
      generalize ts[k] = t at *
      generalize sum1 (ts.take k) = S at *
      clear h4 hp hm hsum
      go_wp2
      · go_ret
        exact ⟨true, rfl, (fun h => by simp at h), m, rfl⟩
      · go_roundw
        case rel => exact ⟨k + 1, m, by omega, by go_num, by rw [unhide HS]; go_num, by rw [unhide HS]; omega, rfl⟩
        case measure => simp [intOf]; omega
    · have hk2 : k = ts.length := by omega
      subst hk2
      rw [List.take_length] at hs
      go_wp2
      go_ret
      exact ⟨false, rfl, fun _ => hs, m, rfl⟩

/-- What is known of the things of a row. -/
def AllT (w : World) (ts : List Th) : Prop := ∀ t ∈ ts, t.ok ∧ Wide w t.pv t.p
theorem AllT.kept {w w' : World} {ts : List Th} (h : AllT w ts) (k : Kept [] w w') : AllT w' ts := fun t ht => ⟨(h t ht).1, (h t ht).2.kept k⟩

theorem runW_take (s : WS) (ts : List Th) (k : Nat) (h : k < ts.length) : runW s (ts.take (k + 1)) = ts[k].lay (runW s (ts.take k)) := by
  rw [List.take_succ_eq_append_getElem h, runW_append]; rfl

/-- What holds of every state of a writer. -/
def WInv (s : WS) (R : Nat) : Prop := (∀ x ∈ s.sts, x ≤ s.bs.length) ∧ s.bs.length ≤ s.room ∧ s.room ≤ R ∧ s.fault < 1000
theorem WInv.new (room : Nat) : WInv (newWS room) room := ⟨by simp [newWS], by simp [newWS], by simp [newWS], by simp [newWS]⟩
theorem WInv.fail (c R : Nat) (hc : c < 1000) : WInv (failWS c) R := ⟨by simp [failWS], by simp [failWS], by simp [failWS], by simpa [failWS] using hc⟩
theorem WInv.lay {s : WS} {R : Nat} (h : WInv s R) (t : Th) : WInv (t.lay s) R := by
  obtain ⟨h1, h2, h3, h4⟩ := h
  unfold Th.lay
  split
  · unfold wOpen
    split
    · exact ⟨h1, h2, h3, h4⟩
    · split
      · exact WInv.fail _ _ (by omega)
      · refine ⟨fun x hx => ?_, h2, h3, h4⟩
        simp at hx
        rcases hx with h | h
        · exact h1 x h
        · simp; omega
  · split
    · unfold wClose
      split
      · exact ⟨h1, h2, h3, h4⟩
      · split
        · exact WInv.fail _ _ (by omega)
        · rename_i st hst
          split
          · rename_i hr
            have hstm : st ∈ s.sts := List.mem_of_getLast? hst
            have := h1 st hstm
            refine ⟨fun x hx => ?_, ?_, h3, h4⟩
            · have := h1 x ((List.dropLast_sublist _).subset hx)
              simp; omega
            · simp; omega
          · exact WInv.fail _ _ (by omega)
    · unfold wLay
      split
      · exact ⟨h1, h2, h3, h4⟩
      · split
        · rename_i hr
          refine ⟨fun x hx => ?_, by simpa using hr, h3, h4⟩
          have := h1 x hx
          simp; omega
        · exact WInv.fail _ _ (by omega)
theorem WInv.run {s : WS} {R : Nat} (h : WInv s R) (ts : List Th) : WInv (runW s ts) R := by
  induction ts generalizing s with
  | nil => exact h
  | cons t ts ih => exact ih (h.lay t)

set_option maxRecDepth 100000 in
set_option maxHeartbeats 400000 in
theorem new_int (room : Nat) (ri : Int) (hri : ri = (room : Int) ∨ (ri = -1 ∧ room = 0)) (hr : room < 9223372036854775808) (w : World) :
    Calls Try.prog 10 #[.int .i64 ri] w fun e w' => ∃ b, e = .returned (.pointer (some ⟨b, 0, none⟩)) ∧ w.heap.size ≤ b ∧ Wr w' b (newWS room) nilS nilS ∧ Kept [] w w' := by
  rcases hri with rfl | ⟨rfl, rfl⟩
  · exact new_any room w hr
  · go_enter Try.func10, Try.ntmps10
    go_wp2
    go_ret
    exact ⟨w.heap.size, rfl, Nat.le_refl _, ⟨Blk.new _ _ _, World.ownsRow_nil _ _ _ _, World.ownsRow_nil _ _ _ _, by simp [nilS, Value.ownBlock], by simp [nilS, Value.ownBlock], by simp [nilS, Value.ownBlock], hr, by simp [newWS], by simp [newWS], by simp [newWS]⟩, (Kept.refl _ _).alloc _⟩

end Go.Proofs.Ytiabhgkndejigab
