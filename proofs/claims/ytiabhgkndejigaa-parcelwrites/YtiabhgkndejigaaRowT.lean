/- A slice of things. -/
import Derived.Test.YtiabhgkndejigaaTree
namespace Go.Proofs.Ytiabhgkndejigaa
open Go.RowKit

/-- The slice v holds the things ts. -/
def RowT (w : World) (v : Value) (ts : List Th) : Prop :=
  (∃ a, v = .slice a 0 0 ∧ ts = []) ∨
  ∃ b off cap, v = .slice (some ⟨b, off, none⟩) ts.length cap ∧ ts.length ≤ cap ∧ cap ≤ maxLen ∧ b < w.heap.size ∧ ∀ j (h : j < ts.length),
    w.cell? ⟨b, off + j * 4, none⟩ = some (.int .i64 ts[j].kind) ∧ w.cell? ⟨b, off + j * 4 + 1, none⟩ = some (.int .u64 (ts[j].n : Int)) ∧ w.cell? ⟨b, off + j * 4 + 2, none⟩ = some (.int .i64 ts[j].i) ∧ w.cell? ⟨b, off + j * 4 + 3, none⟩ = some (.slice ts[j].pa ts[j].p.length ts[j].pc)

theorem RowT.kept {F : List Nat} {w w' : World} {v : Value} {ts : List Th} (h : RowT w v ts) (k : Kept F w w') (hn : ∀ x, v.ownBlock = some x → x ∉ F) : RowT w' v ts := by
  rcases h with h | ⟨b, off, cap, rfl, h1, h2, h3, h4⟩
  · exact Or.inl h
  · refine Or.inr ⟨b, off, cap, rfl, h1, h2, Nat.lt_of_lt_of_le h3 k.size, fun j hj => ?_⟩
    obtain ⟨a0, a1, a2, a3⟩ := h4 j hj
    have hb := hn b rfl
    exact ⟨(k.cell (p := ⟨b, _, none⟩) h3 hb).trans a0, (k.cell (p := ⟨b, _, none⟩) h3 hb).trans a1, (k.cell (p := ⟨b, _, none⟩) h3 hb).trans a2, (k.cell (p := ⟨b, _, none⟩) h3 hb).trans a3⟩

theorem RowT.len {w : World} {v : Value} {ts : List Th} (h : RowT w v ts) : ∃ a cap, v = .slice a ts.length cap := by
  rcases h with ⟨a, rfl, rfl⟩ | ⟨b, off, cap, rfl, _⟩
  · exact ⟨a, 0, rfl⟩
  · exact ⟨_, _, rfl⟩

def sum1 (ts : List Th) : Nat := (ts.map fun t => 1 + t.p.length).sum
theorem sum1_take (ts : List Th) (k : Nat) (h : k < ts.length) : sum1 (ts.take (k + 1)) = sum1 (ts.take k) + 1 + ts[k].p.length := by
  unfold sum1; rw [List.take_succ_eq_append_getElem h, List.map_append, List.sum_append]; simp; omega

set_option maxRecDepth 100000 in
set_option maxHeartbeats 400000 in
theorem long_any {w : World} {v : Value} {ts : List Th} (h : RowT w v ts) (hp : ∀ t ∈ ts, t.p.length ≤ 4611686018427387904) :
    Calls Try.prog 33 #[v] w fun e w' => ∃ c, e = .returned (.bool c) ∧ (c = false → sum1 ts ≤ 1073741824) ∧ ∃ m, w' = w.drewN m := by
  obtain ⟨a, cap, rfl⟩ := h.len
  go_enter Try.func33, Try.ntmps33
  go_wp2
  go_loopw [3, 4] (fun n i wr => ∃ k m : Nat, k ≤ ts.length ∧ i = .int .i64 k ∧ n = .int .i64 (sum1 (ts.take k) : Nat) ∧ sum1 (ts.take k) ≤ 1073741824 ∧ wr = w.drewN m) (fun _ i _ => ts.length - (intOf i).toNat)
  case atStart => exact ⟨0, 0, by omega, rfl, by simp [sum1], by simp [sum1], rfl⟩
  case round =>
    obtain ⟨k, m, hk, rfl, rfl, hs, rfl⟩ := hrel
    by_cases hlt : k < ts.length
    · have hsum := sum1_take ts k hlt
      have hpk := hp ts[k] (List.getElem_mem hlt)
      rcases h with ⟨_, _, h2⟩ | ⟨b, off, cap', hv, _, hm, _, h4⟩
      · subst h2; simp at hlt
      cases hv
      obtain ⟨q0, q1, q2, q3⟩ := h4 k hlt
      have HS := hide hsum
      have hm2 : ts.length ≤ 9223372036854775807 := by unfold maxLen at hm; omega
      generalize ts[k] = t at *
      generalize sum1 (ts.take k) = S at *
      clear h4 hp hm hsum
      go_wp2
      · go_ret
        exact ⟨true, rfl, (fun h => by simp at h), m, rfl⟩
      · go_roundw
        case rel => exact ⟨k + 1, m, by omega, by go_num, by rw [unhide HS]; go_num, by rw [unhide HS]; omega, rfl⟩
        case measure => simp [intOf]; omega
    · have hk2 : k = ts.length := by omega
      subst hk2
      rw [List.take_length] at hs
      go_wp2
      go_ret
      exact ⟨false, rfl, fun _ => hs, m, rfl⟩

/-- What is known of the things of a row. -/
def AllT (w : World) (ts : List Th) : Prop := ∀ t ∈ ts, t.ok ∧ Wide w t.pv t.p
theorem AllT.kept {w w' : World} {ts : List Th} (h : AllT w ts) (k : Kept [] w w') : AllT w' ts := fun t ht => ⟨(h t ht).1, (h t ht).2.kept k⟩

theorem runW_take (s : WS) (ts : List Th) (k : Nat) (h : k < ts.length) : runW s (ts.take (k + 1)) = ts[k].lay (runW s (ts.take k)) := by
  rw [List.take_succ_eq_append_getElem h, runW_append]; rfl

/-- What holds of every state of a writer. -/
def WInv (s : WS) (R : Nat) : Prop := (∀ x ∈ s.sts, x ≤ s.bs.length) ∧ s.bs.length ≤ s.room ∧ s.room ≤ R ∧ s.fault < 1000
theorem WInv.new (room : Nat) : WInv (newWS room) room := ⟨by simp [newWS], by simp [newWS], by simp [newWS], by simp [newWS]⟩
theorem WInv.fail (c R : Nat) (hc : c < 1000) : WInv (failWS c) R := ⟨by simp [failWS], by simp [failWS], by simp [failWS], by simpa [failWS] using hc⟩
theorem WInv.lay {s : WS} {R : Nat} (h : WInv s R) (t : Th) : WInv (t.lay s) R := by
  obtain ⟨h1, h2, h3, h4⟩ := h
  unfold Th.lay
  split
  · unfold wOpen
    split
    · exact ⟨h1, h2, h3, h4⟩
    · split
      · exact WInv.fail _ _ (by omega)
      · refine ⟨fun x hx => ?_, h2, h3, h4⟩
        simp at hx
        rcases hx with h | h
        · exact h1 x h
        · simp; omega
  · split
    · unfold wClose
      split
      · exact ⟨h1, h2, h3, h4⟩
      · split
        · exact WInv.fail _ _ (by omega)
        · rename_i st hst
          split
          · rename_i hr
            have hstm : st ∈ s.sts := List.mem_of_getLast? hst
            have := h1 st hstm
            refine ⟨fun x hx => ?_, ?_, h3, h4⟩
            · have := h1 x ((List.dropLast_sublist _).subset hx)
              simp; omega
            · simp; omega
          · exact WInv.fail _ _ (by omega)
    · unfold wLay
      split
      · exact ⟨h1, h2, h3, h4⟩
      · split
        · rename_i hr
          refine ⟨fun x hx => ?_, by simpa using hr, h3, h4⟩
          have := h1 x hx
          simp; omega
        · exact WInv.fail _ _ (by omega)
theorem WInv.run {s : WS} {R : Nat} (h : WInv s R) (ts : List Th) : WInv (runW s ts) R := by
  induction ts generalizing s with
  | nil => exact h
  | cons t ts ih => exact ih (h.lay t)

set_option maxRecDepth 100000 in
set_option maxHeartbeats 400000 in
theorem new_int (room : Nat) (ri : Int) (hri : ri = (room : Int) ∨ (ri = -1 ∧ room = 0)) (hr : room < 9223372036854775808) (w : World) :
    Calls Try.prog 9 #[.int .i64 ri] w fun e w' => ∃ b, e = .returned (.pointer (some ⟨b, 0, none⟩)) ∧ w.heap.size ≤ b ∧ Wr w' b (newWS room) nilS nilS ∧ Kept [] w w' := by
  rcases hri with rfl | ⟨rfl, rfl⟩
  · exact new_any room w hr
  · go_enter Try.func9, Try.ntmps9
    go_wp2
    go_ret
    exact ⟨w.heap.size, rfl, Nat.le_refl _, ⟨Blk.new _ _ _, World.ownsRow_nil _ _ _ _, World.ownsRow_nil _ _ _ _, by simp [nilS, Value.ownBlock], by simp [nilS, Value.ownBlock], by simp [nilS, Value.ownBlock], hr, by simp [newWS], by simp [newWS], by simp [newWS]⟩, (Kept.refl _ _).alloc _⟩

set_option maxRecDepth 100000 in
set_option maxHeartbeats 400000 in
/-- written: the writer's bytes, or its fault. -/
theorem written_any {w : World} {v : Value} {ts : List Th} (h : RowT w v ts) (ha : AllT w ts) (hp : ∀ t ∈ ts, t.p.length ≤ 1000000000000) (room : Nat) (ri : Int) (hri : ri = (room : Int) ∨ (ri = -1 ∧ room = 0)) (hr : room ≤ 1000000000000) (hst : (runW (newWS room) ts).fault = 0 → (runW (newWS room) ts).sts = []) :
    Calls Try.prog 36 #[v, .int .i64 ri] w fun e w' =>
      ((runW (newWS room) ts).fault = 0 → (runW (newWS room) ts).sts = [] → ∃ a cap, e = .returned (.tuple #[.slice a (runW (newWS room) ts).bs.length cap, .int .i64 0]) ∧ w'.ownsRow w.heap.size 5 1 (.slice a (runW (newWS room) ts).bs.length cap) (runW (newWS room) ts).bs.length (u8s (runW (newWS room) ts).bs)) ∧
      ((runW (newWS room) ts).fault ≠ 0 → e = .returned (.tuple #[.slice none 0 0, .int .i64 ((runW (newWS room) ts).fault : Nat)])) ∧ Kept [] w w' := by
  obtain ⟨a, cap, rfl⟩ := h.len
  have HH := hide h
  have HA := hide ha
  have HP := hide hp
  have HST := hide hst
  clear h ha hp hst
  go_enter Try.func36, Try.ntmps36
  go_wp2_with fail
  refine (new_int room ri hri (by omega) _).mono ?_
  rintro e w1 ⟨b, rfl, hb, hw1, hk1⟩
  have HW1 := hide hw1
  clear hw1
  go_wp2_with fail
  go_loopw [7] (fun i wr => ∃ (k : Nat) (v' sv' : Value), k ≤ ts.length ∧ i = .int .i64 k ∧ Hid (Wr wr b (runW (newWS room) (ts.take k)) v' sv' ∧ Kept [] w wr ∧ ∀ x, x ∈ foot b v' sv' → w.heap.size ≤ x)) (fun i _ => ts.length - (intOf i).toNat)
  case atStart => exact ⟨0, nilS, nilS, by omega, rfl, hide ⟨unhide HW1, hk1, fun x hx => by simp [foot, nilS, Value.ownBlock] at hx; omega⟩⟩
  case round =>
    obtain ⟨k, v', sv', hk, rfl, HI⟩ := hrel
    by_cases hlt : k < ts.length
    · have hrow := (unhide HH).kept (unhide HI).2.1 (by simp)
      rcases hrow with ⟨_, _, h2⟩ | ⟨vb, off, cap', hv, _, hm, _, h4⟩
      · subst h2; simp at hlt
      cases hv
      obtain ⟨q0, q1, q2, q3⟩ := h4 k hlt
      have hmem := List.getElem_mem hlt
      have HS := hide (runW_take (newWS room) ts k hlt)
      have HIN := hide ((WInv.new room).run (ts.take k))
      have HT := hide (unhide HA _ hmem)
      have hpk := unhide HP _ hmem
      generalize ts[k] = t at *
      have HC := hide (tlay_any (unhide HI).1 t (unhide HT).1 (((unhide HT).2.far (fun x hx hf => by have h2 := (unhide HI).2.2 x hf; omega)).keep (unhide HI).2.1) (by have := unhide HIN; have h1 := this.2.1; have h2 := this.2.2.1; omega) hpk (unhide HIN).1)
      have hm2 : ts.length ≤ 9223372036854775807 := by unfold maxLen at hm; omega
      clear h4 hm hmem hpk
      unfold Th.val at HC
      go_wp2_with (first | (go_at_call 91; refine (unhide HC).mono ?_; rintro e w2 ⟨rfl, HP2⟩))
      go_roundw
      case rel =>
        obtain ⟨v2, sv2, g1, g2, g3⟩ := HP2
        refine ⟨k + 1, v2, sv2, by omega, by go_num, hide ⟨by rw [unhide HS]; exact g1, (unhide HI).2.1.trans g2 (fun x hx => Or.inr ((unhide HI).2.2 x hx)), fun x hx => ?_⟩⟩
        rcases g3 x hx with h | h
        · exact (unhide HI).2.2 x h
        · have := (unhide HI).2.1.size; omega
      case measure => simp [intOf]; omega
    · have hk2 : k = ts.length := by omega
      subst hk2
      have HI2 : Hid (Wr wr b (runW (newWS room) ts) v' sv' ∧ Kept [] w wr ∧ ∀ x, x ∈ foot b v' sv' → w.heap.size ≤ x) := by
        have := unhide HI; rw [List.take_length] at this; exact hide this
      have hbf := (unhide HI2).1.bf
      clear HI
      have HF : Hid (Calls Try.prog 13 #[.pointer (some ⟨b, 0, none⟩)] wr fun e w' => ∃ a cap n f, e = .returned (.tuple #[.slice a n cap, .int .i64 (f : Nat)]) ∧ Hid (((runW (newWS room) ts).fault = 0 → (runW (newWS room) ts).sts = [] → n = (runW (newWS room) ts).bs.length ∧ f = 0 ∧ w'.ownsRow wr.heap.size 5 1 (.slice a (runW (newWS room) ts).bs.length cap) (runW (newWS room) ts).bs.length (u8s (runW (newWS room) ts).bs)) ∧ ((runW (newWS room) ts).fault ≠ 0 → a = none ∧ n = 0 ∧ cap = 0 ∧ f = (runW (newWS room) ts).fault) ∧ Kept [] wr w')) := by
        by_cases hf : (runW (newWS room) ts).fault = 0
        · by_cases hs : (runW (newWS room) ts).sts = []
          · refine hide ((wdone_ok (unhide HI2).1 hf hs).mono ?_)
            rintro e w' ⟨a, cap, rfl, ho, hk⟩
            exact ⟨a, cap, _, 0, rfl, hide ⟨fun _ _ => ⟨rfl, rfl, ho⟩, fun h => absurd hf h, hk⟩⟩
          · exact absurd (unhide HST hf) hs
        · refine hide ((wdone_fault (unhide HI2).1 hf).mono ?_)
          rintro e w' ⟨rfl, m, rfl⟩
          exact ⟨none, 0, 0, _, rfl, hide ⟨fun h => absurd h hf, fun _ => ⟨rfl, rfl, rfl, rfl⟩, (Kept.refl _ _).drewN m⟩⟩
      go_wp2_with (first | (go_at_call 13; refine (unhide HF).mono ?_; rintro e w2 ⟨a, cap, n, f, rfl, HX⟩))
      go_ret2
      obtain ⟨g1, g2, g3⟩ := unhide HX
      have hsz := (unhide HI2).2.1.size
      refine ⟨fun h0 h1 => ?_, fun h0 => ?_, (unhide HI2).2.1.trans g3 (by simp)⟩
      · obtain ⟨rfl, rfl, ho⟩ := g1 h0 h1
        exact ⟨a, cap, rfl, own_base ho (fun x hx => by have := (ho.lt x hx).1; omega)⟩
      · obtain ⟨rfl, rfl, rfl, rfl⟩ := g2 h0
        rfl
end Go.Proofs.Ytiabhgkndejigaa
