/- What the document names; ways of fewer and of more buckets. -/
import Derived.Test.YtiafnfjgmfnnoabJRank
namespace Go.Proofs.Ytiafnfjgmfnnoab
open Go.RowKit Go.Sort Go.Shelf

theorem known_jump1 : lastI (wayOf 0 (buckets 1)) = 0 := by decide +kernel
theorem known_jump0 : lastI (wayOf 0 (buckets 0)) = -1 := by decide +kernel
theorem known_way : zn (wayOf 1 (buckets 50)) = [0, 6, 17, 42, 43, 45] := by decide +kernel

theorem known_rat : rat 6 [1, 0, 1, 1] 4 = [(0, 1414727901476921331), (2, 3242562993543476409), (3, 2328645447510198870)] := by decide +kernel
/-- a row that stands in the order is the sorted one -/
theorem sorted_eq {d e : List (Int × Nat)} (hp : e.Perm d) (hs : e.Pairwise fun x y => ¬ ahd y x) : sorted d = e := by
  have hle : ∀ x y, (fun x y => !(ltOf ordI) y x) x y = true ↔ ¬ ahd y x := fun x y => by simp [ltOrd]
  unfold sorted
  refine List.Perm.eq_of_pairwise (le := fun x y => ¬ ahd y x) ?_ ?_ hs ((List.mergeSort_perm _ _).trans hp.symm)
  · intro a b _ _ h1 h2
    exact totOrd a b (by rw [ltOrd]; simpa using h2) (by rw [ltOrd]; simpa using h1)
  · have := List.pairwise_mergeSort (le := fun x y => !(ltOf ordI) y x) (fun a b c h1 h2 => by
      rw [hle] at *
      unfold ahd at *
      omega) (fun a b => by
      simp only [ltOrd, Bool.or_eq_true, Bool.not_eq_true', decide_eq_false_iff_not]
      unfold ahd
      omega) d
    exact this.imp fun {a b} h => (hle a b).1 h
theorem known_rank : rankOf 6 [1, 0, 1, 1] = [2, 3, 0] := by
  have h : sorted (rat 6 [1, 0, 1, 1] 4) = [(2, 3242562993543476409), (3, 2328645447510198870), (0, 1414727901476921331)] := by
    rw [known_rat]
    refine sorted_eq ?_ (by decide)
    decide
  unfold rankOf
  rw [if_pos (by decide)]
  show (sorted (rat 6 [1, 0, 1, 1] 4)).map (·.1) = _
  rw [h]
  rfl

theorem SeesI.of_blk {w : World} {b : Nat} {t : TypeId} {l : List Int} {n : Nat} (hn : l.length = n) (h : Blk w b (ints l).toArray t) (cap : Nat) (h1 : n ≤ cap) (h2 : cap ≤ 9223372036854775807) : SeesI w (.slice (some ⟨b, 0, none⟩) n cap) l := by
  subst hn
  refine ⟨_, cap, rfl, h1, by unfold maxLen; omega, Or.inr ⟨b, 0, rfl, h.lt, fun j hj => ?_⟩⟩
  rw [Nat.zero_add, h.cell]
  simpa using ints_at l hj
theorem SeesI.drewN {w : World} {v : Value} {l : List Int} (h : SeesI w v l) (m : Nat) : SeesI (w.drewN m) v l := h

set_option maxRecDepth 100000 in
set_option maxHeartbeats 1000000 in
theorem known_any (w : World) :
    Calls Try.prog 4 #[] w fun e w' => e = .returned (.bool true) ∧ Kept [] w w' := by
  have HJ1 : Hid (∀ w, Calls Try.prog 9 #[.int .u64 0, .int .i64 1] w fun e w' => e = .returned (.int .i64 0) ∧ w' = w) := fun w => by
    have := jump_any w 0 1 (by omega)
    rw [known_jump1] at this
    exact this
  have HJ0 : Hid (∀ w, Calls Try.prog 9 #[.int .u64 0, .int .i64 0] w fun e w' => e = .returned (.int .i64 (-1)) ∧ w' = w) := fun w => by
    have := jump_any w 0 0 (by omega)
    rw [known_jump0] at this
    exact this
  have HW : Hid (∀ w, Calls Try.prog 5 #[.int .u64 1, .int .i64 50] w fun e w' => ∃ v, e = .returned v ∧ w'.ownsRow w.heap.size 3 1 v 6 (ints [0, 6, 17, 42, 43, 45]) ∧ Kept [] w w') := fun w => by
    have := way_any w 1 50 (by omega)
    rw [known_way] at this
    exact this
  have HR : Hid (∀ (w : World) (b : Nat), Blk w b #[.int .i64 1, .int .i64 0, .int .i64 1, .int .i64 1] 3 → Calls Try.prog 6 #[.int .u64 6, .slice (some ⟨b, 0, none⟩) 4 4] w fun e w' => ∃ a cap, e = .returned (.slice a 3 cap) ∧ w'.ownsRow w.heap.size 3 1 (.slice a 3 cap) 3 (ints [2, 3, 0]) ∧ Kept [] w w') := fun w b hb => by
    have := rank_any (SeesI.of_blk (l := [1, 0, 1, 1]) (n := 4) rfl hb 4 (by omega) (by omega)) 6 (by omega)
    rw [known_rank] at this
    exact this
  have HS1 : Hid (∀ (w w1 : World) (base : Nat) (v : Value) (b : Nat), w1.ownsRow base 3 1 v 6 (ints [0, 6, 17, 42, 43, 45]) → Kept [] w1 w → Blk w b #[.int .i64 0, .int .i64 6, .int .i64 17, .int .i64 42, .int .i64 43, .int .i64 45] 3 → Calls Try.prog 7 #[v, .slice (some ⟨b, 0, none⟩) 6 6] w fun e w' => e = .returned (.bool true) ∧ ∃ m, w' = w.drewN m) := fun w w1 base v b ho hk hb =>
    same_any ((SeesI.of_own (l := [0, 6, 17, 42, 43, 45]) ho).kept hk (Or.inr (by simp))) (SeesI.of_blk (l := [0, 6, 17, 42, 43, 45]) (n := 6) rfl hb 6 (by omega) (by omega))
  have HS2 : Hid (∀ (w w1 : World) (base : Nat) (v : Value) (b : Nat), w1.ownsRow base 3 1 v 3 (ints [2, 3, 0]) → Kept [] w1 w → Blk w b #[.int .i64 2, .int .i64 3, .int .i64 0] 3 → Calls Try.prog 7 #[v, .slice (some ⟨b, 0, none⟩) 3 3] w fun e w' => e = .returned (.bool true) ∧ ∃ m, w' = w.drewN m) := fun w w1 base v b ho hk hb =>
    same_any ((SeesI.of_own (l := [2, 3, 0]) ho).kept hk (Or.inr (by simp))) (SeesI.of_blk (l := [2, 3, 0]) (n := 3) rfl hb 3 (by omega) (by omega))
  go_enter Try.func4, Try.ntmps4
  go_wp2_with fail
  refine (unhide HJ1 _).mono ?_
  rintro e w1 ⟨rfl, hq⟩; have hq' := hq.symm; subst hq'
  go_wp2_with fail
  refine (unhide HJ0 _).mono ?_
  rintro e w1 ⟨rfl, hq⟩; have hq' := hq.symm; subst hq'
  go_wp2_with fail
  refine (unhide HW _).mono ?_
  rintro e w1 ⟨v1, rfl, ho1, hk1⟩
  obtain ⟨a1, c1, rfl⟩ := own_len ho1
  have HK1 := hide hk1
  have HO1 := hide ho1
  clear ho1 hk1
  go_wp2_with fail
  refine (unhide HS1 _ w1 _ _ w1.heap.size (unhide HO1) ((Kept.refl [] w1).alloc _) (Blk.new w1 _ _)).mono ?_
  rintro e w2 ⟨rfl, m2, hq⟩
  have HK2 : Hid (Kept [] w w2) := by rw [hq]; exact ((unhide HK1).alloc _).drewN m2
  clear hq
  go_wp2_with fail
  refine (unhide HR _ w2.heap.size (Blk.new w2 _ _)).mono ?_
  rintro e w3 ⟨a3, c3, rfl, ho3, hk3⟩
  have HK3 : Hid (Kept [] w w3) := ((unhide HK2).alloc _).trans hk3 (by simp)
  have HO3 := hide ho3
  clear ho3 hk3
  go_wp2_with fail
  refine (unhide HS2 _ w3 _ _ w3.heap.size (unhide HO3) ((Kept.refl [] w3).alloc _) (Blk.new w3 _ _)).mono ?_
  rintro e w4 ⟨rfl, m4, hq⟩
  have HK4 : Hid (Kept [] w w4) := by rw [hq]; exact ((unhide HK3).alloc _).drewN m4
  clear hq
  go_wp2
  go_ret
  exact ⟨rfl, unhide HK4⟩
end Go.Proofs.Ytiafnfjgmfnnoab
