/- kept; Hash and Shard, the document's too. -/
import Derived.Test.YtiafnfjgmfnnoaaJArr
import Derived.Test.YtiafnfjgmfnnoaaJRefW
namespace Go.Proofs.Ytiafnfjgmfnnoaa
open Go.RowKit

set_option maxRecDepth 100000 in
set_option maxHeartbeats 400000 in
theorem kept_any {w : World} {base g cap L : Nat} {v : Value} {bs : List Nat} (h : Lent w base g cap L bs) (hv : Sees w v bs) :
    Calls Try.prog 19 #[.slice (some ⟨g, 0, none⟩) L cap, v] w fun e w' => e = .returned (.bool true) ∧ Quiet w w' := by
  have HC := hide (fun k hk => h.cell (k := k) hk)
  have m0 := h.mark (k := 0) (by omega)
  have m1 := h.mark (k := 1) (by omega)
  have m2 := h.mark (k := 2) (by omega)
  obtain ⟨h1, h2, -, -⟩ := h.caps
  obtain ⟨p, pc, rfl, -, -, -, h4⟩ := hv
  have H4 := hide h4
  have HL := hide h.1
  rw [h.1]
  clear h h4
  simp [three] at m0 m1 m2
  have HM := hide (⟨m0, m1, m2⟩ : _ ∧ _ ∧ _)
  clear m0 m1 m2
  have t1 : (L : Int) + 3 ≤ (cap : Int) := by omega
  have t2 : ((L : Int) + 3).toNat = L + 3 := by omega
  have t3 : ((L : Int) + 1).toNat = L + 1 := by omega
  have t4 : ((L : Int) + 2).toNat = L + 2 := by omega
  have t5 : (0 : Int) ≤ (L : Int) + 3 := by omega
  go_enter Try.func19, Try.ntmps19
  go_wp2_with fail
  go_loopw [7] (fun i wr => ∃ k : Nat, k ≤ L ∧ i = .int .i64 k ∧ ∃ m, wr = w.drewN m) (fun i _ => L - (intOf i).toNat)
  case atStart => exact ⟨0, by omega, rfl, 0, rfl⟩
  case round =>
    obtain ⟨k, hk, rfl, m, hq⟩ := hrel
    subst hq
    by_cases hkl : k < L
    · have c1 := unhide HC k hkl
      obtain ⟨b2', o2, rfl, c2⟩ := at_sees (unhide HL) (unhide H4) hkl
      generalize bs.getD k 0 = x at c1 c2
      go_wp2
      go_quiet (fail)
      go_wp2
      go_roundw
      case rel => exact ⟨k + 1, by omega, by simp, _, rfl⟩
      case measure => simp [intOf]; omega
    · obtain rfl : k = L := by omega
      obtain ⟨m0, m1, m2⟩ := unhide HM
      go_wp2
      go_ret
      exact ⟨rfl, (Quiet.refl w).drewN m⟩

theorem Parts.one {w : World} {v : Value} {bs : List Nat} (h : Sees w v bs) (t : TypeId) : Parts (w.alloc (.cells #[v] t)) (.slice (some ⟨w.heap.size, 0, none⟩) 1 1) [(v, bs)] := by
  refine ⟨_, 1, rfl, by simp, by simp [maxLen], ?_, Or.inr ⟨w.heap.size, 0, rfl, by simp, ?_⟩⟩
  · intro p hp
    simp at hp
    subst hp
    exact h.kept ((Kept.refl [] w).alloc _) (Or.inr (by simp))
  · intro j p hp
    have hj : j < 1 := by simpa using (List.getElem?_eq_some_iff.1 hp).1
    obtain rfl : j = 0 := by omega
    simp at hp
    subst hp
    rw [(Blk.new w #[v] t).cell]
    rfl
theorem catP_one (v : Value) (bs : List Nat) : catP [(v, bs)] = bs := by simp [catP]

set_option maxRecDepth 100000 in
set_option maxHeartbeats 400000 in
theorem hash_any {w : World} {v : Value} {bs : List Nat} (hs : Sees w v bs) :
    Calls Try.prog 15 #[v] w fun e w' => e = .returned (.int .u64 (marks fnv0 bs : Nat)) ∧ Kept [] w w' := by
  have HF := hide (fnv_any (Parts.one hs 28))
  rw [catP_one] at HF
  obtain ⟨p, pc, rfl, -⟩ := hs
  generalize marks fnv0 bs = R at HF
  generalize bs.length = L at HF
  go_enter Try.func15, Try.ntmps15
  go_wp2_with (first | (go_at_call 34; refine (unhide HF).mono ?_; rintro e w1 ⟨rfl, hq⟩; have hq' := hq.symm; subst hq'))
  go_ret
  exact ⟨rfl, (Kept.refl [] w).alloc _⟩

set_option maxRecDepth 100000 in
set_option maxHeartbeats 400000 in
theorem rhash_any {w : World} {v : Value} {bs : List Nat} (hs : Sees w v bs) :
    Calls Try.prog 16 #[v] w fun e w' => e = .returned (.int .u64 (marks fnv0 bs : Nat)) ∧ Kept [] w w' := by
  have HF := hide (rfnv_any (Parts.one hs 28))
  rw [catP_one] at HF
  obtain ⟨p, pc, rfl, -⟩ := hs
  generalize marks fnv0 bs = R at HF
  generalize bs.length = L at HF
  go_enter Try.func16, Try.ntmps16
  go_wp2_with (first | (go_at_call 35; refine (unhide HF).mono ?_; rintro e w1 ⟨rfl, hq⟩; have hq' := hq.symm; subst hq'))
  go_ret
  exact ⟨rfl, (Kept.refl [] w).alloc _⟩

theorem mark_lt (bs : List Nat) : marks fnv0 bs < 18446744073709551616 := marks_lt (by unfold fnv0; omega) _

/-- the bucket of a mark -/
def bucketOf (h : Nat) (n : Int) : Int := lastI (wayOf h (buckets n))

set_option maxRecDepth 100000 in
set_option maxHeartbeats 400000 in
theorem shard_any {w : World} {v : Value} {bs : List Nat} (hs : Sees w v bs) (n : Int) :
    Calls Try.prog 17 #[v, .int .i64 n] w fun e w' => e = .returned (.int .i64 (bucketOf (marks fnv0 bs) n)) ∧ Kept [] w w' := by
  have HF := hide (hash_any hs)
  have HJ : Hid (∀ w, Calls Try.prog 9 #[.int .u64 (marks fnv0 bs : Nat), .int .i64 n] w fun e w' => e = .returned (.int .i64 (bucketOf (marks fnv0 bs) n)) ∧ w' = w) := fun w => jump_any w _ n (mark_lt bs)
  obtain ⟨p, pc, rfl, -⟩ := hs
  generalize bucketOf (marks fnv0 bs) n = B at HJ
  generalize marks fnv0 bs = R at HF HJ
  generalize bs.length = L at HF
  go_enter Try.func17, Try.ntmps17
  go_wp2_with (first | (go_at_call 15; refine (unhide HF).mono ?_; rintro e w1 ⟨rfl, hk⟩; have HK := hide hk; clear hk) | (go_at_call 9; refine (unhide HJ _).mono ?_; rintro e w2 ⟨rfl, hq⟩; have hq' := hq.symm; subst hq'))
  go_ret
  exact ⟨rfl, unhide HK⟩

set_option maxRecDepth 100000 in
set_option maxHeartbeats 400000 in
theorem rshard_any {w : World} {v : Value} {bs : List Nat} (hs : Sees w v bs) (n : Int) :
    Calls Try.prog 18 #[v, .int .i64 n] w fun e w' => e = .returned (.int .i64 (bucketOf (marks fnv0 bs) n)) ∧ Kept [] w w' := by
  have HF := hide (rhash_any hs)
  have HJ : Hid (∀ w, Calls Try.prog 10 #[.int .u64 (marks fnv0 bs : Nat), .int .i64 n] w fun e w' => e = .returned (.int .i64 (bucketOf (marks fnv0 bs) n)) ∧ Kept [] w w') := fun w => rjump_any w _ n (mark_lt bs)
  obtain ⟨p, pc, rfl, -⟩ := hs
  generalize bucketOf (marks fnv0 bs) n = B at HJ
  generalize marks fnv0 bs = R at HF HJ
  generalize bs.length = L at HF
  go_enter Try.func18, Try.ntmps18
  go_wp2_with (first | (go_at_call 16; refine (unhide HF).mono ?_; rintro e w1 ⟨rfl, hk⟩; have HK := hide hk; clear hk) | (go_at_call 10; refine (unhide HJ _).mono ?_; rintro e w2 ⟨rfl, hk2⟩; have HK2 := hide hk2; clear hk2))
  go_ret
  exact ⟨rfl, (unhide HK).trans (unhide HK2) (by simp)⟩
end Go.Proofs.Ytiafnfjgmfnnoaa
