/- steps: a step by both dice: State, Next, Jump, Roll, Real. -/
import Derived.Test.YtoibkgjnnneagaaDRefR
import Derived.Test.YtoibkgjnnneagaaDKept
import Derived.Test.YtoibkgjnnneagaaDNil
import Derived.Test.YtoibkgjnnneagaaDSame
namespace Go.Proofs.Ytoibkgjnnneagaa
open Go.RowKit

/-- both dice behind a step -/
def Both (w w' : World) (bd bm : Nat) : Prop := (∃ t, Dc w' bd t ∧ Rc w' bm t) ∧ Kept [bd, bm] w w'
theorem Kept.two {a b c : World} {x y : Nat} (h : Kept [] a b) (k : Kept [x, y] b c) : Kept [x, y] a c := (h.mono (G := [x, y]) (fun z hz => by simp at hz)).trans k (fun z hz => Or.inl hz)
theorem both_of {w w1 w2 w3 : World} {bd bm t : Nat} (h0 : Kept [] w w1) (h1 : Kept [bm] w1 w2) (h2 : Kept [bd] w2 w3) (hd : Dc w3 bd t) (hm : Rc w2 bm t) (hne : bd ≠ bm) : Both w w3 bd bm := by
  refine ⟨⟨t, hd, hm.keep h2 (by simpa using hne.symm)⟩, ?_⟩
  exact h0.two ((h1.mono (G := [bd, bm]) (fun z hz => by simp at hz; subst hz; left; simp)).trans h2 (fun z hz => by simp at hz; subst hz; left; simp))

set_option maxRecDepth 100000 in
set_option maxHeartbeats 4000000 in
theorem step1 {w : World} {bd bm s : Nat} (hd : Dc w bd s) (hm : Rc w bm s) (hne : bd ≠ bm) (wh n f : Int) (v : Value) :
    Calls Try.prog 12 #[.pointer (some ⟨bd, 0, none⟩), .pointer (some ⟨bm, 0, none⟩), .agg #[.int .i64 1, .int .i64 wh, .int .i64 n, .int .u64 f, v]] w fun e w' => e = .returned (.bool true) ∧ Both w w' bd bm := by
  have hbo : bm < w.heap.size := hm.blk.lt
  have HB0 := Blk.new w #[.int .i64 1, .int .i64 wh, .int .i64 n, .int .u64 f, v] 33
  have K0 : Hid (Kept [] w (w.alloc (.cells #[.int .i64 1, .int .i64 wh, .int .i64 n, .int .u64 f, v] 33))) := (Kept.refl _ _).alloc _
  have hd0 := hide (hd.keep (unhide K0) (by simp))
  have hm0 := hide (hm.keep (unhide K0) (by simp))
  have hne' := hide hne
  have HBk : Hid (∀ w1, Kept [bm] (w.alloc (.cells #[.int .i64 1, .int .i64 wh, .int .i64 n, .int .u64 f, v] 33)) w1 → w1.cell? ⟨w.heap.size, 2, none⟩ = some (.int .i64 n) ∧ w1.cell? ⟨w.heap.size, 3, none⟩ = some (.int .u64 f)) := fun w1 hk => by
    have h := HB0.kept hk (by simp; omega)
    exact ⟨by rw [h.cell]; rfl, by rw [h.cell]; rfl⟩
  clear hd hm hne HB0
  go_enter Try.func12, Try.ntmps12
  go_wp2_with (first
    | (go_at_call 29; refine (rstate_any (unhide hm0)).mono ?_; rintro e w1 ⟨rfl, hq⟩; have hq' := hq.symm; subst hq')
    | (go_at_call 23; refine (state_any (unhide hd0)).mono ?_; rintro e w1 ⟨rfl, hq⟩; have hq' := hq.symm; subst hq'))
  go_ret
  exact ⟨rfl, both_of (unhide K0) (Kept.refl _ _) (Kept.refl _ _) (unhide hd0) (unhide hm0) (unhide hne')⟩

set_option maxRecDepth 100000 in
set_option maxHeartbeats 4000000 in
theorem step2 {w : World} {bd bm s : Nat} (hd : Dc w bd s) (hm : Rc w bm s) (hne : bd ≠ bm) (wh n f : Int) (v : Value) :
    Calls Try.prog 12 #[.pointer (some ⟨bd, 0, none⟩), .pointer (some ⟨bm, 0, none⟩), .agg #[.int .i64 2, .int .i64 wh, .int .i64 n, .int .u64 f, v]] w fun e w' => e = .returned (.bool true) ∧ Both w w' bd bm := by
  have hbo : bm < w.heap.size := hm.blk.lt
  have HB0 := Blk.new w #[.int .i64 2, .int .i64 wh, .int .i64 n, .int .u64 f, v] 33
  have K0 : Hid (Kept [] w (w.alloc (.cells #[.int .i64 2, .int .i64 wh, .int .i64 n, .int .u64 f, v] 33))) := (Kept.refl _ _).alloc _
  have hd0 := hide (hd.keep (unhide K0) (by simp))
  have hm0 := hide (hm.keep (unhide K0) (by simp))
  have hne' := hide hne
  have HBk : Hid (∀ w1, Kept [bm] (w.alloc (.cells #[.int .i64 2, .int .i64 wh, .int .i64 n, .int .u64 f, v] 33)) w1 → w1.cell? ⟨w.heap.size, 2, none⟩ = some (.int .i64 n) ∧ w1.cell? ⟨w.heap.size, 3, none⟩ = some (.int .u64 f)) := fun w1 hk => by
    have h := HB0.kept hk (by simp; omega)
    exact ⟨by rw [h.cell]; rfl, by rw [h.cell]; rfl⟩
  clear hd hm hne HB0
  go_enter Try.func12, Try.ntmps12
  go_wp2_with (first
    | (go_at_call 30; refine (rnext_any (unhide hm0)).mono ?_; rintro e w1 ⟨rfl, hm1, hk1⟩; have hd1 := hide ((unhide hd0).keep hk1 (by have := unhide hne'; simpa using this)); obtain ⟨cN, cF⟩ := unhide HBk _ hk1; replace hm1 := hide hm1; replace hk1 := hide hk1; clear hd0 hm0 HBk)
    | (go_at_call 21; refine (next_any (unhide hd1)).mono ?_; rintro e w2 ⟨rfl, hd2, hk2⟩; replace hd2 := hide hd2; replace hk2 := hide hk2; clear hd1))
  go_ret
  exact ⟨rfl, both_of (unhide K0) (unhide hk1) (unhide hk2) (unhide hd2) (unhide hm1) (unhide hne')⟩

set_option maxRecDepth 100000 in
set_option maxHeartbeats 4000000 in
theorem step3 {w : World} {bd bm s : Nat} (hd : Dc w bd s) (hm : Rc w bm s) (hne : bd ≠ bm) (wh n : Int) (f : Nat) (v : Value) :
    Calls Try.prog 12 #[.pointer (some ⟨bd, 0, none⟩), .pointer (some ⟨bm, 0, none⟩), .agg #[.int .i64 3, .int .i64 wh, .int .i64 n, .int .u64 f, v]] w fun e w' => e = .returned (.bool true) ∧ Both w w' bd bm := by
  have hbo : bm < w.heap.size := hm.blk.lt
  have HB0 := Blk.new w #[.int .i64 3, .int .i64 wh, .int .i64 n, .int .u64 f, v] 33
  have K0 : Hid (Kept [] w (w.alloc (.cells #[.int .i64 3, .int .i64 wh, .int .i64 n, .int .u64 f, v] 33))) := (Kept.refl _ _).alloc _
  have hd0 := hide (hd.keep (unhide K0) (by simp))
  have hm0 := hide (hm.keep (unhide K0) (by simp))
  have hne' := hide hne
  have HBk : Hid (∀ w1, Kept [bm] (w.alloc (.cells #[.int .i64 3, .int .i64 wh, .int .i64 n, .int .u64 f, v] 33)) w1 → w1.cell? ⟨w.heap.size, 2, none⟩ = some (.int .i64 n) ∧ w1.cell? ⟨w.heap.size, 3, none⟩ = some (.int .u64 f)) := fun w1 hk => by
    have h := HB0.kept hk (by simp; omega)
    exact ⟨by rw [h.cell]; rfl, by rw [h.cell]; rfl⟩
  clear hd hm hne HB0
  go_enter Try.func12, Try.ntmps12
  go_wp2_with (first
    | (go_at_call 31; refine (rjump_any (unhide hm0) f).mono ?_; rintro e w1 ⟨rfl, hm1, hk1⟩; have hd1 := hide ((unhide hd0).keep hk1 (by have := unhide hne'; simpa using this)); obtain ⟨cN, cF⟩ := unhide HBk _ hk1; replace hm1 := hide hm1; replace hk1 := hide hk1; clear hd0 hm0 HBk)
    | (go_at_call 24; refine (jump_any (unhide hd1) f).mono ?_; rintro e w2 ⟨rfl, hd2, hk2⟩; replace hd2 := hide hd2; replace hk2 := hide hk2; clear hd1))
  go_ret
  exact ⟨rfl, both_of (unhide K0) (unhide hk1) (unhide hk2) (unhide hd2) (unhide hm1) (unhide hne')⟩

set_option maxRecDepth 100000 in
set_option maxHeartbeats 4000000 in
theorem step4 {w : World} {bd bm s : Nat} (hd : Dc w bd s) (hm : Rc w bm s) (hne : bd ≠ bm) (wh f : Int) (n : Nat) (n1 : 1 ≤ n) (n2 : n ≤ 9223372036854775807) (v : Value) :
    Calls Try.prog 12 #[.pointer (some ⟨bd, 0, none⟩), .pointer (some ⟨bm, 0, none⟩), .agg #[.int .i64 4, .int .i64 wh, .int .i64 n, .int .u64 f, v]] w fun e w' => e = .returned (.bool true) ∧ Both w w' bd bm := by
  have hbo : bm < w.heap.size := hm.blk.lt
  have HB0 := Blk.new w #[.int .i64 4, .int .i64 wh, .int .i64 n, .int .u64 f, v] 33
  have K0 : Hid (Kept [] w (w.alloc (.cells #[.int .i64 4, .int .i64 wh, .int .i64 n, .int .u64 f, v] 33))) := (Kept.refl _ _).alloc _
  have hd0 := hide (hd.keep (unhide K0) (by simp))
  have hm0 := hide (hm.keep (unhide K0) (by simp))
  have hne' := hide hne
  have HBk : Hid (∀ w1, Kept [bm] (w.alloc (.cells #[.int .i64 4, .int .i64 wh, .int .i64 n, .int .u64 f, v] 33)) w1 → w1.cell? ⟨w.heap.size, 2, none⟩ = some (.int .i64 n) ∧ w1.cell? ⟨w.heap.size, 3, none⟩ = some (.int .u64 f)) := fun w1 hk => by
    have h := HB0.kept hk (by simp; omega)
    exact ⟨by rw [h.cell]; rfl, by rw [h.cell]; rfl⟩
  clear hd hm hne HB0
  go_enter Try.func12, Try.ntmps12
  go_wp2_with (first
    | (go_at_call 32; refine (rroll_any (unhide hm0) n n1 n2).mono ?_; rintro e w1 ⟨rfl, hm1, hk1⟩; have hd1 := hide ((unhide hd0).keep hk1 (by have := unhide hne'; simpa using this)); obtain ⟨cN, cF⟩ := unhide HBk _ hk1; replace hm1 := hide hm1; replace hk1 := hide hk1; clear hd0 hm0 HBk)
    | (go_at_call 25; refine (roll_any (unhide hd1) n n1 n2).mono ?_; rintro e w2 ⟨rfl, hd2, hk2⟩; replace hd2 := hide hd2; replace hk2 := hide hk2; clear hd1))
  go_ret
  exact ⟨rfl, both_of (unhide K0) (unhide hk1) (unhide hk2) (unhide hd2) (unhide hm1) (unhide hne')⟩

set_option maxRecDepth 100000 in
set_option maxHeartbeats 4000000 in
theorem step4low {w : World} {bd bm s : Nat} (hd : Dc w bd s) (hm : Rc w bm s) (hne : bd ≠ bm) (wh f n : Int) (n1 : n < 1) (v : Value) :
    Calls Try.prog 12 #[.pointer (some ⟨bd, 0, none⟩), .pointer (some ⟨bm, 0, none⟩), .agg #[.int .i64 4, .int .i64 wh, .int .i64 n, .int .u64 f, v]] w fun e w' => e = .returned (.bool true) ∧ Both w w' bd bm := by
  have hbo : bm < w.heap.size := hm.blk.lt
  have HB0 := Blk.new w #[.int .i64 4, .int .i64 wh, .int .i64 n, .int .u64 f, v] 33
  have K0 : Hid (Kept [] w (w.alloc (.cells #[.int .i64 4, .int .i64 wh, .int .i64 n, .int .u64 f, v] 33))) := (Kept.refl _ _).alloc _
  have hd0 := hide (hd.keep (unhide K0) (by simp))
  have hm0 := hide (hm.keep (unhide K0) (by simp))
  have hne' := hide hne
  have HBk : Hid (∀ w1, Kept [bm] (w.alloc (.cells #[.int .i64 4, .int .i64 wh, .int .i64 n, .int .u64 f, v] 33)) w1 → w1.cell? ⟨w.heap.size, 2, none⟩ = some (.int .i64 n) ∧ w1.cell? ⟨w.heap.size, 3, none⟩ = some (.int .u64 f)) := fun w1 hk => by
    have h := HB0.kept hk (by simp; omega)
    exact ⟨by rw [h.cell]; rfl, by rw [h.cell]; rfl⟩
  clear hd hm hne HB0
  go_enter Try.func12, Try.ntmps12
  go_wp2_with (first
    | (go_at_call 32; refine (rroll_low n n1).mono ?_; rintro e w1 ⟨rfl, hq⟩; have hq' := hq.symm; subst hq')
    | (go_at_call 25; refine (roll_low n n1).mono ?_; rintro e w1 ⟨rfl, hq⟩; have hq' := hq.symm; subst hq'))
  go_ret
  exact ⟨rfl, both_of (unhide K0) (Kept.refl _ _) (Kept.refl _ _) (unhide hd0) (unhide hm0) (unhide hne')⟩

set_option maxRecDepth 100000 in
set_option maxHeartbeats 4000000 in
theorem step5 {w : World} {bd bm s : Nat} (hd : Dc w bd s) (hm : Rc w bm s) (hne : bd ≠ bm) (wh n f : Int) (v : Value) :
    Calls Try.prog 12 #[.pointer (some ⟨bd, 0, none⟩), .pointer (some ⟨bm, 0, none⟩), .agg #[.int .i64 5, .int .i64 wh, .int .i64 n, .int .u64 f, v]] w fun e w' => e = .returned (.bool true) ∧ Both w w' bd bm := by
  have hbo : bm < w.heap.size := hm.blk.lt
  have HB0 := Blk.new w #[.int .i64 5, .int .i64 wh, .int .i64 n, .int .u64 f, v] 33
  have K0 : Hid (Kept [] w (w.alloc (.cells #[.int .i64 5, .int .i64 wh, .int .i64 n, .int .u64 f, v] 33))) := (Kept.refl _ _).alloc _
  have hd0 := hide (hd.keep (unhide K0) (by simp))
  have hm0 := hide (hm.keep (unhide K0) (by simp))
  have hne' := hide hne
  have HBk : Hid (∀ w1, Kept [bm] (w.alloc (.cells #[.int .i64 5, .int .i64 wh, .int .i64 n, .int .u64 f, v] 33)) w1 → w1.cell? ⟨w.heap.size, 2, none⟩ = some (.int .i64 n) ∧ w1.cell? ⟨w.heap.size, 3, none⟩ = some (.int .u64 f)) := fun w1 hk => by
    have h := HB0.kept hk (by simp; omega)
    exact ⟨by rw [h.cell]; rfl, by rw [h.cell]; rfl⟩
  clear hd hm hne HB0
  have HB := kb
  go_enter Try.func12, Try.ntmps12
  go_wp2_with (first
    | (go_at_call 33; refine (rreal_any (unhide hm0)).mono ?_; rintro e w1 ⟨rfl, hm1, hk1⟩; have hd1 := hide ((unhide hd0).keep hk1 (by have := unhide hne'; simpa using this)); obtain ⟨cN, cF⟩ := unhide HBk _ hk1; replace hm1 := hide hm1; replace hk1 := hide hk1; clear hd0 hm0 HBk)
    | (go_at_call 28; refine (real_any (unhide hd1)).mono ?_; rintro e w2 ⟨rfl, hd2, hk2⟩; replace hd2 := hide hd2; replace hk2 := hide hk2; clear hd1))
  go_ret
  exact ⟨rfl, both_of (unhide K0) (unhide hk1) (unhide hk2) (unhide hd2) (unhide hm1) (unhide hne')⟩

set_option maxRecDepth 100000 in
set_option maxHeartbeats 4000000 in
theorem step6far {w : World} {bd bm s : Nat} (hd : Dc w bd s) (hm : Rc w bm s) (hne : bd ≠ bm) (wh f n : Int) (n1 : 300 < n) (n2 : n ≤ 65536) (v : Value) :
    Calls Try.prog 12 #[.pointer (some ⟨bd, 0, none⟩), .pointer (some ⟨bm, 0, none⟩), .agg #[.int .i64 6, .int .i64 wh, .int .i64 n, .int .u64 f, v]] w fun e w' => e = .returned (.bool true) ∧ Both w w' bd bm := by
  have hbo : bm < w.heap.size := hm.blk.lt
  have HB0 := Blk.new w #[.int .i64 6, .int .i64 wh, .int .i64 n, .int .u64 f, v] 33
  have K0 : Hid (Kept [] w (w.alloc (.cells #[.int .i64 6, .int .i64 wh, .int .i64 n, .int .u64 f, v] 33))) := (Kept.refl _ _).alloc _
  have hd0 := hide (hd.keep (unhide K0) (by simp))
  have hm0 := hide (hm.keep (unhide K0) (by simp))
  have hne' := hide hne
  have HBk : Hid (∀ w1, Kept [bm] (w.alloc (.cells #[.int .i64 6, .int .i64 wh, .int .i64 n, .int .u64 f, v] 33)) w1 → w1.cell? ⟨w.heap.size, 2, none⟩ = some (.int .i64 n) ∧ w1.cell? ⟨w.heap.size, 3, none⟩ = some (.int .u64 f)) := fun w1 hk => by
    have h := HB0.kept hk (by simp; omega)
    exact ⟨by rw [h.cell]; rfl, by rw [h.cell]; rfl⟩
  clear hd hm hne HB0
  go_enter Try.func12, Try.ntmps12
  go_wp2_with (first
    | (fail)
    | (fail))
  go_ret
  exact ⟨rfl, both_of (unhide K0) (Kept.refl _ _) (Kept.refl _ _) (unhide hd0) (unhide hm0) (unhide hne')⟩
end Go.Proofs.Ytoibkgjnnneagaa
