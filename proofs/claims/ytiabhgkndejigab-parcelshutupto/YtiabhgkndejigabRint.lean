/- The reader's Num where it is refused, its Int, Read, Done, Rest; same. -/
import Derived.Test.YtiabhgkndejigabRnum
namespace Go.Proofs.Ytiabhgkndejigab
open Go.RowKit

set_option maxRecDepth 100000 in
set_option maxHeartbeats 400000 in
theorem rnum_err {w : World} {b : Nat} {lv bv : Value} {l : List Nat} (h : Rd w b lv bv l) (hl : ∀ x ∈ l, x < 256) {c : Nat} (hr : readNum 0 0 l = .inl c) :
    Calls Try.prog 39 #[.pointer (some ⟨b, 0, none⟩)] w fun e w' => e = .returned (.int .u64 0) ∧ RdF w' b c ∧ Kept [b] w w' := by
  have hmf : ∀ (fn : Fn) (first cap : Array Value) (w : World), (Instr.makeFunc fn first cap).run Try.prog w = .ok (.func fn first cap) w := fun _ _ _ _ => rfl
  obtain ⟨hb, hlo⟩ := rd_lt h
  have hface : Calls Try.prog 55 #[.pointer (some ⟨b, 0, none⟩), .func (.func 67) #[] #[.pointer (some ⟨w.heap.size, 0, none⟩), .pointer (some ⟨w.heap.size + 1, 0, none⟩)]]
      ((w.alloc (.cells #[.pointer (some ⟨b, 0, none⟩)] 25)).alloc (.cells #[.int .u64 0] 33)) fun e w' => e = .returned (.tuple #[]) ∧ RdF w' b c ∧ Blk w' (w.heap.size + 1) #[.int .u64 0] 33 ∧ Kept [b] ((w.alloc (.cells #[.pointer (some ⟨b, 0, none⟩)] 25)).alloc (.cells #[.int .u64 0] 33)) w' := by
    have h2 := (h.alloc (.cells #[.pointer (some ⟨b, 0, none⟩)] 25)).alloc (.cells #[.int .u64 0] 33)
    have b1 : Blk ((w.alloc (.cells #[.pointer (some ⟨b, 0, none⟩)] 25)).alloc (.cells #[.int .u64 0] 33)) w.heap.size #[.pointer (some ⟨b, 0, none⟩)] 25 := (Blk.new _ _ _).alloc _
    have b2 : Blk ((w.alloc (.cells #[.pointer (some ⟨b, 0, none⟩)] 25)).alloc (.cells #[.int .u64 0] 33)) (w.heap.size + 1) #[.int .u64 0] 33 := by
      have := Blk.new (w.alloc (.cells #[.pointer (some ⟨b, 0, none⟩)] 25)) #[.int .u64 0] 33
      simpa using this
    refine (face_err h2 _ c (en74 _) ?_).mono ?_
    · intro w3 k3
      exact clos_num_err (h2.kept k3 (by simp) (by simp)) hl w.heap.size (w.heap.size + 1) (blk1 (b1.kept k3 (by simp))) hr
    · rintro e w' ⟨rfl, g1, g2⟩
      exact ⟨rfl, g1, b2.kept g2 (by simp; omega), g2⟩
  have HF := hide hface
  clear hface h hl hr
  go_enter Try.func39, Try.ntmps39
  go_wp2_with fail
  refine (unhide HF).mono ?_
  rintro e w1 ⟨rfl, hrd, hq, hk⟩
  have hc := blk1 hq
  have HR := hide hrd
  clear hq hrd
  go_wp2
  go_ret
  refine ⟨rfl, unhide HR, ?_⟩
  exact ((((Kept.refl [] w).alloc _).alloc _).mono (G := [b]) (by simp)).trans hk (fun x hx => Or.inl hx)

set_option maxRecDepth 100000 in
set_option maxHeartbeats 400000 in
theorem clos_int_ok {w : World} {b : Nat} {lv bv : Value} {l : List Nat} (h : Rd w b lv bv l) (hl : ∀ x ∈ l, x < 256) (p q : Nat) (z : Value) (hp : w.cell? ⟨p, 0, none⟩ = some (.pointer (some ⟨b, 0, none⟩))) (hq : Blk w q #[z] 3) (hqb : q ≠ b) (hql : lv.ownBlock ≠ some q) {n : Nat} {rest : List Nat} (hr : readNum 0 0 l = .inr (n, rest)) :
    Calls Try.prog 70 #[.pointer (some ⟨p, 0, none⟩), .pointer (some ⟨q, 0, none⟩)] w fun e w' => e = .returned (.tuple #[]) ∧ Taken b q lv bv rest (.int .i64 (unfoldN n)) 3 w w' := by
  have HC := hide (number_any h hl)
  have hn := (readNum_lt l 0 0 (by omega) (by simp) hl hr).1
  have HH := hide h
  have HQ := hide hq
  have HR := hide hr
  clear h hl hq hr
  go_enter Try.func70, Try.ntmps70
  go_wp2_with fail
  refine (unhide HC).mono ?_
  rintro e w1 ⟨g1, _, hk⟩
  obtain ⟨rfl, lv', hrd, ho⟩ := g1 n rest (unhide HR)
  have hq1 : Blk w1 q #[z] 3 := (unhide HQ).kept hk (by simpa using hqb)
  have hc1 := blk1 hq1
  have hf1 := hq1.frozen 0
  have HQ1 := hide hq1
  have HRD := hide hrd
  clear hq1 g1 hrd
  go_wp2_with (first | (go_at_call 71; refine (unfold_any n _ hn).mono ?_; rintro e w' ⟨rfl, rfl⟩))
  go_end0
  refine ⟨rfl, ⟨lv', (unhide HRD).kept ((Kept.refl [q] _).setCell (Or.inl (by simp)) _) (by simp; exact fun e => hqb e.symm) (fun x hx => by simp; intro e; subst e; exact hql (by rw [← ho]; exact hx)), ho⟩, ?_, ?_⟩
  · simpa using (unhide HQ1).set 0 _
  · exact (hk.mono (fun x hx => Or.inl (by simp at hx; simp [hx]))).setCell (Or.inl (by simp)) _

set_option maxRecDepth 100000 in
set_option maxHeartbeats 400000 in
theorem rint_ok {w : World} {b : Nat} {lv bv : Value} {l : List Nat} (h : Rd w b lv bv l) (hl : ∀ x ∈ l, x < 256) {n : Nat} {rest : List Nat} (hr : readNum 0 0 l = .inr (n, rest)) :
    Calls Try.prog 43 #[.pointer (some ⟨b, 0, none⟩)] w fun e w' => e = .returned (.int .i64 (unfoldN n)) ∧ (∃ lv', Rd w' b lv' bv rest ∧ lv'.ownBlock = lv.ownBlock) ∧ Kept [b] w w' := by
  have hmf : ∀ (fn : Fn) (first cap : Array Value) (w : World), (Instr.makeFunc fn first cap).run Try.prog w = .ok (.func fn first cap) w := fun _ _ _ _ => rfl
  have hface : Calls Try.prog 55 #[.pointer (some ⟨b, 0, none⟩), .func (.func 70) #[] #[.pointer (some ⟨w.heap.size, 0, none⟩), .pointer (some ⟨w.heap.size + 1, 0, none⟩)]]
      ((w.alloc (.cells #[.pointer (some ⟨b, 0, none⟩)] 25)).alloc (.cells #[.int .i64 0] 3)) fun e w' => e = .returned (.tuple #[]) ∧ Taken b (w.heap.size + 1) lv bv rest (.int .i64 (unfoldN n)) 3 ((w.alloc (.cells #[.pointer (some ⟨b, 0, none⟩)] 25)).alloc (.cells #[.int .i64 0] 3)) w' := by
    have h2 := (h.alloc (.cells #[.pointer (some ⟨b, 0, none⟩)] 25)).alloc (.cells #[.int .i64 0] 3)
    obtain ⟨hb, hlo⟩ := rd_lt h
    have b1 : Blk ((w.alloc (.cells #[.pointer (some ⟨b, 0, none⟩)] 25)).alloc (.cells #[.int .i64 0] 3)) w.heap.size #[.pointer (some ⟨b, 0, none⟩)] 25 := (Blk.new _ _ _).alloc _
    have b2 : Blk ((w.alloc (.cells #[.pointer (some ⟨b, 0, none⟩)] 25)).alloc (.cells #[.int .i64 0] 3)) (w.heap.size + 1) #[.int .i64 0] 3 := by
      have := Blk.new (w.alloc (.cells #[.pointer (some ⟨b, 0, none⟩)] 25)) #[.int .i64 0] 3
      simpa using this
    refine face_ok h2 _ (en82 _) (Taken b (w.heap.size + 1) lv bv rest (.int .i64 (unfoldN n)) 3) (fun _ _ => Taken.mono) ?_
    intro w3 k3
    exact clos_int_ok (h2.kept k3 (by simp) (by simp)) hl w.heap.size (w.heap.size + 1) _ (blk1 (b1.kept k3 (by simp))) (b2.kept k3 (by simp)) (by omega) (fun e => by have := hlo _ e; omega) hr
  have HF := hide hface
  clear hface h hl hr
  go_enter Try.func43, Try.ntmps43
  go_wp2_with fail
  refine (unhide HF).mono ?_
  rintro e w1 ⟨rfl, hrd, hq, hk⟩
  have hc := blk1 hq
  clear hq
  go_wp2
  go_ret
  refine ⟨rfl, hrd, ?_⟩
  exact ((((Kept.refl [] w).alloc _).alloc _).mono (G := [b]) (by simp)).trans hk (fun x hx => by simp at hx; rcases hx with rfl | rfl; simp; right; omega)

set_option maxRecDepth 100000 in
set_option maxHeartbeats 400000 in
theorem read_any {w : World} {x : Value} {bs : List Nat} (h : Sees w x bs) (hl : bs.length ≤ 140737488355328) :
    Calls Try.prog 9 #[x] w fun e w' => ∃ b lv, e = .returned (.pointer (some ⟨b, 0, none⟩)) ∧ Rd w' b lv nilS bs ∧ w.heap.size ≤ b ∧ (∀ k, lv.ownBlock = some k → w.heap.size ≤ k) ∧ Kept [] w w' := by
  have HC := hide (clone_any h hl)
  clear h
  go_enter Try.func9, Try.ntmps9
  go_wp2_with (first | (go_at_call 40; refine (unhide HC).mono ?_; rintro e w1 ⟨ca, cc, rfl, hfo, hk1⟩))
  go_ret
  have hks := hk1.size
  refine ⟨w1.heap.size, .slice ca bs.length cc, rfl, ⟨Blk.new _ _ _, sees_alloc _ (Sees.of_own hfo), fun e => ?_, hl⟩, hks, fun k hk => (hfo.lt k hk).1, hk1.alloc _⟩
  have := (hfo.lt _ e).2; omega

set_option maxRecDepth 100000 in
set_option maxHeartbeats 400000 in
theorem rdone_ok {w : World} {b : Nat} {lv : Value} {l : List Nat} (h : Rd w b lv nilS l) (c : Nat) (hc : c = if l = [] then 0 else 12) :
    Calls Try.prog 14 #[.pointer (some ⟨b, 0, none⟩)] w fun e w' => e = .returned (.int .i64 c) ∧ w = w' := by
  obtain ⟨c0, c1, c2⟩ := blk3 h.blk
  obtain ⟨a, cap, rfl⟩ := sees_len h.see
  unfold nilS at c1
  have hbl := h.bl
  clear h
  by_cases hl : l = []
  · subst hl
    simp at hc
    subst hc
    go_enter Try.func14, Try.ntmps14
    go_wp2
    go_ret
    exact ⟨rfl, rfl⟩
  · rw [if_neg hl] at hc
    subst hc
    have hp : 0 < l.length := List.length_pos_iff.2 hl
    have hpb : decide (0 < l.length) = true := by simpa using hp
    clear hl
    go_enter Try.func14, Try.ntmps14
    go_wp2
    go_ret
    exact ⟨rfl, rfl⟩

set_option maxRecDepth 100000 in
set_option maxHeartbeats 400000 in
theorem rdone_fault {w : World} {b c : Nat} (h : RdF w b c) (hc : c ≠ 0) :
    Calls Try.prog 14 #[.pointer (some ⟨b, 0, none⟩)] w fun e w' => e = .returned (.int .i64 c) ∧ w = w' := by
  obtain ⟨c0, c1, c2⟩ := blk3 h
  have hn : ((c : Int) != 0) = true := by rw [bne_iff_ne]; omega
  clear hc h
  go_enter Try.func14, Try.ntmps14
  go_wp2
  go_ret
  exact ⟨rfl, rfl⟩

theorem Sees.at {w : World} {xa : Option Addr} {n xc : Nat} {bs : List Nat} (h : Sees w (.slice xa n xc) bs) (k : Nat) (hk : k < bs.length) :
    ∃ b off, xa = some ⟨b, off, none⟩ ∧ w.cell? ⟨b, off + k, none⟩ = some (.int .u8 (bs.getD k 0 : Nat)) := by
  rcases h with ⟨_, h2⟩ | ⟨b, off, cap, hv, _, _, _, hc⟩
  · subst h2; simp at hk
  · cases hv; exact ⟨b, off, rfl, hc k hk⟩

set_option maxRecDepth 100000 in
set_option maxHeartbeats 400000 in
/-- same: are two slices of bytes alike? -/
theorem same_yes {w : World} {x y : Value} {bs : List Nat} (h1 : Sees w x bs) (h2 : Sees w y bs) (hl : bs.length ≤ 140737488355328) :
    Calls Try.prog 17 #[x, y] w fun e w' => e = .returned (.bool true) ∧ ∃ m, w' = w.drewN m := by
  obtain ⟨xa, xc, rfl⟩ := sees_len h1
  obtain ⟨ya, yc, rfl⟩ := sees_len h2
  go_enter Try.func17, Try.ntmps17
  go_wp2
  go_loopw [5] (fun i wr => ∃ k : Nat, k ≤ bs.length ∧ i = .int .i64 k ∧ ∃ m, wr = w.drewN m) (fun i _ => bs.length - (intOf i).toNat)
  case atStart => exact ⟨0, by omega, rfl, 0, rfl⟩
  case round =>
    obtain ⟨k, hk, rfl, m, hq⟩ := hrel
    subst hq
    by_cases hlt : k < bs.length
    · obtain ⟨xb, xo, rfl, hx⟩ := h1.at k hlt
      obtain ⟨yb, yo, rfl, hy⟩ := h2.at k hlt
      generalize bs.getD k 0 = z at hx hy
      clear h1 h2
      go_wp2
      go_quiet (fail)
      go_wp2
      go_roundw
      case rel => exact ⟨k + 1, by omega, by go_num, _, rfl⟩
      case measure => simp [intOf]; omega
    · go_wp2
      go_ret
      exact ⟨rfl, _, rfl⟩
end Go.Proofs.Ytiabhgkndejigab
