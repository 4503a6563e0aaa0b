/- The reader's Num and Int. -/
import Derived.Test.YtiabhgkndejigabTake
namespace Go.Proofs.Ytiabhgkndejigab
open Go.RowKit

theorem en74 (a : Array Value) (w : World) : (callFunc 67 a).run Try.prog w = .ok (.enter 67 a) w := by kernel_rfl
theorem en82 (a : Array Value) (w : World) : (callFunc 70 a).run Try.prog w = .ok (.enter 70 a) w := by kernel_rfl

theorem readNum_lt (l : List Nat) (k acc : Nat) (hk : k ≤ 9) (ha : acc < 128 ^ k) (hl : ∀ x ∈ l, x < 256) {n : Nat} {rest : List Nat} (h : readNum k acc l = .inr (n, rest)) : n < 18446744073709551616 ∧ (∀ x ∈ rest, x < 256) ∧ rest.length < l.length := by
  induction l generalizing k acc with
  | nil => simp [readNum] at h
  | cons x l ih =>
    rw [readNum] at h
    split at h
    · cases h
    · rename_i hA
      split at h
      · split at h
        · cases h
        · simp at h
          obtain ⟨rfl, rfl⟩ := h
          refine ⟨?_, fun y hy => hl y (by simp [hy]), by simp⟩
          by_cases h9 : k = 9
          · subst h9
            have : x ≤ 1 := by omega
            have : x * 128 ^ 9 ≤ 1 * 128 ^ 9 := Nat.mul_le_mul_right _ this
            omega
          · have h1 : x * 128 ^ k ≤ 127 * 128 ^ k := Nat.mul_le_mul_right _ (by omega)
            have h2 : 128 ^ k ≤ 128 ^ 8 := Nat.pow_le_pow_right (by omega) (by omega)
            omega
      · have h9 : k ≠ 9 := by
          intro e; subst e; omega
        have := ih (k + 1) _ (by omega) (or_shift k acc (x % 128) hk ha (by omega) (fun e => absurd e h9)).2 (fun y hy => hl y (by simp [hy])) h
        exact ⟨this.1, this.2.1, by simp; omega⟩

set_option maxRecDepth 100000 in
set_option maxHeartbeats 400000 in
theorem clos_num_ok {w : World} {b : Nat} {lv bv : Value} {l : List Nat} (h : Rd w b lv bv l) (hl : ∀ x ∈ l, x < 256) (p q : Nat) (z : Value) (hp : w.cell? ⟨p, 0, none⟩ = some (.pointer (some ⟨b, 0, none⟩))) (hq : Blk w q #[z] 33) (hqb : q ≠ b) (hql : lv.ownBlock ≠ some q) {n : Nat} {rest : List Nat} (hr : readNum 0 0 l = .inr (n, rest)) :
    Calls Try.prog 67 #[.pointer (some ⟨p, 0, none⟩), .pointer (some ⟨q, 0, none⟩)] w fun e w' => e = .returned (.tuple #[]) ∧ (∃ lv', Rd w' b lv' bv rest ∧ lv'.ownBlock = lv.ownBlock) ∧ Blk w' q #[.int .u64 (n : Nat)] 33 ∧ Kept [b, q] w w' := by
  have HC := hide (number_any h hl)
  have HH := hide h
  have HQ := hide hq
  have HR := hide hr
  clear h hl hq hr
  go_enter Try.func67, Try.ntmps67
  go_wp2_with fail
  refine (unhide HC).mono ?_
  rintro e w1 ⟨g1, _, hk⟩
  obtain ⟨rfl, lv', hrd, ho⟩ := g1 n rest (unhide HR)
  have hq1 : Blk w1 q #[z] 33 := (unhide HQ).kept hk (by simpa using hqb)
  have hc1 := blk1 hq1
  have hf1 := hq1.frozen 0
  have HQ1 := hide hq1
  have HRD := hide hrd
  clear hq1 g1 hrd
  go_wp2
  go_end0
  refine ⟨rfl, ⟨lv', (unhide HRD).kept ((Kept.refl [q] _).setCell (Or.inl (by simp)) _) (by simp; exact fun e => hqb e.symm) (fun x hx => by simp; intro e; subst e; exact hql (by rw [← ho]; exact hx)), ho⟩, ?_, ?_⟩
  · simpa using (unhide HQ1).set 0 _
  · exact (hk.mono (fun x hx => Or.inl (by simp at hx; simp [hx]))).setCell (Or.inl (by simp)) _

set_option maxRecDepth 100000 in
set_option maxHeartbeats 400000 in
theorem clos_num_err {w : World} {b : Nat} {lv bv : Value} {l : List Nat} (h : Rd w b lv bv l) (hl : ∀ x ∈ l, x < 256) (p q : Nat) (hp : w.cell? ⟨p, 0, none⟩ = some (.pointer (some ⟨b, 0, none⟩))) {c : Nat} (hr : readNum 0 0 l = .inl c) :
    Calls Try.prog 67 #[.pointer (some ⟨p, 0, none⟩), .pointer (some ⟨q, 0, none⟩)] w fun e w' => Faulty e c ∧ (∃ lv' l', Rd w' b lv' bv l') ∧ Kept [b] w w' := by
  have HC := hide (number_any h hl)
  have HR := hide hr
  clear h hl hr
  go_enter Try.func67, Try.ntmps67
  go_wp2_with fail
  refine (unhide HC).mono ?_
  rintro e w1 ⟨_, g1, hk⟩
  obtain ⟨⟨u, pv, rfl, hu⟩, hrd⟩ := g1 c (unhide HR)
  clear g1
  go_wp2
  exact ⟨rfl, ⟨u, pv, rfl, hu⟩, hrd, hk⟩

/-- What a face's variable holds behind a reading that ended well. -/
def Taken (b q : Nat) (lv bv : Value) (rest : List Nat) (z : Value) (t : TypeId) (w w' : World) : Prop :=
  (∃ lv', Rd w' b lv' bv rest ∧ lv'.ownBlock = lv.ownBlock) ∧ Blk w' q #[z] t ∧ Kept [b, q] w w'

theorem Taken.mono {b q : Nat} {lv bv : Value} {rest : List Nat} {z : Value} {t : TypeId} {W w3 w' : World} (k : Kept [] W w3) (h : Taken b q lv bv rest z t w3 w') : Taken b q lv bv rest z t W w' :=
  ⟨h.1, h.2.1, (k.mono (by simp)).trans h.2.2 (fun _ hx => Or.inl hx)⟩

theorem rd_lt {w : World} {b : Nat} {lv bv : Value} {l : List Nat} (h : Rd w b lv bv l) : b < w.heap.size ∧ ∀ x, lv.ownBlock = some x → x < w.heap.size := by
  refine ⟨h.blk.lt, fun x hx => ?_⟩
  rcases h.see with ⟨rfl, _⟩ | ⟨bk, off, cap, rfl, _, _, hlt, _⟩
  · cases hx
  · cases hx; exact hlt

set_option maxRecDepth 100000 in
set_option maxHeartbeats 400000 in
theorem rnum_ok {w : World} {b : Nat} {lv bv : Value} {l : List Nat} (h : Rd w b lv bv l) (hl : ∀ x ∈ l, x < 256) {n : Nat} {rest : List Nat} (hr : readNum 0 0 l = .inr (n, rest)) :
    Calls Try.prog 39 #[.pointer (some ⟨b, 0, none⟩)] w fun e w' => e = .returned (.int .u64 (n : Nat)) ∧ (∃ lv', Rd w' b lv' bv rest ∧ lv'.ownBlock = lv.ownBlock) ∧ Kept [b] w w' := by
  have hmf : ∀ (fn : Fn) (first cap : Array Value) (w : World), (Instr.makeFunc fn first cap).run Try.prog w = .ok (.func fn first cap) w := fun _ _ _ _ => rfl
  have hface : Calls Try.prog 55 #[.pointer (some ⟨b, 0, none⟩), .func (.func 67) #[] #[.pointer (some ⟨w.heap.size, 0, none⟩), .pointer (some ⟨w.heap.size + 1, 0, none⟩)]]
      ((w.alloc (.cells #[.pointer (some ⟨b, 0, none⟩)] 25)).alloc (.cells #[.int .u64 0] 33)) fun e w' => e = .returned (.tuple #[]) ∧ Taken b (w.heap.size + 1) lv bv rest (.int .u64 (n : Nat)) 33 ((w.alloc (.cells #[.pointer (some ⟨b, 0, none⟩)] 25)).alloc (.cells #[.int .u64 0] 33)) w' := by
    have h2 := (h.alloc (.cells #[.pointer (some ⟨b, 0, none⟩)] 25)).alloc (.cells #[.int .u64 0] 33)
    obtain ⟨hb, hlo⟩ := rd_lt h
    have b1 : Blk ((w.alloc (.cells #[.pointer (some ⟨b, 0, none⟩)] 25)).alloc (.cells #[.int .u64 0] 33)) w.heap.size #[.pointer (some ⟨b, 0, none⟩)] 25 := (Blk.new _ _ _).alloc _
    have b2 : Blk ((w.alloc (.cells #[.pointer (some ⟨b, 0, none⟩)] 25)).alloc (.cells #[.int .u64 0] 33)) (w.heap.size + 1) #[.int .u64 0] 33 := by
      have := Blk.new (w.alloc (.cells #[.pointer (some ⟨b, 0, none⟩)] 25)) #[.int .u64 0] 33
      simpa using this
    refine face_ok h2 _ (en74 _) (Taken b (w.heap.size + 1) lv bv rest (.int .u64 (n : Nat)) 33) (fun _ _ => Taken.mono) ?_
    intro w3 k3
    exact clos_num_ok (h2.kept k3 (by simp) (by simp)) hl w.heap.size (w.heap.size + 1) _ (blk1 (b1.kept k3 (by simp))) (b2.kept k3 (by simp)) (by omega) (fun e => by have := hlo _ e; omega) hr
  have HF := hide hface
  clear hface h hl hr
  go_enter Try.func39, Try.ntmps39
  go_wp2_with fail
  refine (unhide HF).mono ?_
  rintro e w1 ⟨rfl, hrd, hq, hk⟩
  have hc := blk1 hq
  clear hq
  go_wp2
  go_ret
  refine ⟨rfl, hrd, ?_⟩
  exact ((((Kept.refl [] w).alloc _).alloc _).mono (G := [b]) (by simp)).trans hk (fun x hx => by simp at hx; rcases hx with rfl | rfl; simp; right; omega)
end Go.Proofs.Ytiabhgkndejigab
