/- The reader's Fixed: its face. Its Done, whatever frames it has been in. -/
import Derived.Test.YtiabhgkndejigabRfixB
namespace Go.Proofs.Ytiabhgkndejigab
open Go.RowKit

theorem en108 (a : Array Value) (w : World) : (callFunc 64 a).run Try.prog w = .ok (.enter 64 a) w := by kernel_rfl

set_option maxRecDepth 100000 in
set_option maxHeartbeats 400000 in
theorem clos_fixed_ok {w : World} {b : Nat} {lv bv : Value} {l : List Nat} (h : Rd w b lv bv l) (hl : ∀ x ∈ l, x < 256) (size ps pr q : Nat) (z : Value) (hps : w.cell? ⟨ps, 0, none⟩ = some (.int .i64 size)) (hpr : w.cell? ⟨pr, 0, none⟩ = some (.pointer (some ⟨b, 0, none⟩))) (hq : Blk w q #[z] 33) (hqb : q ≠ b) (hql : lv.ownBlock ≠ some q) (h1 : 1 ≤ size) (h8 : size ≤ 8) (hn : size ≤ l.length) :
    Calls Try.prog 64 #[.pointer (some ⟨ps, 0, none⟩), .pointer (some ⟨pr, 0, none⟩), .pointer (some ⟨q, 0, none⟩)] w fun e w' => e = .returned (.tuple #[]) ∧ Taken b q lv bv (l.drop size) (.int .u64 (leV (l.take size) : Nat)) 33 w w' := by
  have HC := hide (takeFixed_ok h hl size h1 h8 hn)
  have HQ := hide hq
  clear h hl hq hn
  have b1 : decide ((size : Int) < 1) = false := by simp; omega
  have b2 : decide (8 < (size : Int)) = false := by simp; omega
  clear h1 h8
  go_enter Try.func64, Try.ntmps64
  go_wp2_with (first | (go_at_call 57; refine (refuse_no _ _).mono ?_; rintro e w'' ⟨rfl, rfl⟩))
  refine (unhide HC).mono ?_
  rintro e w1 ⟨rfl, lv', hrd, ho, hk⟩
  have hq1 : Blk w1 q #[z] 33 := (unhide HQ).kept hk (by simpa using hqb)
  have hc1 := blk1 hq1
  have hf1 := hq1.frozen 0
  have HQ1 := hide hq1
  have HRD := hide hrd
  clear hq1 hrd
  go_wp2
  go_end0
  refine ⟨rfl, ⟨lv', (unhide HRD).kept ((Kept.refl [q] _).setCell (Or.inl (by simp)) _) (by simp; exact fun e => hqb e.symm) (fun x hx => by simp; intro e; subst e; exact hql (by rw [← ho]; exact hx)), ho⟩, ?_, ?_⟩
  · simpa using (unhide HQ1).set 0 _
  · exact (hk.mono (fun x hx => Or.inl (by simp at hx; simp [hx]))).setCell (Or.inl (by simp)) _

def W3n (w : World) (b : Nat) (n : Int) : World := ((w.alloc (.cells #[.pointer (some ⟨b, 0, none⟩)] 25)).alloc (.cells #[.int .i64 n] 3)).alloc (.cells #[.int .u64 0] 33)

theorem W3n_facts (w : World) (b : Nat) (n : Int) : Kept [] w (W3n w b n) ∧ (W3n w b n).heap.size = w.heap.size + 3 ∧ Blk (W3n w b n) w.heap.size #[.pointer (some ⟨b, 0, none⟩)] 25 ∧ Blk (W3n w b n) (w.heap.size + 1) #[.int .i64 n] 3 ∧ Blk (W3n w b n) (w.heap.size + 2) #[.int .u64 0] 33 := by
  unfold W3n
  refine ⟨(((Kept.refl [] w).alloc _).alloc _).alloc _, by simp, ((Blk.new _ _ _).alloc _).alloc _, ?_, ?_⟩
  · have := (Blk.new (w.alloc (.cells #[.pointer (some ⟨b, 0, none⟩)] 25)) #[.int .i64 n] 3).alloc (.cells #[.int .u64 0] 33)
    simpa using this
  · have := Blk.new ((w.alloc (.cells #[.pointer (some ⟨b, 0, none⟩)] 25)).alloc (.cells #[.int .i64 n] 3)) #[.int .u64 0] 33
    simpa using this

set_option maxRecDepth 100000 in
set_option maxHeartbeats 400000 in
theorem rfixed_ok {w : World} {b : Nat} {lv bv : Value} {l : List Nat} (h : Rd w b lv bv l) (hl : ∀ x ∈ l, x < 256) (size : Nat) (h1 : 1 ≤ size) (h8 : size ≤ 8) (hn : size ≤ l.length) :
    Calls Try.prog 28 #[.pointer (some ⟨b, 0, none⟩), .int .i64 size] w fun e w' => e = .returned (.int .u64 (leV (l.take size) : Nat)) ∧ (∃ lv', Rd w' b lv' bv (l.drop size) ∧ lv'.ownBlock = lv.ownBlock) ∧ Kept [b] w w' := by
  have hmf : ∀ (fn : Fn) (first cap : Array Value) (w : World), (Instr.makeFunc fn first cap).run Try.prog w = .ok (.func fn first cap) w := fun _ _ _ _ => rfl
  obtain ⟨k0, hsz, b1, b2, b3⟩ := W3n_facts w b size
  obtain ⟨hb, hlo⟩ := rd_lt h
  have hface : Calls Try.prog 55 #[.pointer (some ⟨b, 0, none⟩), .func (.func 64) #[] #[.pointer (some ⟨w.heap.size + 1, 0, none⟩), .pointer (some ⟨w.heap.size, 0, none⟩), .pointer (some ⟨w.heap.size + 2, 0, none⟩)]] (W3n w b size)
      fun e w' => e = .returned (.tuple #[]) ∧ Taken b (w.heap.size + 2) lv bv (l.drop size) (.int .u64 (leV (l.take size) : Nat)) 33 (W3n w b size) w' := by
    refine face_ok (h.kept k0 (by simp) (by simp)) _ (en108 _) (Taken b (w.heap.size + 2) lv bv (l.drop size) (.int .u64 (leV (l.take size) : Nat)) 33) (fun _ _ => Taken.mono) ?_
    intro w3 k3
    exact clos_fixed_ok ((h.kept k0 (by simp) (by simp)).kept k3 (by simp) (by simp)) hl size _ _ _ _ (blk1 (b2.kept k3 (by simp))) (blk1 (b1.kept k3 (by simp))) (b3.kept k3 (by simp)) (by omega) (fun e => by have := hlo _ e; omega) h1 h8 hn
  have HF := hide hface
  have HK0 := hide k0
  clear hface h b1 b2 b3 k0 hsz hl hn h1 h8
  unfold W3n at HF HK0
  go_enter Try.func28, Try.ntmps28
  go_wp2_with fail
  refine (unhide HF).mono ?_
  rintro e w1 ⟨rfl, hrd, hq, hk⟩
  have hc := blk1 hq
  clear hq
  go_wp2
  go_ret
  refine ⟨rfl, hrd, ?_⟩
  exact ((unhide HK0).mono (by simp)).trans hk (fun x hx => by simp at hx; rcases hx with rfl | rfl; simp; right; omega)

set_option maxRecDepth 100000 in
set_option maxHeartbeats 400000 in
theorem rdone_f {w : World} {b : Nat} {lv bv : Value} {hs : List Value} {l : List Nat} {behind : List (List Nat)} {D : Option Nat} (h : Rf w b lv bv hs l behind D) (c : Nat) (hc : c = if l = [] ∧ behind = [] then 0 else 12) :
    Calls Try.prog 14 #[.pointer (some ⟨b, 0, none⟩)] w fun e w' => e = .returned (.int .i64 c) ∧ w = w' := by
  obtain ⟨c0, c1, c2⟩ := blk3 h.rd.blk
  obtain ⟨a, cap, hlv⟩ := sees_len h.rd.see
  obtain ⟨ba, bc, hbv⟩ := own_len h.own
  have hlen := h.hl
  rw [hlv] at c0
  rw [hbv] at c1
  clear hlv hbv h
  by_cases hl : l = []
  · by_cases hb : behind = []
    · rw [if_pos ⟨hl, hb⟩] at hc
      subst hc
      have d1 : decide (0 < l.length) = false := by simp [hl]
      have d2 : decide (0 < hs.length) = false := by simp [hlen, hb]
      clear hl hb hlen
      go_enter Try.func14, Try.ntmps14
      go_wp2
      go_ret
      exact ⟨rfl, rfl⟩
    · rw [if_neg (fun e => hb e.2)] at hc
      subst hc
      have d1 : decide (0 < l.length) = false := by simp [hl]
      have d2 : decide (0 < hs.length) = true := by have := List.length_pos_iff.2 hb; simp; omega
      clear hl hb hlen
      go_enter Try.func14, Try.ntmps14
      go_wp2
      go_ret
      exact ⟨rfl, rfl⟩
  · rw [if_neg (fun e => hl e.1)] at hc
    subst hc
    have d1 : decide (0 < l.length) = true := by have := List.length_pos_iff.2 hl; simpa using this
    clear hl hlen
    go_enter Try.func14, Try.ntmps14
    go_wp2
    go_ret
    exact ⟨rfl, rfl⟩
end Go.Proofs.Ytiabhgkndejigab
