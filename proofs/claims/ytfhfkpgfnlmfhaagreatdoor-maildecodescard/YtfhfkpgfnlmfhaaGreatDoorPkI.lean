/- A text of the base. -/
import Derived.Test.YtfhfkpgfnlmfhaaGreatDoorPkF
import Derived.Lib.Tables
/- The widths of the unsigned kinds; the reader's Byte and Rest. -/
namespace Go.Proofs.YtfhfkpgfnlmfhaaGreatDoor
open Go.RowKit

set_option maxRecDepth 100000 in
set_option maxHeartbeats 400000 in
theorem len64_8 (x : Int) (h0 : 0 ≤ x) (h1 : x ≤ 255) (w : World) : Calls Tryz.prog 87 #[.int .u64 x] w fun e w' => e = .returned (.int .i64 (wrap64 (wrap64 (Lib.len8 x)))) ∧ w = w' := by
  go_enter Tryz.func87, Tryz.ntmps87
  go_wp2
  go_ret
  exact ⟨rfl, rfl⟩

set_option maxRecDepth 100000 in
set_option maxHeartbeats 400000 in
theorem width8 (w : World) : Calls Tryz.prog 82 #[] w fun e w' => e = .returned (.int .i64 1) ∧ w = w' := by
  have e1 : IntKind.u64.wrap (bits BinOp.xor IntKind.u8 IntKind.u8.max 0) = 255 := by decide +kernel
  have e2 : wrap64 (wrap64 (Lib.len8 255)) = 8 := by decide +kernel
  go_enter Tryz.func82, Tryz.ntmps82
  go_wp2_with (first | (go_at_call 87; refine (len64_8 255 (by omega) (by omega) _).mono ?_; rintro e w' ⟨rfl, rfl⟩))
  go_ret
  exact ⟨rfl, rfl⟩

set_option maxRecDepth 100000 in
set_option maxHeartbeats 400000 in
theorem take8_ok {w : World} {b : Nat} {lv bv : Value} {x : Nat} {l : List Nat} (h : Rd w b lv bv (x :: l)) (hx : x < 256) :
    Calls Tryz.prog 63 #[.pointer (some ⟨b, 0, none⟩)] w fun e w' => e = .returned (.int .u8 x) ∧ ∃ lv', Rd w' b lv' bv l ∧ lv'.ownBlock = lv.ownBlock ∧ Kept [b] w w' := by
  have HC := hide (next_ok h)
  clear h
  have e0 : bits .or .u8 0 (x : Int) = (x : Int) := by
    have := u8_or_nat 0 x (by omega) hx
    simpa using this
  go_enter Tryz.func63, Tryz.ntmps63
  go_wp2_with (first | (go_at_call 82; refine (width8 _).mono ?_; rintro e w' ⟨rfl, rfl⟩))
  refine wp_loop_rounds 2 ?_
  rw [rounds_succ]
  go_wp2_with (first | (go_at_call 79; refine (unhide HC).mono ?_; rintro e w1 ⟨rfl, HX⟩))
  rw [rounds_succ]
  go_wp2
  go_ret
  exact ⟨rfl, HX⟩

theorem en76 (a : Array Value) (w : World) : (callFunc 115 a).run Tryz.prog w = .ok (.enter 115 a) w := by kernel_rfl

set_option maxRecDepth 100000 in
set_option maxHeartbeats 400000 in
theorem clos_byte_ok {w : World} {b : Nat} {lv bv : Value} {x : Nat} {l : List Nat} (h : Rd w b lv bv (x :: l)) (hx : x < 256) (p q : Nat) (z : Value) (hp : w.cell? ⟨p, 0, none⟩ = some (.pointer (some ⟨b, 0, none⟩))) (hq : Blk w q #[z] 3) (hqb : q ≠ b) (hql : lv.ownBlock ≠ some q) :
    Calls Tryz.prog 115 #[.pointer (some ⟨p, 0, none⟩), .pointer (some ⟨q, 0, none⟩)] w fun e w' => e = .returned (.tuple #[]) ∧ Taken b q lv bv l (.int .i64 (x : Nat)) 3 w w' := by
  have HC := hide (take8_ok h hx)
  have HQ := hide hq
  clear h hq
  go_enter Tryz.func115, Tryz.ntmps115
  go_wp2_with fail
  refine (unhide HC).mono ?_
  rintro e w1 ⟨rfl, lv', hrd, ho, hk⟩
  have hq1 : Blk w1 q #[z] 3 := (unhide HQ).kept hk (by simpa using hqb)
  have hc1 := blk1 hq1
  have hf1 := hq1.frozen 0
  have HQ1 := hide hq1
  have HRD := hide hrd
  clear hq1 hrd
  go_wp2
  go_end0
  refine ⟨rfl, ⟨lv', (unhide HRD).kept ((Kept.refl [q] _).setCell (Or.inl (by simp)) _) (by simp; exact fun e => hqb e.symm) (fun x hx => by simp; intro e; subst e; exact hql (by rw [← ho]; exact hx)), ho⟩, ?_, ?_⟩
  · simpa using (unhide HQ1).set 0 _
  · exact (hk.mono (fun x hx => Or.inl (by simp at hx; simp [hx]))).setCell (Or.inl (by simp)) _

set_option maxRecDepth 100000 in
set_option maxHeartbeats 400000 in
theorem rbyte_ok {w : World} {b : Nat} {lv bv : Value} {x : Nat} {l : List Nat} (h : Rd w b lv bv (x :: l)) (hx : x < 256) :
    Calls Tryz.prog 112 #[.pointer (some ⟨b, 0, none⟩)] w fun e w' => e = .returned (.int .i64 (x : Nat)) ∧ (∃ lv', Rd w' b lv' bv l ∧ lv'.ownBlock = lv.ownBlock) ∧ Kept [b] w w' := by
  have hmf : ∀ (fn : Fn) (first cap : Array Value) (w : World), (Instr.makeFunc fn first cap).run Tryz.prog w = .ok (.func fn first cap) w := fun _ _ _ _ => rfl
  have hface : Calls Tryz.prog 40 #[.pointer (some ⟨b, 0, none⟩), .func (.func 115) #[] #[.pointer (some ⟨w.heap.size, 0, none⟩), .pointer (some ⟨w.heap.size + 1, 0, none⟩)]]
      ((w.alloc (.cells #[.pointer (some ⟨b, 0, none⟩)] 40)).alloc (.cells #[.int .i64 0] 3)) fun e w' => e = .returned (.tuple #[]) ∧ Taken b (w.heap.size + 1) lv bv l (.int .i64 (x : Nat)) 3 ((w.alloc (.cells #[.pointer (some ⟨b, 0, none⟩)] 40)).alloc (.cells #[.int .i64 0] 3)) w' := by
    have h2 := (h.alloc (.cells #[.pointer (some ⟨b, 0, none⟩)] 40)).alloc (.cells #[.int .i64 0] 3)
    obtain ⟨hb, hlo⟩ := rd_lt h
    have b1 : Blk ((w.alloc (.cells #[.pointer (some ⟨b, 0, none⟩)] 40)).alloc (.cells #[.int .i64 0] 3)) w.heap.size #[.pointer (some ⟨b, 0, none⟩)] 40 := (Blk.new _ _ _).alloc _
    have b2 : Blk ((w.alloc (.cells #[.pointer (some ⟨b, 0, none⟩)] 40)).alloc (.cells #[.int .i64 0] 3)) (w.heap.size + 1) #[.int .i64 0] 3 := by
      have := Blk.new (w.alloc (.cells #[.pointer (some ⟨b, 0, none⟩)] 40)) #[.int .i64 0] 3
      simpa using this
    refine face_ok h2 _ (en76 _) (Taken b (w.heap.size + 1) lv bv l (.int .i64 (x : Nat)) 3) (fun _ _ => Taken.mono) ?_
    intro w3 k3
    exact clos_byte_ok (h2.kept k3 (by simp) (by simp)) hx w.heap.size (w.heap.size + 1) _ (blk1 (b1.kept k3 (by simp))) (b2.kept k3 (by simp)) (by omega) (fun e => by have := hlo _ e; omega)
  have HF := hide hface
  clear hface h
  go_enter Tryz.func112, Tryz.ntmps112
  go_wp2_with fail
  refine (unhide HF).mono ?_
  rintro e w1 ⟨rfl, hrd, hq, hk⟩
  have hc := blk1 hq
  clear hq
  go_wp2
  go_ret
  refine ⟨rfl, hrd, ?_⟩
  exact ((((Kept.refl [] w).alloc _).alloc _).mono (G := [b]) (by simp)).trans hk (fun x hx => by simp at hx; rcases hx with rfl | rfl; simp; right; omega)
end Go.Proofs.YtfhfkpgfnlmfhaaGreatDoor
