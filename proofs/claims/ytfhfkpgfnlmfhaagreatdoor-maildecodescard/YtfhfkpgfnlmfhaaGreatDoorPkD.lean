/- A text of the base. -/
import Derived.Test.YtfhfkpgfnlmfhaaGreatDoorPkC
import Derived.Defers
import Derived.Recover
import Derived.Laws.Pointers
import Derived.Laws.Panics
import Derived.Laws.PanicsMore
/- The reader: its state in memory; take, next, number. -/
namespace Go.Proofs.YtfhfkpgfnlmfhaaGreatDoor
open Go.RowKit

/-- In w there is a reader without a fault at block b; left: what is left; n: how many frames it is in. -/
structure Rd (w : World) (b : Nat) (lv bv : Value) (left : List Nat) : Prop where
  blk : Blk w b #[lv, bv, .int .i64 0] 69
  see : Sees w lv left
  n1 : lv.ownBlock ≠ some b
  bl : left.length ≤ 140737488355328

theorem blk3 {w : World} {b : Nat} {x0 x1 x2 : Value} {t : TypeId} (h : Blk w b #[x0, x1, x2] t) :
    w.cell? ⟨b, 0, none⟩ = some x0 ∧ w.cell? ⟨b, 1, none⟩ = some x1 ∧ w.cell? ⟨b, 2, none⟩ = some x2 :=
  ⟨by rw [h.cell]; rfl, by rw [h.cell]; rfl, by rw [h.cell]; rfl⟩
theorem blk1 {w : World} {b : Nat} {x0 : Value} {t : TypeId} (h : Blk w b #[x0] t) : w.cell? ⟨b, 0, none⟩ = some x0 := by rw [h.cell]; rfl

theorem Rd.kept {F : List Nat} {w w' : World} {b : Nat} {lv bv : Value} {left : List Nat} (h : Rd w b lv bv left) (k : Kept F w w') (hb : b ∉ F) (hl : ∀ x, lv.ownBlock = some x → x ∉ F) : Rd w' b lv bv left :=
  ⟨h.blk.kept k hb, h.see.kept k hl, h.n1, h.bl⟩
theorem Rd.alloc {w : World} {b : Nat} {lv bv : Value} {left : List Nat} (h : Rd w b lv bv left) (o : Obj) : Rd (w.alloc o) b lv bv left := h.kept ((Kept.refl [] w).alloc o) (by simp) (by simp)

theorem recover_idle (p : Addr) (w : World) :
    CallsD Tryz.prog 58 #[.pointer (some p)] .returning w fun e u' w' => e = .returned (.tuple #[]) ∧ u' = .returning ∧ w' = w := by
  refine callsD_of_wpS Tryz.func58 rfl fun c₀ cs hu => ?_
  apply wpS_seq
  apply wpS_region
  simp [wpOpsS, go_sem, recoverD, hu, Tryz.ntmps58, Exit.thenS]
  apply wpS_seq
  apply wpS_region
  simp [wpOpsS, go_sem, Exit.thenS, Array.replicate]
  refine wpS_cond (t := false) (by simp [Act.eval]) ?_
  simp only [Bool.false_eq_true, if_false]
  refine wpS_of_wp (wp_skip ?_)
  cases c₀
  simp_all [bodyPostS, results, Tryz.results58]

set_option maxRecDepth 100000 in
set_option maxHeartbeats 400000 in
theorem take_ok {w : World} {b g : Nat} {lv bv : Value} {left : List Nat} (h : Rd w b lv bv left) (caps : Array Value) (R : World → Prop) (hen : ∀ w, (callFunc g caps).run Tryz.prog w = .ok (.enter g caps) w)
    (hc : Calls Tryz.prog g caps (w.alloc (.cells #[.pointer (some ⟨b, 0, none⟩)] 40)) fun e w1 => e = .returned (.tuple #[]) ∧ R w1) :
    Calls Tryz.prog 40 #[.pointer (some ⟨b, 0, none⟩), .func (.func g) #[] caps] w fun e w' => e = .returned (.tuple #[]) ∧ R w' := by
  have hmf : ∀ (fn : Fn) (first cap : Array Value) (w : World), (Instr.makeFunc fn first cap).run Tryz.prog w = .ok (.func fn first cap) w := fun _ _ _ _ => rfl
  obtain ⟨c0, c1, c2⟩ := blk3 h.blk
  have hb := h.blk.lt
  have c2' : (w.alloc (.cells #[.pointer (some ⟨b, 0, none⟩)] 40)).cell? ⟨b, 2, none⟩ = some (.int .i64 0) := (blk3 (h.blk.alloc _)).2.2
  have HC := hide hc
  clear h hc c0 c1 c2
  go_enter_defers Tryz.func40, Tryz.ntmps40
  go_wp2_with fail
  refine (unhide HC).mono ?_
  rintro e w1 ⟨rfl, hR⟩
  go_wp2
  refine leaves_cons (f := 58) (args := #[.pointer (some ⟨w.heap.size, 0, none⟩)]) (by simp) (by simp [go_sem]) ?_
  refine (recover_idle ⟨w.heap.size, 0, none⟩ _).mono ?_
  rintro e u' w'' ⟨rfl, rfl, rfl⟩
  simp [Leaves, settle, results, Tryz.results40, go_sem, hR]


theorem ta_errno (n : Int) (w : World) : (Instr.typeAssert (.iface 26 (.int .i64 n)) 20 26 true).run Tryz.prog w = .ok (.tuple #[.int .i64 n, .bool true]) w := by kernel_rfl
theorem ta_bounds (v : Value) (w : World) : (Instr.typeAssert (.iface 8 v) 20 26 true).run Tryz.prog w = .ok (.tuple #[.int .i64 0, .bool false]) w := by kernel_rfl

set_option maxRecDepth 100000 in
set_option maxHeartbeats 400000 in
theorem faultOf_errno (n : Int) (w : World) :
    Calls Tryz.prog 59 #[.iface 26 (.int .i64 n)] w fun e w' => e = .returned (.int .i64 n) ∧ w = w' := by
  have h1 := ta_errno
  go_enter Tryz.func59, Tryz.ntmps59
  go_wp2
  go_ret
  exact ⟨rfl, rfl⟩

set_option maxRecDepth 100000 in
set_option maxHeartbeats 400000 in
theorem faultOf_bounds (v : Value) (w : World) :
    Calls Tryz.prog 59 #[.iface 8 v] w fun e w' => e = .returned (.int .i64 10) ∧ w = w' := by
  have h1 := ta_bounds
  go_enter Tryz.func59, Tryz.ntmps59
  go_wp2
  go_ret
  exact ⟨rfl, rfl⟩

theorem Rd.adv {w : World} {b : Nat} {bv : Value} {x : Nat} {left : List Nat} {bk off cap off' cap' : Nat}
    (h : Rd w b (.slice (some ⟨bk, off, none⟩) (left.length + 1) cap) bv (x :: left)) (ho : cap' = cap - 1 ∧ (off' = off + 1 ∨ cap = 1)) :
    Rd (w.setCell ⟨b, 0, none⟩ (.slice (some ⟨bk, off', none⟩) left.length cap')) b (.slice (some ⟨bk, off', none⟩) left.length cap') bv left ∧
      (Value.slice (some ⟨bk, off', none⟩) left.length cap').ownBlock = (Value.slice (some ⟨bk, off, none⟩) (left.length + 1) cap).ownBlock ∧ Kept [b] w (w.setCell ⟨b, 0, none⟩ (.slice (some ⟨bk, off', none⟩) left.length cap')) := by
  have hn1 := h.n1
  have hbk : bk ≠ b := fun e => hn1 (by rw [← e]; rfl)
  have kk : Kept [b] w (w.setCell ⟨b, 0, none⟩ (.slice (some ⟨bk, off', none⟩) left.length cap')) := (Kept.refl _ _).setCell (Or.inl (by simp)) _
  refine ⟨⟨by simpa using h.blk.set 0 (.slice (some ⟨bk, off', none⟩) left.length cap'), ?_, hn1, by have := h.bl; simp at this; omega⟩, rfl, kk⟩
  rcases h.see with ⟨h1, _⟩ | ⟨bk', o2, c2, hv, hc, hm, hlt, hcell⟩
  · cases h1
  · cases hv
    refine Or.inr ⟨bk, off', cap', rfl, by simp at hc; omega, by omega, Nat.lt_of_lt_of_le hlt kk.size, fun j hj => ?_⟩
    rw [kk.cell (p := ⟨bk, off' + j, none⟩) hlt (by simp; exact hbk)]
    have := hcell (j + 1) (by simp; omega)
    have e : off' + j = off + (j + 1) := by
      simp at hc; omega
    rw [e]; simpa using this

set_option maxRecDepth 100000 in
set_option maxHeartbeats 400000 in
theorem next_ok {w : World} {b : Nat} {lv bv : Value} {x : Nat} {left : List Nat} (h : Rd w b lv bv (x :: left)) :
    Calls Tryz.prog 79 #[.pointer (some ⟨b, 0, none⟩)] w fun e w' => e = .returned (.int .u8 x) ∧ ∃ lv', Rd w' b lv' bv left ∧ lv'.ownBlock = lv.ownBlock ∧ Kept [b] w w' := by
  obtain ⟨c0, c1, c2⟩ := blk3 h.blk
  have f0 := h.blk.frozen 0
  rcases h.see with ⟨_, h2⟩ | ⟨bk, off, cap, hv, hcap, hm, hlt, hcell⟩
  · cases h2
  have cx := hcell 0 (by simp)
  simp at cx
  subst hv
  have HH := hide h
  have hm' : cap ≤ 9223372036854775807 := by unfold maxLen at hm; omega
  simp only [List.length_cons] at c0 hcap HH
  clear h hcell hm
  go_enter Tryz.func79, Tryz.ntmps79
  go_wp2
  · have e1 : cap = 1 := by assumption
    subst e1
    go_ret
    exact ⟨rfl, _, Rd.adv (unhide HH) ⟨by omega, Or.inr rfl⟩⟩
  · go_ret
    exact ⟨rfl, _, Rd.adv (unhide HH) ⟨by omega, Or.inl rfl⟩⟩

set_option maxRecDepth 100000 in
set_option maxHeartbeats 400000 in
theorem refuse_no (n : Int) (w : World) :
    Calls Tryz.prog 42 #[.bool false, .int .i64 n] w fun e w' => e = .returned (.tuple #[]) ∧ w = w' := by
  go_enter Tryz.func42, Tryz.ntmps42
  go_wp2
  go_end0
  exact ⟨rfl, rfl⟩

set_option maxRecDepth 100000 in
set_option maxHeartbeats 400000 in
theorem refuse_yes (n : Int) (w : World) :
    Calls Tryz.prog 42 #[.bool true, .int .i64 n] w fun e w' => e = .panicked [{ v := .iface 26 (.int .i64 n), recovered := false }] ∧ w = w' := by
  go_enter Tryz.func42, Tryz.ntmps42
  go_wp2
  exact ⟨rfl, rfl, rfl⟩

theorem run_boundsPanic_q {P : Program} {α : Type} (w : World) (k : IntKind) (x y : Int) (code : BoundsCode) :
    ∃ s w', (boundsPanic k x y code : Sem α).run P w = .halt (.panic (boundsValue P (IntKind.i64.wrap x) y s code.toNat)) w' ∧ Quiet w w' := by
  unfold boundsPanic boundsValue
  split
  · simp [runtimePanic, goPanic, go_sem]
    exact (Classical.em _).elim (fun hc => Or.inr ⟨_, ⟨hc, rfl⟩, (Quiet.refl _).drew⟩) (fun hc => Or.inl ⟨_, ⟨hc, rfl⟩, (Quiet.refl _).drew⟩)
  · simp [runtimePanic, goPanic, go_sem]
    exact (Classical.em _).elim (fun hc => Or.inl ⟨_, ⟨hc, rfl⟩, Quiet.refl _⟩) (fun hc => Or.inr ⟨_, ⟨hc, rfl⟩, Quiet.refl _⟩)

theorem run_indexAt_out_q {P : Program} (w : World) (t : TypeId) (a0 : Option Addr) (len cap : Nat) (k : IntKind) (i : Int) (h : P.underlying t = some (.slice (P.elem t))) (hnil : a0 = none → len = 0) (ho : i < 0 ∨ (len : Int) ≤ i) :
    ∃ s w', (Instr.indexAt t (.slice a0 len cap) (.int k i)).run P w = .halt (.panic (boundsValue P (IntKind.i64.wrap i) len s 0)) w' ∧ Quiet w w' := by
  cases a0 with
  | some a =>
    rw [run_indexAt_slice (h := h), if_neg (by omega)]
    exact run_boundsPanic_q w k i len .index
  | none =>
    obtain rfl := hnil rfl
    have e : (Instr.indexAt t (.slice none 0 cap) (.int k i)).run P w = (boundsPanic k i 0 .index).run P w := by
      simp [Instr.indexAt, run_underlying h, asIntOf]
    rw [e]
    exact run_boundsPanic_q w k i 0 .index

theorem Tryz.rtb : Tryz.prog.rt.boundsError = 8 := by kernel_rfl
theorem Tryz.elem22 : Tryz.prog.underlying 22 = some (.slice (Tryz.prog.elem 22)) := by kernel_rfl

set_option maxRecDepth 100000 in
set_option maxHeartbeats 400000 in
theorem next_end {w : World} {b : Nat} {lv bv : Value} (h : Rd w b lv bv []) :
    Calls Tryz.prog 79 #[.pointer (some ⟨b, 0, none⟩)] w fun e w' => (∃ pv, e = .panicked [{ v := .iface 8 pv, recovered := false }]) ∧ Quiet w w' := by
  obtain ⟨c0, c1, c2⟩ := blk3 h.blk
  obtain ⟨a, cap, hv⟩ := sees_len h.see
  have hnil : a = none → ([] : List Nat).length = 0 := fun _ => rfl
  obtain ⟨s, w1, hrun, hq⟩ := run_indexAt_out_q (P := Tryz.prog) w 22 a ([] : List Nat).length cap .i64 0 Tryz.elem22 hnil (by simp)
  unfold boundsValue at hrun
  rw [Tryz.rtb] at hrun
  rw [hv] at c0
  simp only [List.length_nil] at hrun c0
  clear h hv hnil
  go_enter Tryz.func79, Tryz.ntmps79
  go_wp2
  exact ⟨rfl, ⟨_, rfl⟩, hq⟩

/-- Num's reading, byte by byte: what is answered and what is left, or the refusal. -/
def readNum (k acc : Nat) : List Nat → Nat ⊕ (Nat × List Nat)
  | [] => .inl 10
  | x :: l => if k = 9 ∧ 1 < x then .inl 11 else if x < 128 then (if x = 0 ∧ 0 < k then .inl 11 else .inr (acc + x * 128 ^ k, l)) else readNum (k + 1) (acc + x % 128 * 128 ^ k) l

/-- A panic's value and the fault that comes of it. -/
def Faulty (e : Ending) (c : Nat) : Prop := ∃ u pv, e = .panicked [{ v := .iface u pv, recovered := false }] ∧ ((u = 8 ∧ c = 10) ∨ (u = 26 ∧ pv = .int .i64 c))
end Go.Proofs.YtfhfkpgfnlmfhaaGreatDoor
