/- The reader's calls that give up, and all calls on a reader with a fault. -/
import Derived.Test.YtiabhgkndejigabPE
namespace Go.Proofs.Ytiabhgkndejigab
open Go.RowKit

theorem enByte (a : Array Value) (w : World) : (callFunc 68 a).run Try.prog w = .ok (.enter 68 a) w := by kernel_rfl
theorem enInt (a : Array Value) (w : World) : (callFunc 70 a).run Try.prog w = .ok (.enter 70 a) w := by kernel_rfl
theorem enReal (a : Array Value) (w : World) : (callFunc 72 a).run Try.prog w = .ok (.enter 72 a) w := by kernel_rfl
theorem enFixed (a : Array Value) (w : World) : (callFunc 64 a).run Try.prog w = .ok (.enter 64 a) w := by kernel_rfl

set_option maxRecDepth 100000 in
set_option maxHeartbeats 400000 in
theorem clos_byte_err {w : World} {b : Nat} {lv bv : Value} {l : List Nat} (h : Rd w b lv bv l) (hn : l.length < 1) (p q : Nat) (hp : w.cell? ⟨p, 0, none⟩ = some (.pointer (some ⟨b, 0, none⟩))) :
    Calls Try.prog 68 #[.pointer (some ⟨p, 0, none⟩), .pointer (some ⟨q, 0, none⟩)] w (GaveUp w b bv 10) := by
  have HC := hide (take8_err h hn)
  clear h hn
  go_enter Try.func68, Try.ntmps68
  go_wp2_with fail
  refine (unhide HC).mono ?_
  rintro e w1 ⟨⟨u, pv, rfl, hu⟩, hrd, hk⟩
  have HU := hide hu
  clear hu
  go_wp2
  exact ⟨rfl, ⟨u, pv, rfl, by simpa using unhide HU⟩, hrd, hk⟩

set_option maxRecDepth 100000 in
set_option maxHeartbeats 400000 in
theorem clos_int_err {w : World} {b : Nat} {lv bv : Value} {l : List Nat} (h : Rd w b lv bv l) (hl : ∀ x ∈ l, x < 256) (p q : Nat) (hp : w.cell? ⟨p, 0, none⟩ = some (.pointer (some ⟨b, 0, none⟩))) {c : Nat} (hr : readNum 0 0 l = .inl c) :
    Calls Try.prog 70 #[.pointer (some ⟨p, 0, none⟩), .pointer (some ⟨q, 0, none⟩)] w (GaveUp w b bv c) := by
  have HC := hide (number_any h hl)
  have HR := hide hr
  clear h hl hr
  go_enter Try.func70, Try.ntmps70
  go_wp2_with fail
  refine (unhide HC).mono ?_
  rintro e w1 ⟨_, g1, hk⟩
  obtain ⟨⟨u, pv, rfl, hu⟩, hrd⟩ := g1 c (unhide HR)
  clear g1
  go_wp2
  exact ⟨rfl, ⟨u, pv, rfl, hu⟩, hrd, hk⟩

set_option maxRecDepth 100000 in
set_option maxHeartbeats 400000 in
theorem clos_real_err {w : World} {b : Nat} {lv bv : Value} {l : List Nat} (h : Rd w b lv bv l) (hn : l.length < 8) (p q : Nat) (hp : w.cell? ⟨p, 0, none⟩ = some (.pointer (some ⟨b, 0, none⟩))) :
    Calls Try.prog 72 #[.pointer (some ⟨p, 0, none⟩), .pointer (some ⟨q, 0, none⟩)] w (GaveUp w b bv 10) := by
  have HC := hide (cut_end h 8 (by omega))
  have HH := hide h
  clear h hn
  go_enter Try.func72, Try.ntmps72
  go_wp2_with fail
  refine (unhide HC).mono ?_
  rintro e w1 ⟨⟨pv, rfl⟩, hq⟩
  go_wp2
  exact ⟨rfl, ⟨8, pv, rfl, Or.inl ⟨rfl, rfl⟩⟩, ⟨lv, l, (unhide HH).kept hq.kept (by simp) (by simp)⟩, hq.kept.mono (by simp)⟩

set_option maxRecDepth 100000 in
set_option maxHeartbeats 400000 in
theorem clos_fixed_err {w : World} {b : Nat} {lv bv : Value} {l : List Nat} (h : Rd w b lv bv l) (hl : ∀ x ∈ l, x < 256) (size : Int) (ps pr q c : Nat) (hps : w.cell? ⟨ps, 0, none⟩ = some (.int .i64 size)) (hpr : w.cell? ⟨pr, 0, none⟩ = some (.pointer (some ⟨b, 0, none⟩)))
    (hr : ((size < 1 ∨ 8 < size) ∧ c = 2) ∨ (1 ≤ size ∧ size ≤ 8 ∧ (l.length : Int) < size ∧ c = 10)) :
    Calls Try.prog 64 #[.pointer (some ⟨ps, 0, none⟩), .pointer (some ⟨pr, 0, none⟩), .pointer (some ⟨q, 0, none⟩)] w (GaveUp w b bv c) := by
  have HH := hide h
  rcases hr with ⟨hs, rfl⟩ | ⟨h1, h8, hn, rfl⟩
  · by_cases hs1 : size < 1
    · have b1 : decide (size < 1) = true := by simpa using hs1
      clear h hl hs hs1
      go_enter Try.func64, Try.ntmps64
      go_wp2_with (first | (go_at_call 57; refine (refuse_yes _ _).mono ?_; rintro e w'' ⟨rfl, rfl⟩))
      exact ⟨rfl, ⟨37, _, rfl, Or.inr ⟨rfl, rfl⟩⟩, ⟨_, _, unhide HH⟩, Kept.refl _ _⟩
    · have b1 : decide (size < 1) = false := by simpa using hs1
      have b2 : decide (8 < size) = true := by simp; omega
      clear h hl hs hs1
      go_enter Try.func64, Try.ntmps64
      go_wp2_with (first | (go_at_call 57; refine (refuse_yes _ _).mono ?_; rintro e w'' ⟨rfl, rfl⟩))
      exact ⟨rfl, ⟨37, _, rfl, Or.inr ⟨rfl, rfl⟩⟩, ⟨_, _, unhide HH⟩, Kept.refl _ _⟩
  · obtain ⟨n, rfl⟩ := Int.eq_ofNat_of_zero_le (show 0 ≤ size by omega)
    have HC := hide (takeFixed_err h hl n (by omega) (by omega) (by omega))
    have b1 : decide ((n : Int) < 1) = false := by simp; omega
    have b2 : decide (8 < (n : Int)) = false := by simp; omega
    clear h hl h1 h8 hn
    go_enter Try.func64, Try.ntmps64
    go_wp2_with (first | (go_at_call 57; refine (refuse_no _ _).mono ?_; rintro e w'' ⟨rfl, rfl⟩))
    refine (unhide HC).mono ?_
    rintro e w1 ⟨⟨u, pv, rfl, hu⟩, hrd, hk⟩
    have HU := hide hu
    clear hu
    go_wp2
    exact ⟨rfl, ⟨u, pv, rfl, by simpa using unhide HU⟩, hrd, hk⟩


set_option maxRecDepth 100000 in
set_option maxHeartbeats 400000 in
theorem rbyte_err {w : World} {b : Nat} {lv bv : Value} {l : List Nat} (h : Rd w b lv bv l) (hn : l.length < 1) :
    Calls Try.prog 41 #[.pointer (some ⟨b, 0, none⟩)] w fun e w' => e = .returned (.int .i64 0) ∧ RdF w' b 10 ∧ Kept [b] w w' := by
  have hmf : ∀ (fn : Fn) (first cap : Array Value) (w : World), (Instr.makeFunc fn first cap).run Try.prog w = .ok (.func fn first cap) w := fun _ _ _ _ => rfl
  obtain ⟨hb, hlo⟩ := rd_lt h
  have hface : Calls Try.prog 55 #[.pointer (some ⟨b, 0, none⟩), .func (.func 68) #[] #[.pointer (some ⟨w.heap.size, 0, none⟩), .pointer (some ⟨w.heap.size + 1, 0, none⟩)]]
      ((w.alloc (.cells #[.pointer (some ⟨b, 0, none⟩)] 25)).alloc (.cells #[.int .i64 0] 3)) fun e w' => e = .returned (.tuple #[]) ∧ RdF w' b 10 ∧ Blk w' (w.heap.size + 1) #[.int .i64 0] 3 ∧ Kept [b] ((w.alloc (.cells #[.pointer (some ⟨b, 0, none⟩)] 25)).alloc (.cells #[.int .i64 0] 3)) w' := by
    have h2 := (h.alloc (.cells #[.pointer (some ⟨b, 0, none⟩)] 25)).alloc (.cells #[.int .i64 0] 3)
    have b1 : Blk ((w.alloc (.cells #[.pointer (some ⟨b, 0, none⟩)] 25)).alloc (.cells #[.int .i64 0] 3)) w.heap.size #[.pointer (some ⟨b, 0, none⟩)] 25 := (Blk.new _ _ _).alloc _
    have b2 : Blk ((w.alloc (.cells #[.pointer (some ⟨b, 0, none⟩)] 25)).alloc (.cells #[.int .i64 0] 3)) (w.heap.size + 1) #[.int .i64 0] 3 := by
      have := Blk.new (w.alloc (.cells #[.pointer (some ⟨b, 0, none⟩)] 25)) #[.int .i64 0] 3
      simpa using this
    refine (face_err h2 _ 10 (enByte _) ?_).mono ?_
    · intro w3 k3
      exact clos_byte_err (h2.kept k3 (by simp) (by simp)) hn w.heap.size (w.heap.size + 1) (blk1 (b1.kept k3 (by simp)))
    · rintro e w' ⟨rfl, g1, g2⟩
      exact ⟨rfl, g1, b2.kept g2 (by simp; omega), g2⟩
  have HF := hide hface
  clear hface h hn
  go_enter Try.func41, Try.ntmps41
  go_wp2_with fail
  refine (unhide HF).mono ?_
  rintro e w1 ⟨rfl, hrd, hq, hk⟩
  have hc := blk1 hq
  have HR := hide hrd
  clear hq hrd
  go_wp2
  go_ret
  refine ⟨rfl, unhide HR, ?_⟩
  exact ((((Kept.refl [] w).alloc _).alloc _).mono (G := [b]) (by simp)).trans hk (fun x hx => Or.inl hx)


set_option maxRecDepth 100000 in
set_option maxHeartbeats 400000 in
theorem rint_err {w : World} {b : Nat} {lv bv : Value} {l : List Nat} (h : Rd w b lv bv l) (hl : ∀ x ∈ l, x < 256) {c : Nat} (hr : readNum 0 0 l = .inl c) :
    Calls Try.prog 43 #[.pointer (some ⟨b, 0, none⟩)] w fun e w' => e = .returned (.int .i64 0) ∧ RdF w' b c ∧ Kept [b] w w' := by
  have hmf : ∀ (fn : Fn) (first cap : Array Value) (w : World), (Instr.makeFunc fn first cap).run Try.prog w = .ok (.func fn first cap) w := fun _ _ _ _ => rfl
  obtain ⟨hb, hlo⟩ := rd_lt h
  have hface : Calls Try.prog 55 #[.pointer (some ⟨b, 0, none⟩), .func (.func 70) #[] #[.pointer (some ⟨w.heap.size, 0, none⟩), .pointer (some ⟨w.heap.size + 1, 0, none⟩)]]
      ((w.alloc (.cells #[.pointer (some ⟨b, 0, none⟩)] 25)).alloc (.cells #[.int .i64 0] 3)) fun e w' => e = .returned (.tuple #[]) ∧ RdF w' b c ∧ Blk w' (w.heap.size + 1) #[.int .i64 0] 3 ∧ Kept [b] ((w.alloc (.cells #[.pointer (some ⟨b, 0, none⟩)] 25)).alloc (.cells #[.int .i64 0] 3)) w' := by
    have h2 := (h.alloc (.cells #[.pointer (some ⟨b, 0, none⟩)] 25)).alloc (.cells #[.int .i64 0] 3)
    have b1 : Blk ((w.alloc (.cells #[.pointer (some ⟨b, 0, none⟩)] 25)).alloc (.cells #[.int .i64 0] 3)) w.heap.size #[.pointer (some ⟨b, 0, none⟩)] 25 := (Blk.new _ _ _).alloc _
    have b2 : Blk ((w.alloc (.cells #[.pointer (some ⟨b, 0, none⟩)] 25)).alloc (.cells #[.int .i64 0] 3)) (w.heap.size + 1) #[.int .i64 0] 3 := by
      have := Blk.new (w.alloc (.cells #[.pointer (some ⟨b, 0, none⟩)] 25)) #[.int .i64 0] 3
      simpa using this
    refine (face_err h2 _ c (enInt _) ?_).mono ?_
    · intro w3 k3
      exact clos_int_err (h2.kept k3 (by simp) (by simp)) hl w.heap.size (w.heap.size + 1) (blk1 (b1.kept k3 (by simp))) hr
    · rintro e w' ⟨rfl, g1, g2⟩
      exact ⟨rfl, g1, b2.kept g2 (by simp; omega), g2⟩
  have HF := hide hface
  clear hface h hl hr
  go_enter Try.func43, Try.ntmps43
  go_wp2_with fail
  refine (unhide HF).mono ?_
  rintro e w1 ⟨rfl, hrd, hq, hk⟩
  have hc := blk1 hq
  have HR := hide hrd
  clear hq hrd
  go_wp2
  go_ret
  refine ⟨rfl, unhide HR, ?_⟩
  exact ((((Kept.refl [] w).alloc _).alloc _).mono (G := [b]) (by simp)).trans hk (fun x hx => Or.inl hx)


set_option maxRecDepth 100000 in
set_option maxHeartbeats 400000 in
theorem rreal_err {w : World} {b : Nat} {lv bv : Value} {l : List Nat} (h : Rd w b lv bv l) (hn : l.length < 8) :
    Calls Try.prog 44 #[.pointer (some ⟨b, 0, none⟩)] w fun e w' => e = .returned (.float .f64 0) ∧ RdF w' b 10 ∧ Kept [b] w w' := by
  have hmf : ∀ (fn : Fn) (first cap : Array Value) (w : World), (Instr.makeFunc fn first cap).run Try.prog w = .ok (.func fn first cap) w := fun _ _ _ _ => rfl
  obtain ⟨hb, hlo⟩ := rd_lt h
  have hface : Calls Try.prog 55 #[.pointer (some ⟨b, 0, none⟩), .func (.func 72) #[] #[.pointer (some ⟨w.heap.size, 0, none⟩), .pointer (some ⟨w.heap.size + 1, 0, none⟩)]]
      ((w.alloc (.cells #[.pointer (some ⟨b, 0, none⟩)] 25)).alloc (.cells #[.float .f64 0] 66)) fun e w' => e = .returned (.tuple #[]) ∧ RdF w' b 10 ∧ Blk w' (w.heap.size + 1) #[.float .f64 0] 66 ∧ Kept [b] ((w.alloc (.cells #[.pointer (some ⟨b, 0, none⟩)] 25)).alloc (.cells #[.float .f64 0] 66)) w' := by
    have h2 := (h.alloc (.cells #[.pointer (some ⟨b, 0, none⟩)] 25)).alloc (.cells #[.float .f64 0] 66)
    have b1 : Blk ((w.alloc (.cells #[.pointer (some ⟨b, 0, none⟩)] 25)).alloc (.cells #[.float .f64 0] 66)) w.heap.size #[.pointer (some ⟨b, 0, none⟩)] 25 := (Blk.new _ _ _).alloc _
    have b2 : Blk ((w.alloc (.cells #[.pointer (some ⟨b, 0, none⟩)] 25)).alloc (.cells #[.float .f64 0] 66)) (w.heap.size + 1) #[.float .f64 0] 66 := by
      have := Blk.new (w.alloc (.cells #[.pointer (some ⟨b, 0, none⟩)] 25)) #[.float .f64 0] 66
      simpa using this
    refine (face_err h2 _ 10 (enReal _) ?_).mono ?_
    · intro w3 k3
      exact clos_real_err (h2.kept k3 (by simp) (by simp)) hn w.heap.size (w.heap.size + 1) (blk1 (b1.kept k3 (by simp)))
    · rintro e w' ⟨rfl, g1, g2⟩
      exact ⟨rfl, g1, b2.kept g2 (by simp; omega), g2⟩
  have HF := hide hface
  clear hface h hn
  go_enter Try.func44, Try.ntmps44
  go_wp2_with fail
  refine (unhide HF).mono ?_
  rintro e w1 ⟨rfl, hrd, hq, hk⟩
  have hc := blk1 hq
  have HR := hide hrd
  clear hq hrd
  go_wp2
  go_ret
  refine ⟨rfl, unhide HR, ?_⟩
  exact ((((Kept.refl [] w).alloc _).alloc _).mono (G := [b]) (by simp)).trans hk (fun x hx => Or.inl hx)


set_option maxRecDepth 100000 in
set_option maxHeartbeats 400000 in
theorem rfixed_err {w : World} {b : Nat} {lv bv : Value} {l : List Nat} (h : Rd w b lv bv l) (hl : ∀ x ∈ l, x < 256) (size : Int) (c : Nat) (hr : ((size < 1 ∨ 8 < size) ∧ c = 2) ∨ (1 ≤ size ∧ size ≤ 8 ∧ (l.length : Int) < size ∧ c = 10)) :
    Calls Try.prog 28 #[.pointer (some ⟨b, 0, none⟩), .int .i64 size] w fun e w' => e = .returned (.int .u64 0) ∧ RdF w' b c ∧ Kept [b] w w' := by
  have hmf : ∀ (fn : Fn) (first cap : Array Value) (w : World), (Instr.makeFunc fn first cap).run Try.prog w = .ok (.func fn first cap) w := fun _ _ _ _ => rfl
  obtain ⟨k0, hsz, b1, b2, b3⟩ := W3n_facts w b size
  obtain ⟨hb, hlo⟩ := rd_lt h
  have hface : Calls Try.prog 55 #[.pointer (some ⟨b, 0, none⟩), .func (.func 64) #[] #[.pointer (some ⟨w.heap.size + 1, 0, none⟩), .pointer (some ⟨w.heap.size, 0, none⟩), .pointer (some ⟨w.heap.size + 2, 0, none⟩)]] (W3n w b size)
      fun e w' => e = .returned (.tuple #[]) ∧ RdF w' b c ∧ Blk w' (w.heap.size + 2) #[.int .u64 0] 33 ∧ Kept [b] (W3n w b size) w' := by
    refine (face_err (h.kept k0 (by simp) (by simp)) _ c (enFixed _) ?_).mono ?_
    · intro w3 k3
      exact clos_fixed_err ((h.kept k0 (by simp) (by simp)).kept k3 (by simp) (by simp)) hl size _ _ _ c (blk1 (b2.kept k3 (by simp))) (blk1 (b1.kept k3 (by simp))) hr
    · rintro e w' ⟨rfl, g1, g2⟩
      exact ⟨rfl, g1, b3.kept g2 (by simp; omega), g2⟩
  have HF := hide hface
  have HK0 := hide k0
  clear hface h b1 b2 b3 k0 hsz hl hr
  unfold W3n at HF HK0
  go_enter Try.func28, Try.ntmps28
  go_wp2_with fail
  refine (unhide HF).mono ?_
  rintro e w1 ⟨rfl, hrd, hq, hk⟩
  have hc := blk1 hq
  have HR := hide hrd
  clear hq hrd
  go_wp2
  go_ret
  exact ⟨rfl, unhide HR, ((unhide HK0).mono (by simp)).trans hk (fun x hx => Or.inl hx)⟩

/-! On a reader with a fault. -/
set_option maxRecDepth 100000 in
set_option maxHeartbeats 400000 in
theorem take_fault {w : World} {b c : Nat} (h : RdF w b c) (hc : c ≠ 0) (fv : Value) :
    Calls Try.prog 55 #[.pointer (some ⟨b, 0, none⟩), fv] w fun e w' => e = .returned (.tuple #[]) ∧ Kept [] w w' := by
  have c2' : (w.alloc (.cells #[.pointer (some ⟨b, 0, none⟩)] 25)).cell? ⟨b, 2, none⟩ = some (.int .i64 c) := (blk3 (Blk.alloc h _)).2.2
  have hn : ((c : Int) != 0) = true := by rw [bne_iff_ne]; omega
  have hb := Blk.lt h
  clear h hc
  go_enter_defers Try.func55, Try.ntmps55
  go_wp2

  simp [bodyPostD, Leaves, results, Try.results55, go_sem]
  exact (Kept.refl [] w).alloc _


set_option maxRecDepth 100000 in
set_option maxHeartbeats 400000 in
theorem rbyte_fault {w : World} {b c : Nat} (h : RdF w b c) (hc : c ≠ 0) :
    Calls Try.prog 41 #[.pointer (some ⟨b, 0, none⟩)] w fun e w' => e = .returned (.int .i64 0) ∧ Kept [] w w' := by
  have hmf : ∀ (fn : Fn) (first cap : Array Value) (w : World), (Instr.makeFunc fn first cap).run Try.prog w = .ok (.func fn first cap) w := fun _ _ _ _ => rfl
  have hq : Blk ((w.alloc (.cells #[.pointer (some ⟨b, 0, none⟩)] 25)).alloc (.cells #[.int .i64 0] 3)) (w.heap.size + 1) #[.int .i64 0] 3 := by
    have := Blk.new (w.alloc (.cells #[.pointer (some ⟨b, 0, none⟩)] 25)) #[.int .i64 0] 3
    simpa using this
  have HF : Hid (∀ fv, Calls Try.prog 55 #[.pointer (some ⟨b, 0, none⟩), fv] ((w.alloc (.cells #[.pointer (some ⟨b, 0, none⟩)] 25)).alloc (.cells #[.int .i64 0] 3)) fun e w' => e = .returned (.tuple #[]) ∧ Kept [] ((w.alloc (.cells #[.pointer (some ⟨b, 0, none⟩)] 25)).alloc (.cells #[.int .i64 0] 3)) w') := hide fun fv => take_fault (show RdF _ b c from (Blk.alloc (Blk.alloc h _) _)) hc fv
  have HK : Hid (Kept [] w ((w.alloc (.cells #[.pointer (some ⟨b, 0, none⟩)] 25)).alloc (.cells #[.int .i64 0] 3))) := hide (((Kept.refl [] w).alloc _).alloc _)
  have HQ := hide hq
  clear h hc hq
  go_enter Try.func41, Try.ntmps41
  go_wp2_with fail
  refine (unhide HF _).mono ?_
  rintro e w1 ⟨rfl, hk⟩
  have hcq := blk1 ((unhide HQ).kept hk (by simp))
  have HK1 := hide hk
  clear hk
  go_wp2
  go_ret
  exact ⟨rfl, (unhide HK).trans (unhide HK1) (by simp)⟩

set_option maxRecDepth 100000 in
set_option maxHeartbeats 400000 in
theorem rnum_fault {w : World} {b c : Nat} (h : RdF w b c) (hc : c ≠ 0) :
    Calls Try.prog 39 #[.pointer (some ⟨b, 0, none⟩)] w fun e w' => e = .returned (.int .u64 0) ∧ Kept [] w w' := by
  have hmf : ∀ (fn : Fn) (first cap : Array Value) (w : World), (Instr.makeFunc fn first cap).run Try.prog w = .ok (.func fn first cap) w := fun _ _ _ _ => rfl
  have hq : Blk ((w.alloc (.cells #[.pointer (some ⟨b, 0, none⟩)] 25)).alloc (.cells #[.int .u64 0] 33)) (w.heap.size + 1) #[.int .u64 0] 33 := by
    have := Blk.new (w.alloc (.cells #[.pointer (some ⟨b, 0, none⟩)] 25)) #[.int .u64 0] 33
    simpa using this
  have HF : Hid (∀ fv, Calls Try.prog 55 #[.pointer (some ⟨b, 0, none⟩), fv] ((w.alloc (.cells #[.pointer (some ⟨b, 0, none⟩)] 25)).alloc (.cells #[.int .u64 0] 33)) fun e w' => e = .returned (.tuple #[]) ∧ Kept [] ((w.alloc (.cells #[.pointer (some ⟨b, 0, none⟩)] 25)).alloc (.cells #[.int .u64 0] 33)) w') := hide fun fv => take_fault (show RdF _ b c from (Blk.alloc (Blk.alloc h _) _)) hc fv
  have HK : Hid (Kept [] w ((w.alloc (.cells #[.pointer (some ⟨b, 0, none⟩)] 25)).alloc (.cells #[.int .u64 0] 33))) := hide (((Kept.refl [] w).alloc _).alloc _)
  have HQ := hide hq
  clear h hc hq
  go_enter Try.func39, Try.ntmps39
  go_wp2_with fail
  refine (unhide HF _).mono ?_
  rintro e w1 ⟨rfl, hk⟩
  have hcq := blk1 ((unhide HQ).kept hk (by simp))
  have HK1 := hide hk
  clear hk
  go_wp2
  go_ret
  exact ⟨rfl, (unhide HK).trans (unhide HK1) (by simp)⟩

set_option maxRecDepth 100000 in
set_option maxHeartbeats 400000 in
theorem rint_fault {w : World} {b c : Nat} (h : RdF w b c) (hc : c ≠ 0) :
    Calls Try.prog 43 #[.pointer (some ⟨b, 0, none⟩)] w fun e w' => e = .returned (.int .i64 0) ∧ Kept [] w w' := by
  have hmf : ∀ (fn : Fn) (first cap : Array Value) (w : World), (Instr.makeFunc fn first cap).run Try.prog w = .ok (.func fn first cap) w := fun _ _ _ _ => rfl
  have hq : Blk ((w.alloc (.cells #[.pointer (some ⟨b, 0, none⟩)] 25)).alloc (.cells #[.int .i64 0] 3)) (w.heap.size + 1) #[.int .i64 0] 3 := by
    have := Blk.new (w.alloc (.cells #[.pointer (some ⟨b, 0, none⟩)] 25)) #[.int .i64 0] 3
    simpa using this
  have HF : Hid (∀ fv, Calls Try.prog 55 #[.pointer (some ⟨b, 0, none⟩), fv] ((w.alloc (.cells #[.pointer (some ⟨b, 0, none⟩)] 25)).alloc (.cells #[.int .i64 0] 3)) fun e w' => e = .returned (.tuple #[]) ∧ Kept [] ((w.alloc (.cells #[.pointer (some ⟨b, 0, none⟩)] 25)).alloc (.cells #[.int .i64 0] 3)) w') := hide fun fv => take_fault (show RdF _ b c from (Blk.alloc (Blk.alloc h _) _)) hc fv
  have HK : Hid (Kept [] w ((w.alloc (.cells #[.pointer (some ⟨b, 0, none⟩)] 25)).alloc (.cells #[.int .i64 0] 3))) := hide (((Kept.refl [] w).alloc _).alloc _)
  have HQ := hide hq
  clear h hc hq
  go_enter Try.func43, Try.ntmps43
  go_wp2_with fail
  refine (unhide HF _).mono ?_
  rintro e w1 ⟨rfl, hk⟩
  have hcq := blk1 ((unhide HQ).kept hk (by simp))
  have HK1 := hide hk
  clear hk
  go_wp2
  go_ret
  exact ⟨rfl, (unhide HK).trans (unhide HK1) (by simp)⟩

set_option maxRecDepth 100000 in
set_option maxHeartbeats 400000 in
theorem rreal_fault {w : World} {b c : Nat} (h : RdF w b c) (hc : c ≠ 0) :
    Calls Try.prog 44 #[.pointer (some ⟨b, 0, none⟩)] w fun e w' => e = .returned (.float .f64 0) ∧ Kept [] w w' := by
  have hmf : ∀ (fn : Fn) (first cap : Array Value) (w : World), (Instr.makeFunc fn first cap).run Try.prog w = .ok (.func fn first cap) w := fun _ _ _ _ => rfl
  have hq : Blk ((w.alloc (.cells #[.pointer (some ⟨b, 0, none⟩)] 25)).alloc (.cells #[.float .f64 0] 66)) (w.heap.size + 1) #[.float .f64 0] 66 := by
    have := Blk.new (w.alloc (.cells #[.pointer (some ⟨b, 0, none⟩)] 25)) #[.float .f64 0] 66
    simpa using this
  have HF : Hid (∀ fv, Calls Try.prog 55 #[.pointer (some ⟨b, 0, none⟩), fv] ((w.alloc (.cells #[.pointer (some ⟨b, 0, none⟩)] 25)).alloc (.cells #[.float .f64 0] 66)) fun e w' => e = .returned (.tuple #[]) ∧ Kept [] ((w.alloc (.cells #[.pointer (some ⟨b, 0, none⟩)] 25)).alloc (.cells #[.float .f64 0] 66)) w') := hide fun fv => take_fault (show RdF _ b c from (Blk.alloc (Blk.alloc h _) _)) hc fv
  have HK : Hid (Kept [] w ((w.alloc (.cells #[.pointer (some ⟨b, 0, none⟩)] 25)).alloc (.cells #[.float .f64 0] 66))) := hide (((Kept.refl [] w).alloc _).alloc _)
  have HQ := hide hq
  clear h hc hq
  go_enter Try.func44, Try.ntmps44
  go_wp2_with fail
  refine (unhide HF _).mono ?_
  rintro e w1 ⟨rfl, hk⟩
  have hcq := blk1 ((unhide HQ).kept hk (by simp))
  have HK1 := hide hk
  clear hk
  go_wp2
  go_ret
  exact ⟨rfl, (unhide HK).trans (unhide HK1) (by simp)⟩

set_option maxRecDepth 100000 in
set_option maxHeartbeats 400000 in
theorem renter_fault {w : World} {b c : Nat} (h : RdF w b c) (hc : c ≠ 0) :
    Calls Try.prog 21 #[.pointer (some ⟨b, 0, none⟩)] w fun e w' => e = .returned (.int .i64 0) ∧ Kept [] w w' := by
  have hmf : ∀ (fn : Fn) (first cap : Array Value) (w : World), (Instr.makeFunc fn first cap).run Try.prog w = .ok (.func fn first cap) w := fun _ _ _ _ => rfl
  have hq : Blk ((w.alloc (.cells #[.pointer (some ⟨b, 0, none⟩)] 25)).alloc (.cells #[.int .i64 0] 3)) (w.heap.size + 1) #[.int .i64 0] 3 := by
    have := Blk.new (w.alloc (.cells #[.pointer (some ⟨b, 0, none⟩)] 25)) #[.int .i64 0] 3
    simpa using this
  have HF : Hid (∀ fv, Calls Try.prog 55 #[.pointer (some ⟨b, 0, none⟩), fv] ((w.alloc (.cells #[.pointer (some ⟨b, 0, none⟩)] 25)).alloc (.cells #[.int .i64 0] 3)) fun e w' => e = .returned (.tuple #[]) ∧ Kept [] ((w.alloc (.cells #[.pointer (some ⟨b, 0, none⟩)] 25)).alloc (.cells #[.int .i64 0] 3)) w') := hide fun fv => take_fault (show RdF _ b c from (Blk.alloc (Blk.alloc h _) _)) hc fv
  have HK : Hid (Kept [] w ((w.alloc (.cells #[.pointer (some ⟨b, 0, none⟩)] 25)).alloc (.cells #[.int .i64 0] 3))) := hide (((Kept.refl [] w).alloc _).alloc _)
  have HQ := hide hq
  clear h hc hq
  go_enter Try.func21, Try.ntmps21
  go_wp2_with fail
  refine (unhide HF _).mono ?_
  rintro e w1 ⟨rfl, hk⟩
  have hcq := blk1 ((unhide HQ).kept hk (by simp))
  have HK1 := hide hk
  clear hk
  go_wp2
  go_ret
  exact ⟨rfl, (unhide HK).trans (unhide HK1) (by simp)⟩

set_option maxRecDepth 100000 in
set_option maxHeartbeats 400000 in
theorem rfixed_fault {w : World} {b c : Nat} (h : RdF w b c) (hc : c ≠ 0) (n : Int) :
    Calls Try.prog 28 #[.pointer (some ⟨b, 0, none⟩), .int .i64 n] w fun e w' => e = .returned (.int .u64 0) ∧ Kept [] w w' := by
  have hmf : ∀ (fn : Fn) (first cap : Array Value) (w : World), (Instr.makeFunc fn first cap).run Try.prog w = .ok (.func fn first cap) w := fun _ _ _ _ => rfl
  have hq : Blk (((w.alloc (.cells #[.pointer (some ⟨b, 0, none⟩)] 25)).alloc (.cells #[.int .i64 n] 3)).alloc (.cells #[.int .u64 0] 33)) (w.heap.size + 2) #[.int .u64 0] 33 := by
    have := Blk.new ((w.alloc (.cells #[.pointer (some ⟨b, 0, none⟩)] 25)).alloc (.cells #[.int .i64 n] 3)) #[.int .u64 0] 33
    simpa using this
  have HF : Hid (∀ fv, Calls Try.prog 55 #[.pointer (some ⟨b, 0, none⟩), fv] (((w.alloc (.cells #[.pointer (some ⟨b, 0, none⟩)] 25)).alloc (.cells #[.int .i64 n] 3)).alloc (.cells #[.int .u64 0] 33)) fun e w' => e = .returned (.tuple #[]) ∧ Kept [] (((w.alloc (.cells #[.pointer (some ⟨b, 0, none⟩)] 25)).alloc (.cells #[.int .i64 n] 3)).alloc (.cells #[.int .u64 0] 33)) w') := hide fun fv => take_fault (show RdF _ b c from (Blk.alloc (Blk.alloc (Blk.alloc h _) _) _)) hc fv
  have HK : Hid (Kept [] w (((w.alloc (.cells #[.pointer (some ⟨b, 0, none⟩)] 25)).alloc (.cells #[.int .i64 n] 3)).alloc (.cells #[.int .u64 0] 33))) := hide ((((Kept.refl [] w).alloc _).alloc _).alloc _)
  have HQ := hide hq
  clear h hc hq
  go_enter Try.func28, Try.ntmps28
  go_wp2_with fail
  refine (unhide HF _).mono ?_
  rintro e w1 ⟨rfl, hk⟩
  have hcq := blk1 ((unhide HQ).kept hk (by simp))
  have HK1 := hide hk
  clear hk
  go_wp2
  go_ret
  exact ⟨rfl, (unhide HK).trans (unhide HK1) (by simp)⟩

set_option maxRecDepth 100000 in
set_option maxHeartbeats 400000 in
theorem rraw_fault {w : World} {b c : Nat} (h : RdF w b c) (hc : c ≠ 0) (n : Int) :
    Calls Try.prog 23 #[.pointer (some ⟨b, 0, none⟩), .int .i64 n] w fun e w' => e = .returned (.slice none 0 0) ∧ Kept [] w w' := by
  have hmf : ∀ (fn : Fn) (first cap : Array Value) (w : World), (Instr.makeFunc fn first cap).run Try.prog w = .ok (.func fn first cap) w := fun _ _ _ _ => rfl
  have hq : Blk (((w.alloc (.cells #[.pointer (some ⟨b, 0, none⟩)] 25)).alloc (.cells #[.int .i64 n] 3)).alloc (.cells #[.slice none 0 0] 22)) (w.heap.size + 2) #[.slice none 0 0] 22 := by
    have := Blk.new ((w.alloc (.cells #[.pointer (some ⟨b, 0, none⟩)] 25)).alloc (.cells #[.int .i64 n] 3)) #[.slice none 0 0] 22
    simpa using this
  have HF : Hid (∀ fv, Calls Try.prog 55 #[.pointer (some ⟨b, 0, none⟩), fv] (((w.alloc (.cells #[.pointer (some ⟨b, 0, none⟩)] 25)).alloc (.cells #[.int .i64 n] 3)).alloc (.cells #[.slice none 0 0] 22)) fun e w' => e = .returned (.tuple #[]) ∧ Kept [] (((w.alloc (.cells #[.pointer (some ⟨b, 0, none⟩)] 25)).alloc (.cells #[.int .i64 n] 3)).alloc (.cells #[.slice none 0 0] 22)) w') := hide fun fv => take_fault (show RdF _ b c from (Blk.alloc (Blk.alloc (Blk.alloc h _) _) _)) hc fv
  have HK : Hid (Kept [] w (((w.alloc (.cells #[.pointer (some ⟨b, 0, none⟩)] 25)).alloc (.cells #[.int .i64 n] 3)).alloc (.cells #[.slice none 0 0] 22))) := hide ((((Kept.refl [] w).alloc _).alloc _).alloc _)
  have HQ := hide hq
  clear h hc hq
  go_enter Try.func23, Try.ntmps23
  go_wp2_with fail
  refine (unhide HF _).mono ?_
  rintro e w1 ⟨rfl, hk⟩
  have hcq := blk1 ((unhide HQ).kept hk (by simp))
  have HK1 := hide hk
  clear hk
  go_wp2
  go_ret
  exact ⟨rfl, (unhide HK).trans (unhide HK1) (by simp)⟩

set_option maxRecDepth 100000 in
set_option maxHeartbeats 400000 in
theorem rtext_fault {w : World} {b c : Nat} (h : RdF w b c) (hc : c ≠ 0) (n : Int) :
    Calls Try.prog 36 #[.pointer (some ⟨b, 0, none⟩), .int .i64 n] w fun e w' => e = .returned (.slice none 0 0) ∧ Kept [] w w' := by
  have hmf : ∀ (fn : Fn) (first cap : Array Value) (w : World), (Instr.makeFunc fn first cap).run Try.prog w = .ok (.func fn first cap) w := fun _ _ _ _ => rfl
  have hq : Blk (((w.alloc (.cells #[.pointer (some ⟨b, 0, none⟩)] 25)).alloc (.cells #[.int .i64 n] 3)).alloc (.cells #[.slice none 0 0] 22)) (w.heap.size + 2) #[.slice none 0 0] 22 := by
    have := Blk.new ((w.alloc (.cells #[.pointer (some ⟨b, 0, none⟩)] 25)).alloc (.cells #[.int .i64 n] 3)) #[.slice none 0 0] 22
    simpa using this
  have HF : Hid (∀ fv, Calls Try.prog 55 #[.pointer (some ⟨b, 0, none⟩), fv] (((w.alloc (.cells #[.pointer (some ⟨b, 0, none⟩)] 25)).alloc (.cells #[.int .i64 n] 3)).alloc (.cells #[.slice none 0 0] 22)) fun e w' => e = .returned (.tuple #[]) ∧ Kept [] (((w.alloc (.cells #[.pointer (some ⟨b, 0, none⟩)] 25)).alloc (.cells #[.int .i64 n] 3)).alloc (.cells #[.slice none 0 0] 22)) w') := hide fun fv => take_fault (show RdF _ b c from (Blk.alloc (Blk.alloc (Blk.alloc h _) _) _)) hc fv
  have HK : Hid (Kept [] w (((w.alloc (.cells #[.pointer (some ⟨b, 0, none⟩)] 25)).alloc (.cells #[.int .i64 n] 3)).alloc (.cells #[.slice none 0 0] 22))) := hide ((((Kept.refl [] w).alloc _).alloc _).alloc _)
  have HQ := hide hq
  clear h hc hq
  go_enter Try.func36, Try.ntmps36
  go_wp2_with fail
  refine (unhide HF _).mono ?_
  rintro e w1 ⟨rfl, hk⟩
  have hcq := blk1 ((unhide HQ).kept hk (by simp))
  have HK1 := hide hk
  clear hk
  go_wp2
  go_ret
  exact ⟨rfl, (unhide HK).trans (unhide HK1) (by simp)⟩

set_option maxRecDepth 100000 in
set_option maxHeartbeats 400000 in
theorem rleave_fault {w : World} {b c : Nat} (h : RdF w b c) (hc : c ≠ 0) :
    Calls Try.prog 22 #[.pointer (some ⟨b, 0, none⟩)] w fun e w' => e = .returned (.tuple #[]) ∧ Kept [] w w' := by
  have HF := hide (fun fv => take_fault (Blk.alloc h (.cells #[.pointer (some ⟨b, 0, none⟩)] 25)) hc fv)
  have HH := hide h
  clear h hc
  go_enter Try.func22, Try.ntmps22
  go_wp2_with fail
  refine (unhide HF _).mono ?_
  rintro e w1 ⟨rfl, hk⟩
  go_wp2
  go_end0
  exact ⟨rfl, ((Kept.refl [] w).alloc _).trans hk (by simp)⟩
end Go.Proofs.Ytiabhgkndejigab
