/- The reader's Real: its face. -/
import Derived.Test.YtiabhgkndejigabRreal
import Derived.Test.YtiabhgkndejigabRbyte
namespace Go.Proofs.Ytiabhgkndejigab
open Go.RowKit

theorem of8_lt (x0 x1 x2 x3 x4 x5 x6 x7 : Nat) (h : ∀ x ∈ [x0, x1, x2, x3, x4, x5, x6, x7], x < 256) : of8 [x0, x1, x2, x3, x4, x5, x6, x7] < 18446744073709551616 := by
  simp only [List.forall_mem_cons, List.not_mem_nil, false_implies, implies_true, and_true] at h
  unfold of8; simp only [List.foldl]; omega

theorem at93 (a : Addr) (c : Nat) (w : World) : (Instr.arrayAt 84 (.slice (some a) 8 c)).run Try.prog w = .ok (.pointer (some a)) w := by kernel_rfl

set_option maxRecDepth 100000 in
set_option maxHeartbeats 1000000 in
theorem clos_real_ok {w : World} {b : Nat} {lv bv : Value} {x0 x1 x2 x3 x4 x5 x6 x7 : Nat} {rest : List Nat} (h : Rd w b lv bv (x0 :: x1 :: x2 :: x3 :: x4 :: x5 :: x6 :: x7 :: rest)) (hx : ∀ x ∈ [x0, x1, x2, x3, x4, x5, x6, x7], x < 256) (p q : Nat) (z : Value)
    (hp : w.cell? ⟨p, 0, none⟩ = some (.pointer (some ⟨b, 0, none⟩))) (hq : Blk w q #[z] 66) (hqb : q ≠ b) (hql : lv.ownBlock ≠ some q) (n : Nat) (hn : of8 [x0, x1, x2, x3, x4, x5, x6, x7] = n) (hnan : nanB n = false ∨ (nanB n = true ∧ n = oneNaN)) :
    Calls Try.prog 72 #[.pointer (some ⟨p, 0, none⟩), .pointer (some ⟨q, 0, none⟩)] w fun e w' => e = .returned (.tuple #[]) ∧ Taken b q lv bv rest (.float .f64 n) 66 w w' := by
  have HC := hide (cut_ok h 8 (by simp))
  have hn64 : n < 18446744073709551616 := by rw [← hn]; exact of8_lt _ _ _ _ _ _ _ _ hx
  have HQ := hide hq
  have HB := hide (bitsOf_any x0 x1 x2 x3 x4 x5 x6 x7 hx)
  rw [hn] at HB
  have HX := hide hx
  have h29 := fb29
  have hat := at93
  have hsf := fun (w : World) (a : Addr) (m : Nat) (md : Mode) => run_store Try.prog w a (.float .f64 m) md rfl
  clear h hq hx hn
  go_enter Try.func72, Try.ntmps72
  go_wp2_with fail
  refine (unhide HC).mono ?_
  rintro e w1 ⟨a, cap, rfl, hs, ho, lv', hrd, ho', hk⟩
  have hs' : Sees w1 (.slice a 8 cap) [x0, x1, x2, x3, x4, x5, x6, x7] := hs
  obtain ⟨bk, off, ha, k0⟩ := hs'.at 0 (by simp)
  subst ha
  have kf : ∀ j, j < 8 → w1.cell? ⟨bk, off + j, none⟩ = some (.int .u8 ([x0, x1, x2, x3, x4, x5, x6, x7].getD j 0 : Nat)) := by
    intro j hj
    obtain ⟨bk', off', ha, kj⟩ := hs'.at j (by simp; omega)
    cases ha
    exact kj
  have k0 : w1.cell? ⟨bk, off, none⟩ = some (.int .u8 x0) := kf 0 (by omega)
  have k1 : w1.cell? ⟨bk, off + 1, none⟩ = some (.int .u8 x1) := kf 1 (by omega)
  have k2 : w1.cell? ⟨bk, off + 2, none⟩ = some (.int .u8 x2) := kf 2 (by omega)
  have k3 : w1.cell? ⟨bk, off + 3, none⟩ = some (.int .u8 x3) := kf 3 (by omega)
  have k4 : w1.cell? ⟨bk, off + 4, none⟩ = some (.int .u8 x4) := kf 4 (by omega)
  have k5 : w1.cell? ⟨bk, off + 5, none⟩ = some (.int .u8 x5) := kf 5 (by omega)
  have k6 : w1.cell? ⟨bk, off + 6, none⟩ = some (.int .u8 x6) := kf 6 (by omega)
  have k7 : w1.cell? ⟨bk, off + 7, none⟩ = some (.int .u8 x7) := kf 7 (by omega)
  have HRD := hide hrd
  have HO' := hide ho'
  have HK := hide hk
  clear kf hs hs' ho hrd ho' hk
  rcases hnan with hnan | ⟨hnan, h1⟩
  · go_wp2_with (first | (go_at_call 73; refine (unhide HB _).mono ?_; rintro e w2 ⟨rfl, hk2⟩; have hq2 := ((unhide HQ).kept (unhide HK) (by simpa using hqb)).kept hk2 (by simp); have hc2 := blk1 hq2; have hf2 := hq2.frozen 0; have HQ2 := hide hq2; have HK2 := hide hk2; clear hq2 hk2) | (go_at_call 74; refine (isnan_any n false hnan _).mono ?_; rintro e w' ⟨rfl, rfl⟩) | (go_at_call 57; refine (refuse_no _ _).mono ?_; rintro e w'' ⟨rfl, rfl⟩))
    go_end0
    refine ⟨rfl, ⟨lv', ((unhide HRD).kept (unhide HK2) (by simp) (by simp)).kept ((Kept.refl [q] _).setCell (Or.inl (by simp)) _) (by simp; exact fun e => hqb e.symm) (fun x hx => by simp; intro e; subst e; exact hql (by rw [← unhide HO']; exact hx)), unhide HO'⟩, ?_, ?_⟩
    · simpa using (unhide HQ2).set 0 _
    · exact (((unhide HK).trans (unhide HK2) (by simp)).mono (fun x hx => Or.inl (by simp at hx; simp [hx]))).setCell (Or.inl (by simp)) _
  · have g1 : ((n : Int) != 9221120237041090560) = false := by rw [bne_eq_false_iff_eq, h1]; rfl
    clear h1
    go_wp2_with (first | (go_at_call 73; refine (unhide HB _).mono ?_; rintro e w2 ⟨rfl, hk2⟩; have hq2 := ((unhide HQ).kept (unhide HK) (by simpa using hqb)).kept hk2 (by simp); have hc2 := blk1 hq2; have hf2 := hq2.frozen 0; have HQ2 := hide hq2; have HK2 := hide hk2; clear hq2 hk2) | (go_at_call 74; refine (isnan_any n true hnan _).mono ?_; rintro e w' ⟨rfl, rfl⟩) | (go_at_call 57; refine (refuse_no _ _).mono ?_; rintro e w'' ⟨rfl, rfl⟩))
    go_end0
    refine ⟨rfl, ⟨lv', ((unhide HRD).kept (unhide HK2) (by simp) (by simp)).kept ((Kept.refl [q] _).setCell (Or.inl (by simp)) _) (by simp; exact fun e => hqb e.symm) (fun x hx => by simp; intro e; subst e; exact hql (by rw [← unhide HO']; exact hx)), unhide HO'⟩, ?_, ?_⟩
    · simpa using (unhide HQ2).set 0 _
    · exact (((unhide HK).trans (unhide HK2) (by simp)).mono (fun x hx => Or.inl (by simp at hx; simp [hx]))).setCell (Or.inl (by simp)) _

set_option maxRecDepth 100000 in
set_option maxHeartbeats 1000000 in
theorem clos_real_odd {w : World} {b : Nat} {lv bv : Value} {x0 x1 x2 x3 x4 x5 x6 x7 : Nat} {rest : List Nat} (h : Rd w b lv bv (x0 :: x1 :: x2 :: x3 :: x4 :: x5 :: x6 :: x7 :: rest)) (hx : ∀ x ∈ [x0, x1, x2, x3, x4, x5, x6, x7], x < 256) (p q : Nat)
    (hp : w.cell? ⟨p, 0, none⟩ = some (.pointer (some ⟨b, 0, none⟩))) (n : Nat) (hn : of8 [x0, x1, x2, x3, x4, x5, x6, x7] = n) (hnan : nanB n = true) (hne : n ≠ oneNaN) :
    Calls Try.prog 72 #[.pointer (some ⟨p, 0, none⟩), .pointer (some ⟨q, 0, none⟩)] w fun e w' => Faulty e 11 ∧ (∃ lv' l', Rd w' b lv' bv l') ∧ Kept [b] w w' := by
  have HC := hide (cut_ok h 8 (by simp))
  have hn64 : n < 18446744073709551616 := by rw [← hn]; exact of8_lt _ _ _ _ _ _ _ _ hx
  have HB := hide (bitsOf_any x0 x1 x2 x3 x4 x5 x6 x7 hx)
  rw [hn] at HB
  have g1 : ((n : Int) != 9221120237041090560) = true := by
    rw [bne_iff_ne]; intro e; apply hne; unfold oneNaN; omega
  have h29 := fb29
  have hat := at93
  clear h hx hn hne
  go_enter Try.func72, Try.ntmps72
  go_wp2_with fail
  refine (unhide HC).mono ?_
  rintro e w1 ⟨a, cap, rfl, hs, ho, lv', hrd, ho', hk⟩
  have hs' : Sees w1 (.slice a 8 cap) [x0, x1, x2, x3, x4, x5, x6, x7] := hs
  obtain ⟨bk, off, ha, k0⟩ := hs'.at 0 (by simp)
  subst ha
  have kf : ∀ j, j < 8 → w1.cell? ⟨bk, off + j, none⟩ = some (.int .u8 ([x0, x1, x2, x3, x4, x5, x6, x7].getD j 0 : Nat)) := by
    intro j hj
    obtain ⟨bk', off', ha, kj⟩ := hs'.at j (by simp; omega)
    cases ha
    exact kj
  have k0 : w1.cell? ⟨bk, off, none⟩ = some (.int .u8 x0) := kf 0 (by omega)
  have k1 : w1.cell? ⟨bk, off + 1, none⟩ = some (.int .u8 x1) := kf 1 (by omega)
  have k2 : w1.cell? ⟨bk, off + 2, none⟩ = some (.int .u8 x2) := kf 2 (by omega)
  have k3 : w1.cell? ⟨bk, off + 3, none⟩ = some (.int .u8 x3) := kf 3 (by omega)
  have k4 : w1.cell? ⟨bk, off + 4, none⟩ = some (.int .u8 x4) := kf 4 (by omega)
  have k5 : w1.cell? ⟨bk, off + 5, none⟩ = some (.int .u8 x5) := kf 5 (by omega)
  have k6 : w1.cell? ⟨bk, off + 6, none⟩ = some (.int .u8 x6) := kf 6 (by omega)
  have k7 : w1.cell? ⟨bk, off + 7, none⟩ = some (.int .u8 x7) := kf 7 (by omega)
  have HRD := hide hrd
  have HK := hide hk
  clear kf hs hs' ho hrd ho' hk
  go_wp2_with (first | (go_at_call 73; refine (unhide HB _).mono ?_; rintro e w2 ⟨rfl, hk2⟩) | (go_at_call 74; refine (isnan_any n true hnan _).mono ?_; rintro e w' ⟨rfl, rfl⟩) | (go_at_call 57; refine (refuse_yes _ _).mono ?_; rintro e w'' ⟨rfl, rfl⟩))
  exact ⟨rfl, ⟨37, _, rfl, Or.inr ⟨rfl, rfl⟩⟩, ⟨lv', rest, (unhide HRD).kept hk2 (by simp) (by simp)⟩, (unhide HK).trans hk2 (by simp)⟩

theorem en85 (a : Array Value) (w : World) : (callFunc 72 a).run Try.prog w = .ok (.enter 72 a) w := by kernel_rfl

set_option maxRecDepth 100000 in
set_option maxHeartbeats 400000 in
theorem rreal_ok {w : World} {b : Nat} {lv bv : Value} {x0 x1 x2 x3 x4 x5 x6 x7 : Nat} {rest : List Nat} (h : Rd w b lv bv (x0 :: x1 :: x2 :: x3 :: x4 :: x5 :: x6 :: x7 :: rest)) (hx : ∀ x ∈ [x0, x1, x2, x3, x4, x5, x6, x7], x < 256) (n : Nat) (hn : of8 [x0, x1, x2, x3, x4, x5, x6, x7] = n) (hnan : nanB n = false ∨ (nanB n = true ∧ n = oneNaN)) :
    Calls Try.prog 44 #[.pointer (some ⟨b, 0, none⟩)] w fun e w' => e = .returned (.float .f64 n) ∧ (∃ lv', Rd w' b lv' bv rest ∧ lv'.ownBlock = lv.ownBlock) ∧ Kept [b] w w' := by
  have hmf : ∀ (fn : Fn) (first cap : Array Value) (w : World), (Instr.makeFunc fn first cap).run Try.prog w = .ok (.func fn first cap) w := fun _ _ _ _ => rfl
  have hface : Calls Try.prog 55 #[.pointer (some ⟨b, 0, none⟩), .func (.func 72) #[] #[.pointer (some ⟨w.heap.size, 0, none⟩), .pointer (some ⟨w.heap.size + 1, 0, none⟩)]]
      ((w.alloc (.cells #[.pointer (some ⟨b, 0, none⟩)] 25)).alloc (.cells #[.float .f64 0] 66)) fun e w' => e = .returned (.tuple #[]) ∧ Taken b (w.heap.size + 1) lv bv rest (.float .f64 n) 66 ((w.alloc (.cells #[.pointer (some ⟨b, 0, none⟩)] 25)).alloc (.cells #[.float .f64 0] 66)) w' := by
    have h2 := (h.alloc (.cells #[.pointer (some ⟨b, 0, none⟩)] 25)).alloc (.cells #[.float .f64 0] 66)
    obtain ⟨hb, hlo⟩ := rd_lt h
    have b1 : Blk ((w.alloc (.cells #[.pointer (some ⟨b, 0, none⟩)] 25)).alloc (.cells #[.float .f64 0] 66)) w.heap.size #[.pointer (some ⟨b, 0, none⟩)] 25 := (Blk.new _ _ _).alloc _
    have b2 : Blk ((w.alloc (.cells #[.pointer (some ⟨b, 0, none⟩)] 25)).alloc (.cells #[.float .f64 0] 66)) (w.heap.size + 1) #[.float .f64 0] 66 := by
      have := Blk.new (w.alloc (.cells #[.pointer (some ⟨b, 0, none⟩)] 25)) #[.float .f64 0] 66
      simpa using this
    refine face_ok h2 _ (en85 _) (Taken b (w.heap.size + 1) lv bv rest (.float .f64 n) 66) (fun _ _ => Taken.mono) ?_
    intro w3 k3
    exact clos_real_ok (h2.kept k3 (by simp) (by simp)) hx w.heap.size (w.heap.size + 1) _ (blk1 (b1.kept k3 (by simp))) (b2.kept k3 (by simp)) (by omega) (fun e => by have := hlo _ e; omega) n hn hnan
  have HF := hide hface
  clear hface h hnan hn hx
  go_enter Try.func44, Try.ntmps44
  go_wp2_with fail
  refine (unhide HF).mono ?_
  rintro e w1 ⟨rfl, hrd, hq, hk⟩
  have hc := blk1 hq
  clear hq
  go_wp2
  go_ret
  refine ⟨rfl, hrd, ?_⟩
  exact ((((Kept.refl [] w).alloc _).alloc _).mono (G := [b]) (by simp)).trans hk (fun x hx => by simp at hx; rcases hx with rfl | rfl; simp; right; omega)

set_option maxRecDepth 100000 in
set_option maxHeartbeats 400000 in
theorem rreal_odd {w : World} {b : Nat} {lv bv : Value} {x0 x1 x2 x3 x4 x5 x6 x7 : Nat} {rest : List Nat} (h : Rd w b lv bv (x0 :: x1 :: x2 :: x3 :: x4 :: x5 :: x6 :: x7 :: rest)) (hx : ∀ x ∈ [x0, x1, x2, x3, x4, x5, x6, x7], x < 256) (n : Nat) (hn : of8 [x0, x1, x2, x3, x4, x5, x6, x7] = n) (hnan : nanB n = true) (hne : n ≠ oneNaN) :
    Calls Try.prog 44 #[.pointer (some ⟨b, 0, none⟩)] w fun e w' => e = .returned (.float .f64 0) ∧ RdF w' b 11 ∧ Kept [b] w w' := by
  have hmf : ∀ (fn : Fn) (first cap : Array Value) (w : World), (Instr.makeFunc fn first cap).run Try.prog w = .ok (.func fn first cap) w := fun _ _ _ _ => rfl
  obtain ⟨hb, hlo⟩ := rd_lt h
  have hface : Calls Try.prog 55 #[.pointer (some ⟨b, 0, none⟩), .func (.func 72) #[] #[.pointer (some ⟨w.heap.size, 0, none⟩), .pointer (some ⟨w.heap.size + 1, 0, none⟩)]]
      ((w.alloc (.cells #[.pointer (some ⟨b, 0, none⟩)] 25)).alloc (.cells #[.float .f64 0] 66)) fun e w' => e = .returned (.tuple #[]) ∧ RdF w' b 11 ∧ Blk w' (w.heap.size + 1) #[.float .f64 0] 66 ∧ Kept [b] ((w.alloc (.cells #[.pointer (some ⟨b, 0, none⟩)] 25)).alloc (.cells #[.float .f64 0] 66)) w' := by
    have h2 := (h.alloc (.cells #[.pointer (some ⟨b, 0, none⟩)] 25)).alloc (.cells #[.float .f64 0] 66)
    have b1 : Blk ((w.alloc (.cells #[.pointer (some ⟨b, 0, none⟩)] 25)).alloc (.cells #[.float .f64 0] 66)) w.heap.size #[.pointer (some ⟨b, 0, none⟩)] 25 := (Blk.new _ _ _).alloc _
    have b2 : Blk ((w.alloc (.cells #[.pointer (some ⟨b, 0, none⟩)] 25)).alloc (.cells #[.float .f64 0] 66)) (w.heap.size + 1) #[.float .f64 0] 66 := by
      have := Blk.new (w.alloc (.cells #[.pointer (some ⟨b, 0, none⟩)] 25)) #[.float .f64 0] 66
      simpa using this
    refine (face_err h2 _ 11 (en85 _) ?_).mono ?_
    · intro w3 k3
      exact clos_real_odd (h2.kept k3 (by simp) (by simp)) hx w.heap.size (w.heap.size + 1) (blk1 (b1.kept k3 (by simp))) n hn hnan hne
    · rintro e w' ⟨rfl, g1, g2⟩
      exact ⟨rfl, g1, b2.kept g2 (by simp; omega), g2⟩
  have HF := hide hface
  clear hface h hnan hn hx hne
  go_enter Try.func44, Try.ntmps44
  go_wp2_with fail
  refine (unhide HF).mono ?_
  rintro e w1 ⟨rfl, hrd, hq, hk⟩
  have hc := blk1 hq
  have HR := hide hrd
  clear hq hrd
  go_wp2
  go_ret
  refine ⟨rfl, unhide HR, ?_⟩
  exact ((((Kept.refl [] w).alloc _).alloc _).mono (G := [b]) (by simp)).trans hk (fun x hx => Or.inl hx)
end Go.Proofs.Ytiabhgkndejigab
