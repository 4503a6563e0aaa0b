/- The reader's Enter and Leave, faces and all. -/
import Derived.Test.YtiabhgkndejigabEnterB
import Derived.Test.YtiabhgkndejigabEnterE
import Derived.Test.YtiabhgkndejigabLeave
namespace Go.Proofs.Ytiabhgkndejigab
open Go.RowKit

theorem Entered.mono {b q n : Nat} {bv : Value} {r : List Nat} {behind : List (List Nat)} {D : Option Nat} {W w3 w' : World} (k : Kept [] W w3) (h : Entered b q bv r behind D n w3 w') : Entered b q bv r behind D n W w' := by
  obtain ⟨⟨lv', bv', hs', g1, g2⟩, g3, g4⟩ := h
  have := k.size
  refine ⟨⟨lv', bv', hs', g1, ?_⟩, g3, (k.mono (by simp)).trans g4 (fun x hx => Or.inl hx)⟩
  rcases g2 with g2 | g2
  · exact Or.inl g2
  · exact Or.inr fun x hx => by have := g2 x hx; omega

theorem Rf.lts {w : World} {b : Nat} {lv bv : Value} {hs : List Value} {l : List Nat} {behind : List (List Nat)} {D : Option Nat} (h : Rf w b lv bv hs l behind D) : ∀ x ∈ D.toList ++ rfoot b bv, x < w.heap.size := by
  intro x hx
  simp only [rfoot, List.mem_append, List.mem_cons, Option.mem_toList] at hx
  rcases hx with hx | rfl | hx
  · exact h.dlt x hx
  · exact h.rd.blk.lt
  · exact (h.own.lt x hx).2

set_option maxRecDepth 100000 in
set_option maxHeartbeats 400000 in
theorem renter_ok {w : World} {b : Nat} {lv bv : Value} {hs : List Value} {l r : List Nat} {behind : List (List Nat)} {D : Option Nat} (h : Rf w b lv bv hs l behind D) (hl : ∀ x ∈ l, x < 256) (h16 : behind.length < 16) (n : Nat) (hr : readNum 0 0 l = .inr (n, r)) (hn : n ≤ r.length) (hrl : r.length ≤ 140737488355328) :
    Calls Try.prog 21 #[.pointer (some ⟨b, 0, none⟩)] w fun e w' => e = .returned (.int .i64 (n : Nat)) ∧ (∃ lv' bv' hs', Rf w' b lv' bv' hs' (r.take n) (behind ++ [r.drop n]) D ∧ (bv'.ownBlock = bv.ownBlock ∨ ∀ x, bv'.ownBlock = some x → w.heap.size ≤ x)) ∧ Kept (rfoot b bv) w w' := by
  have hmf : ∀ (fn : Fn) (first cap : Array Value) (w : World), (Instr.makeFunc fn first cap).run Try.prog w = .ok (.func fn first cap) w := fun _ _ _ _ => rfl
  have hlts := h.lts
  have k0 : Kept [] w ((w.alloc (.cells #[.pointer (some ⟨b, 0, none⟩)] 25)).alloc (.cells #[.int .i64 0] 3)) := ((Kept.refl [] w).alloc _).alloc _
  have hface : Calls Try.prog 55 #[.pointer (some ⟨b, 0, none⟩), .func (.func 56) #[] #[.pointer (some ⟨w.heap.size, 0, none⟩), .pointer (some ⟨w.heap.size + 1, 0, none⟩)]]
      ((w.alloc (.cells #[.pointer (some ⟨b, 0, none⟩)] 25)).alloc (.cells #[.int .i64 0] 3)) fun e w' => e = .returned (.tuple #[]) ∧ Entered b (w.heap.size + 1) bv r behind D n ((w.alloc (.cells #[.pointer (some ⟨b, 0, none⟩)] 25)).alloc (.cells #[.int .i64 0] 3)) w' := by
    have h2 := h.kept k0 (by simp)
    have b1 : Blk ((w.alloc (.cells #[.pointer (some ⟨b, 0, none⟩)] 25)).alloc (.cells #[.int .i64 0] 3)) w.heap.size #[.pointer (some ⟨b, 0, none⟩)] 25 := (Blk.new _ _ _).alloc _
    have b2 : Blk ((w.alloc (.cells #[.pointer (some ⟨b, 0, none⟩)] 25)).alloc (.cells #[.int .i64 0] 3)) (w.heap.size + 1) #[.int .i64 0] 3 := by
      have := Blk.new (w.alloc (.cells #[.pointer (some ⟨b, 0, none⟩)] 25)) #[.int .i64 0] 3
      simpa using this
    refine face_ok h2.rd _ (en115 _) (Entered b (w.heap.size + 1) bv r behind D n) (fun _ _ => Entered.mono) ?_
    intro w3 k3
    refine clos_enter_ok (h2.kept k3 (by simp)) hl w.heap.size (w.heap.size + 1) _ (blk1 (b1.kept k3 (by simp))) ?_ ?_ (b2.kept k3 (by simp)) ?_ h16 n hr hn hrl
    · intro e; have := hlts b (by simp [rfoot]); omega
    · intro e; have := hlts w.heap.size (by simp [rfoot, e]); omega
    · intro e; have := hlts _ e; omega
  have HF := hide hface
  have HK := hide k0
  clear hface h hl hr k0
  go_enter Try.func21, Try.ntmps21
  go_wp2_with fail
  refine (unhide HF).mono ?_
  rintro e w1 ⟨rfl, hrd, hq, hk⟩
  have hc := blk1 hq
  clear hq
  go_wp2
  go_ret
  obtain ⟨lv', bv', hs', g1, g2⟩ := hrd
  refine ⟨rfl, ⟨lv', bv', hs', g1, ?_⟩, ?_⟩
  · rcases g2 with g2 | g2
    · exact Or.inl g2
    · exact Or.inr fun x hx => by have := g2 x hx; simp at this; omega
  · exact ((unhide HK).mono (by simp)).trans hk (fun x hx => by
      simp only [List.mem_cons] at hx
      rcases hx with e | hx
      · right; omega
      · exact Or.inl hx)

set_option maxRecDepth 100000 in
set_option maxHeartbeats 400000 in
theorem renter_err {w : World} {b : Nat} {lv bv : Value} {hs : List Value} {l : List Nat} {behind : List (List Nat)} {D : Option Nat} (h : Rf w b lv bv hs l behind D) (hl : ∀ x ∈ l, x < 256) (c : Nat)
    (hr : (behind.length = 16 ∧ c = 11) ∨ (behind.length < 16 ∧ (readNum 0 0 l = .inl c ∨ ∃ n r, readNum 0 0 l = .inr (n, r) ∧ r.length < n ∧ c = 10))) :
    Calls Try.prog 21 #[.pointer (some ⟨b, 0, none⟩)] w fun e w' => e = .returned (.int .i64 0) ∧ RdF w' b c ∧ Kept [b] w w' := by
  have hmf : ∀ (fn : Fn) (first cap : Array Value) (w : World), (Instr.makeFunc fn first cap).run Try.prog w = .ok (.func fn first cap) w := fun _ _ _ _ => rfl
  have hlts := h.lts
  have hbl := h.rd.blk.lt
  have k0 : Kept [] w ((w.alloc (.cells #[.pointer (some ⟨b, 0, none⟩)] 25)).alloc (.cells #[.int .i64 0] 3)) := ((Kept.refl [] w).alloc _).alloc _
  have hface : Calls Try.prog 55 #[.pointer (some ⟨b, 0, none⟩), .func (.func 56) #[] #[.pointer (some ⟨w.heap.size, 0, none⟩), .pointer (some ⟨w.heap.size + 1, 0, none⟩)]]
      ((w.alloc (.cells #[.pointer (some ⟨b, 0, none⟩)] 25)).alloc (.cells #[.int .i64 0] 3)) fun e w' => e = .returned (.tuple #[]) ∧ RdF w' b c ∧ Blk w' (w.heap.size + 1) #[.int .i64 0] 3 ∧ Kept [b] ((w.alloc (.cells #[.pointer (some ⟨b, 0, none⟩)] 25)).alloc (.cells #[.int .i64 0] 3)) w' := by
    have h2 := h.kept k0 (by simp)
    have b1 : Blk ((w.alloc (.cells #[.pointer (some ⟨b, 0, none⟩)] 25)).alloc (.cells #[.int .i64 0] 3)) w.heap.size #[.pointer (some ⟨b, 0, none⟩)] 25 := (Blk.new _ _ _).alloc _
    have b2 : Blk ((w.alloc (.cells #[.pointer (some ⟨b, 0, none⟩)] 25)).alloc (.cells #[.int .i64 0] 3)) (w.heap.size + 1) #[.int .i64 0] 3 := by
      have := Blk.new (w.alloc (.cells #[.pointer (some ⟨b, 0, none⟩)] 25)) #[.int .i64 0] 3
      simpa using this
    refine (face_err h2.rd _ c (en115 _) ?_).mono ?_
    · intro w3 k3
      exact clos_enter_err (h2.kept k3 (by simp)) hl w.heap.size (w.heap.size + 1) c (blk1 (b1.kept k3 (by simp))) (by omega) hr
    · rintro e w' ⟨rfl, g1, g2⟩
      exact ⟨rfl, g1, b2.kept g2 (by simp; omega), g2⟩
  have HF := hide hface
  have HK := hide k0
  clear hface h hl hr k0
  go_enter Try.func21, Try.ntmps21
  go_wp2_with fail
  refine (unhide HF).mono ?_
  rintro e w1 ⟨rfl, hrd, hq, hk⟩
  have hc := blk1 hq
  have HR := hide hrd
  clear hq hrd
  go_wp2
  go_ret
  exact ⟨rfl, unhide HR, ((unhide HK).mono (by simp)).trans hk (fun x hx => Or.inl hx)⟩

set_option maxRecDepth 100000 in
set_option maxHeartbeats 400000 in
theorem clos_leave_err {w : World} {b : Nat} {lv bv : Value} {hs : List Value} {l : List Nat} {behind : List (List Nat)} {D : Option Nat} (h : Rf w b lv bv hs l behind D) (p c : Nat)
    (hp : w.cell? ⟨p, 0, none⟩ = some (.pointer (some ⟨b, 0, none⟩))) (hr : (behind = [] ∧ c = 2) ∨ (behind ≠ [] ∧ l ≠ [] ∧ c = 12)) :
    Calls Try.prog 60 #[.pointer (some ⟨p, 0, none⟩)] w fun e w' => Faulty e c ∧ (∃ lv' l', Rd w' b lv' bv l') ∧ Kept [b] w w' := by
  have HH := hide h
  have hlen := h.hl
  obtain ⟨c0, c1, c2⟩ := blk3 h.rd.blk
  obtain ⟨la, lc, hlv⟩ := sees_len h.rd.see
  obtain ⟨ba, bc, hbv⟩ := own_len h.own
  rw [hlv] at c0
  rw [hbv] at c1
  rcases hr with ⟨rfl, rfl⟩ | ⟨hb, hl, rfl⟩
  · have hne : ((hs.length : Int) == 0) = true := by rw [beq_iff_eq]; simp at hlen; simp [hlen]
    clear h hlv hbv hlen
    go_enter Try.func60, Try.ntmps60
    go_wp2_with (first | (go_at_call 57; refine (refuse_yes _ _).mono ?_; rintro e w'' ⟨rfl, rfl⟩))
    exact ⟨rfl, ⟨37, _, rfl, Or.inr ⟨rfl, rfl⟩⟩, ⟨_, _, (unhide HH).rd⟩, Kept.refl _ _⟩
  · have hbp := List.length_pos_iff.2 hb
    have hne : ((hs.length : Int) == 0) = false := by rw [beq_eq_false_iff_ne]; omega
    have hlp := List.length_pos_iff.2 hl
    have hpb : decide (0 < l.length) = true := by simpa using hlp
    clear h hlv hbv hlen hb hl hbp
    go_enter Try.func60, Try.ntmps60
    go_wp2_with (first | (go_at_call_of 57 (Value.bool false); refine (refuse_no _ _).mono ?_; rintro e w'' ⟨rfl, rfl⟩) | (go_at_call_of 57 (Value.bool true); refine (refuse_yes _ _).mono ?_; rintro e w'' ⟨rfl, rfl⟩))
    exact ⟨rfl, ⟨37, _, rfl, Or.inr ⟨rfl, rfl⟩⟩, ⟨_, _, (unhide HH).rd⟩, Kept.refl _ _⟩

def Left (b : Nat) (bv : Value) (behind : List (List Nat)) (D : Option Nat) (w w' : World) : Prop :=
  (∃ lv' bv' hs', Rf w' b lv' bv' hs' (behind.getD (behind.length - 1) []) behind.dropLast D ∧ bv'.ownBlock = bv.ownBlock) ∧ Kept [b] w w'

set_option maxRecDepth 100000 in
set_option maxHeartbeats 400000 in
theorem rleave_ok {w : World} {b : Nat} {lv bv : Value} {hs : List Value} {behind : List (List Nat)} {D : Option Nat} (h : Rf w b lv bv hs [] behind D) (hpos : 0 < behind.length) :
    Calls Try.prog 22 #[.pointer (some ⟨b, 0, none⟩)] w fun e w' => e = .returned (.tuple #[]) ∧ Left b bv behind D w w' := by
  have hmf : ∀ (fn : Fn) (first cap : Array Value) (w : World), (Instr.makeFunc fn first cap).run Try.prog w = .ok (.func fn first cap) w := fun _ _ _ _ => rfl
  have hbl := h.rd.blk.lt
  have k0 : Kept [] w (w.alloc (.cells #[.pointer (some ⟨b, 0, none⟩)] 25)) := (Kept.refl [] w).alloc _
  have hface : Calls Try.prog 55 #[.pointer (some ⟨b, 0, none⟩), .func (.func 60) #[] #[.pointer (some ⟨w.heap.size, 0, none⟩)]]
      (w.alloc (.cells #[.pointer (some ⟨b, 0, none⟩)] 25)) fun e w' => e = .returned (.tuple #[]) ∧ Left b bv behind D (w.alloc (.cells #[.pointer (some ⟨b, 0, none⟩)] 25)) w' := by
    have h2 := h.kept k0 (by simp)
    refine face_ok h2.rd _ (en116' _) (Left b bv behind D) (fun w3 w' k hp => ⟨hp.1, (k.mono (by simp)).trans hp.2 (fun x hx => Or.inl hx)⟩) ?_
    intro w3 k3
    exact clos_leave_ok (h2.kept k3 (by simp)) w.heap.size (blk1 ((Blk.new w _ _).kept k3 (by simp))) (by omega) hpos
  have HF := hide hface
  have HK := hide k0
  clear hface h k0
  go_enter Try.func22, Try.ntmps22
  go_wp2_with fail
  refine (unhide HF).mono ?_
  rintro e w1 ⟨rfl, hl⟩
  have HL := hide hl
  clear hl
  go_wp2
  go_end0
  exact ⟨rfl, (unhide HL).1, ((unhide HK).mono (by simp)).trans (unhide HL).2 (fun x hx => Or.inl hx)⟩

set_option maxRecDepth 100000 in
set_option maxHeartbeats 400000 in
theorem rleave_err {w : World} {b : Nat} {lv bv : Value} {hs : List Value} {l : List Nat} {behind : List (List Nat)} {D : Option Nat} (h : Rf w b lv bv hs l behind D) (c : Nat) (hr : (behind = [] ∧ c = 2) ∨ (behind ≠ [] ∧ l ≠ [] ∧ c = 12)) :
    Calls Try.prog 22 #[.pointer (some ⟨b, 0, none⟩)] w fun e w' => e = .returned (.tuple #[]) ∧ RdF w' b c ∧ Kept [b] w w' := by
  have hmf : ∀ (fn : Fn) (first cap : Array Value) (w : World), (Instr.makeFunc fn first cap).run Try.prog w = .ok (.func fn first cap) w := fun _ _ _ _ => rfl
  have hbl := h.rd.blk.lt
  have k0 : Kept [] w (w.alloc (.cells #[.pointer (some ⟨b, 0, none⟩)] 25)) := (Kept.refl [] w).alloc _
  have hface : Calls Try.prog 55 #[.pointer (some ⟨b, 0, none⟩), .func (.func 60) #[] #[.pointer (some ⟨w.heap.size, 0, none⟩)]]
      (w.alloc (.cells #[.pointer (some ⟨b, 0, none⟩)] 25)) fun e w' => e = .returned (.tuple #[]) ∧ RdF w' b c ∧ Kept [b] (w.alloc (.cells #[.pointer (some ⟨b, 0, none⟩)] 25)) w' := by
    have h2 := h.kept k0 (by simp)
    refine face_err h2.rd _ c (en116' _) ?_
    intro w3 k3
    exact clos_leave_err (h2.kept k3 (by simp)) w.heap.size c (blk1 ((Blk.new w _ _).kept k3 (by simp))) hr
  have HF := hide hface
  have HK := hide k0
  clear hface h k0 hr
  go_enter Try.func22, Try.ntmps22
  go_wp2_with fail
  refine (unhide HF).mono ?_
  rintro e w1 ⟨rfl, hl, hk⟩
  have HL := hide hl
  clear hl
  go_wp2
  go_end0
  exact ⟨rfl, unhide HL, ((unhide HK).mono (by simp)).trans hk (fun x hx => Or.inl hx)⟩
end Go.Proofs.Ytiabhgkndejigab
