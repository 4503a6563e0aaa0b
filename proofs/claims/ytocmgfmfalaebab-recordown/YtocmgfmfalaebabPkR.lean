/- Texts laid one behind the other: Leave Frame Rfix RfixB RfixC PE PF Thing. -/
import Derived.Test.YtocmgfmfalaebabPkQ
import Derived.Deep.DeepCutAuto
import Derived.Test.YtocmgfmfalaebabPkP
import Derived.Test.YtocmgfmfalaebabPkN
import Derived.Test.YtocmgfmfalaebabPkJ
/- The reader's Leave; Enter where it is refused. -/
namespace Go.Proofs.Ytocmgfmfalaebab
open Go.RowKit

end Go.Proofs.Ytocmgfmfalaebab

/- The reader's Enter and Leave, faces and all. -/
namespace Go.Proofs.Ytocmgfmfalaebab
open Go.RowKit

theorem Entered.mono {b q n : Nat} {bv : Value} {r : List Nat} {behind : List (List Nat)} {D : Option Nat} {W w3 w' : World} (k : Kept [] W w3) (h : Entered b q bv r behind D n w3 w') : Entered b q bv r behind D n W w' := by
  obtain ⟨⟨lv', bv', hs', g1, g2⟩, g3, g4⟩ := h
  have := k.size
  refine ⟨⟨lv', bv', hs', g1, ?_⟩, g3, (k.mono (by simp)).trans g4 (fun x hx => Or.inl hx)⟩
  rcases g2 with g2 | g2
  · exact Or.inl g2
  · exact Or.inr fun x hx => by have := g2 x hx; omega

theorem Rf.lts {w : World} {b : Nat} {lv bv : Value} {hs : List Value} {l : List Nat} {behind : List (List Nat)} {D : Option Nat} (h : Rf w b lv bv hs l behind D) : ∀ x ∈ D.toList ++ rfoot b bv, x < w.heap.size := by
  intro x hx
  simp only [rfoot, List.mem_append, List.mem_cons, Option.mem_toList] at hx
  rcases hx with hx | rfl | hx
  · exact h.dlt x hx
  · exact h.rd.blk.lt
  · exact (h.own.lt x hx).2

def Left (b : Nat) (bv : Value) (behind : List (List Nat)) (D : Option Nat) (w w' : World) : Prop :=
  (∃ lv' bv' hs', Rf w' b lv' bv' hs' (behind.getD (behind.length - 1) []) behind.dropLast D ∧ bv'.ownBlock = bv.ownBlock) ∧ Kept [b] w w'

end Go.Proofs.Ytocmgfmfalaebab

/- The reader's Fixed. -/
namespace Go.Proofs.Ytocmgfmfalaebab
open Go.RowKit

/-- The number of some bytes, the lowest first. -/
def leV : List Nat → Nat
  | [] => 0
  | x :: l => x + 256 * leV l
theorem leV_lt (l : List Nat) (h : ∀ x ∈ l, x < 256) : leV l < 256 ^ l.length := by
  induction l with
  | nil => simp [leV]
  | cons x l ih =>
    have h1 := ih (fun y hy => h y (by simp [hy]))
    have h2 := h x (by simp)
    simp only [leV, List.length_cons, Nat.pow_succ]; omega
theorem leV_append (a b : List Nat) : leV (a ++ b) = leV a + 256 ^ a.length * leV b := by
  induction a with
  | nil => simp [leV]
  | cons x a ih => simp only [leV, List.cons_append, List.length_cons, Nat.pow_succ, ih, Nat.mul_add, Nat.add_assoc]; congr 2; rw [← Nat.mul_assoc]; congr 1; exact Nat.mul_comm _ _

theorem or_le (acc y s : Nat) (h : acc < 2 ^ s) : acc ||| y * 2 ^ s = acc + y * 2 ^ s := by
  have := Nat.two_pow_add_eq_or_of_lt h y
  rw [Nat.mul_comm y, Nat.or_comm, ← this, Nat.add_comm]


theorem or_at16 (k acc y : Nat) (hk : k < 2) (hacc : acc < 256 ^ k) (hy : y < 256) :
    bits .or .u16 (acc : Int) (IntKind.u16.wrap ((y : Int) * 2 ^ (8 * k))) = ((acc + y * 256 ^ k : Nat) : Int) ∧ acc + y * 256 ^ k < 256 ^ (k + 1) := by
  have e : 256 ^ k = 2 ^ (8 * k) := (pow256 k).symm
  rw [e] at hacc ⊢
  have e2 : 256 ^ (k + 1) = 2 ^ (8 * k) * 256 := by rw [Nat.pow_succ, e]
  have h1 : y * 2 ^ (8 * k) ≤ 255 * 2 ^ (8 * k) := Nat.mul_le_mul_right _ (by omega)
  have h2 : 2 ^ (8 * k) ≤ 2 ^ 8 := Nat.pow_le_pow_right (by omega) (by omega)
  refine ⟨?_, by rw [e2]; omega⟩
  have ew : IntKind.u16.wrap ((y : Int) * 2 ^ (8 * k)) = ((y * 2 ^ (8 * k) : Nat) : Int) := by
    rw [IntKind.wrap_u16]
    have : ((y : Int) * 2 ^ (8 * k)) = ((y * 2 ^ (8 * k) : Nat) : Int) := by simp
    rw [this]; omega
  rw [ew, u16_or_nat _ _ (by omega) (by omega), or_le _ _ _ hacc]

theorem or_at32 (k acc y : Nat) (hk : k < 4) (hacc : acc < 256 ^ k) (hy : y < 256) :
    bits .or .u32 (acc : Int) (IntKind.u32.wrap ((y : Int) * 2 ^ (8 * k))) = ((acc + y * 256 ^ k : Nat) : Int) ∧ acc + y * 256 ^ k < 256 ^ (k + 1) := by
  have e : 256 ^ k = 2 ^ (8 * k) := (pow256 k).symm
  rw [e] at hacc ⊢
  have e2 : 256 ^ (k + 1) = 2 ^ (8 * k) * 256 := by rw [Nat.pow_succ, e]
  have h1 : y * 2 ^ (8 * k) ≤ 255 * 2 ^ (8 * k) := Nat.mul_le_mul_right _ (by omega)
  have h2 : 2 ^ (8 * k) ≤ 2 ^ 24 := Nat.pow_le_pow_right (by omega) (by omega)
  refine ⟨?_, by rw [e2]; omega⟩
  have ew : IntKind.u32.wrap ((y : Int) * 2 ^ (8 * k)) = ((y * 2 ^ (8 * k) : Nat) : Int) := by
    rw [IntKind.wrap_u32]
    have : ((y : Int) * 2 ^ (8 * k)) = ((y * 2 ^ (8 * k) : Nat) : Int) := by simp
    rw [this]; omega
  rw [ew, u32_or_nat _ _ (by omega) (by omega), or_le _ _ _ hacc]

theorem or_at64 (k acc y : Nat) (hk : k < 8) (hacc : acc < 256 ^ k) (hy : y < 256) :
    bits .or .u64 (acc : Int) (IntKind.u64.wrap ((y : Int) * 2 ^ (8 * k))) = ((acc + y * 256 ^ k : Nat) : Int) ∧ acc + y * 256 ^ k < 256 ^ (k + 1) := by
  have e : 256 ^ k = 2 ^ (8 * k) := (pow256 k).symm
  rw [e] at hacc ⊢
  have e2 : 256 ^ (k + 1) = 2 ^ (8 * k) * 256 := by rw [Nat.pow_succ, e]
  have h1 : y * 2 ^ (8 * k) ≤ 255 * 2 ^ (8 * k) := Nat.mul_le_mul_right _ (by omega)
  have h2 : 2 ^ (8 * k) ≤ 2 ^ 56 := Nat.pow_le_pow_right (by omega) (by omega)
  refine ⟨?_, by rw [e2]; omega⟩
  have ew : IntKind.u64.wrap ((y : Int) * 2 ^ (8 * k)) = ((y * 2 ^ (8 * k) : Nat) : Int) := by
    rw [IntKind.wrap_u64]
    have : ((y : Int) * 2 ^ (8 * k)) = ((y * 2 ^ (8 * k) : Nat) : Int) := by simp
    rw [this]; omega
  rw [ew, u64_or_nat _ _ (by omega) (by omega), or_le _ _ _ hacc]

end Go.Proofs.Ytocmgfmfalaebab

/- takeFixed. -/
namespace Go.Proofs.Ytocmgfmfalaebab
open Go.RowKit

theorem or_u64 (a v s : Nat) (ha : a < 2 ^ s) (hv : v * 2 ^ s < 18446744073709551616) (h2 : a < 18446744073709551616) : bits .or .u64 (a : Int) (((v * 2 ^ s : Nat)) : Int) = ((a + v * 2 ^ s : Nat) : Int) := by
  rw [u64_or_nat _ _ h2 hv, or_le _ _ _ ha]

theorem leV_at (l : List Nat) (a b : Nat) (h : a ≤ l.length) : leV (l.take (a + b)) = leV (l.take a) + leV ((l.drop a).take b) * 2 ^ (8 * a) := by
  rw [List.take_add, leV_append, pow256, Nat.mul_comm, show (l.take a).length = a by simp; omega]

theorem or_zero64 (v : Nat) (h : v < 18446744073709551616) : bits .or .u64 0 (v : Int) = (v : Int) := by
  have := u64_or_nat 0 v (by omega) h
  simpa using this

def TakeN (w : World) (b : Nat) (lv bv : Value) (l : List Nat) (k : Nat) (w' : World) : Prop := ∃ lv', Rd w' b lv' bv (l.drop k) ∧ lv'.ownBlock = lv.ownBlock ∧ Kept [b] w w'

theorem TakeN.next {w w1 w2 : World} {b : Nat} {lv lv1 bv : Value} {l : List Nat} {k j : Nat} (h1 : lv1.ownBlock = lv.ownBlock) (k1 : Kept [b] w w1) (h2 : TakeN w1 b lv1 bv (l.drop k) j w2) : TakeN w b lv bv l (k + j) w2 := by
  obtain ⟨lv', h3, h4, h5⟩ := h2
  exact ⟨lv', by rw [← List.drop_drop]; exact h3, h4.trans h1, k1.trans h5 (fun x hx => Or.inl hx)⟩

theorem lt_take (l : List Nat) (hl : ∀ x ∈ l, x < 256) (k : Nat) : leV (l.take k) < 256 ^ k := by
  have := leV_lt (l.take k) (fun x hx => hl x (List.mem_of_mem_take hx))
  exact Nat.lt_of_lt_of_le this (Nat.pow_le_pow_right (by omega) (by simp; omega))

theorem part8 {w : World} {b : Nat} {lv bv : Value} {l : List Nat} (h : Rd w b lv bv l) (hl : ∀ x ∈ l, x < 256) (hn : 1 ≤ l.length) :
    Calls Try.prog 30 #[.pointer (some ⟨b, 0, none⟩)] w fun e w' => ∃ v, e = .returned (.int .u8 (v : Nat)) ∧ v < 256 ∧ Hid (v = leV (l.take 1)) ∧ TakeN w b lv bv l 1 w' := by
  cases l with
  | nil => simp at hn
  | cons x l =>
    refine (take8_ok h (hl x (by simp))).mono ?_
    rintro e w' ⟨rfl, h1⟩
    exact ⟨x, rfl, hl x (by simp), by simp [Hid, leV], h1⟩

end Go.Proofs.Ytocmgfmfalaebab

/- The reader's Fixed: its face. Its Done, whatever frames it has been in. -/
namespace Go.Proofs.Ytocmgfmfalaebab
open Go.RowKit

def W3n (w : World) (b : Nat) (n : Int) : World := ((w.alloc (.cells #[.pointer (some ⟨b, 0, none⟩)] 49)).alloc (.cells #[.int .i64 n] 3)).alloc (.cells #[.int .u64 0] 88)

theorem W3n_facts (w : World) (b : Nat) (n : Int) : Kept [] w (W3n w b n) ∧ (W3n w b n).heap.size = w.heap.size + 3 ∧ Blk (W3n w b n) w.heap.size #[.pointer (some ⟨b, 0, none⟩)] 49 ∧ Blk (W3n w b n) (w.heap.size + 1) #[.int .i64 n] 3 ∧ Blk (W3n w b n) (w.heap.size + 2) #[.int .u64 0] 88 := by
  unfold W3n
  refine ⟨(((Kept.refl [] w).alloc _).alloc _).alloc _, by simp, ((Blk.new _ _ _).alloc _).alloc _, ?_, ?_⟩
  · have := (Blk.new (w.alloc (.cells #[.pointer (some ⟨b, 0, none⟩)] 49)) #[.int .i64 n] 3).alloc (.cells #[.int .u64 0] 88)
    simpa using this
  · have := Blk.new ((w.alloc (.cells #[.pointer (some ⟨b, 0, none⟩)] 49)).alloc (.cells #[.int .i64 n] 3)) #[.int .u64 0] 88
    simpa using this

set_option maxRecDepth 100000 in
set_option maxHeartbeats 400000 in
theorem rdone_f {w : World} {b : Nat} {lv bv : Value} {hs : List Value} {l : List Nat} {behind : List (List Nat)} {D : Option Nat} (h : Rf w b lv bv hs l behind D) (c : Nat) (hc : c = if l = [] ∧ behind = [] then 0 else 12) :
    Calls Try.prog 21 #[.pointer (some ⟨b, 0, none⟩)] w fun e w' => e = .returned (.int .i64 c) ∧ w = w' := by
  obtain ⟨c0, c1, c2⟩ := blk3 h.rd.blk
  obtain ⟨a, cap, hlv⟩ := sees_len h.rd.see
  obtain ⟨ba, bc, hbv⟩ := own_len h.own
  have hlen := h.hl
  rw [hlv] at c0
  rw [hbv] at c1
  clear hlv hbv h
  by_cases hl : l = []
  · by_cases hb : behind = []
    · rw [if_pos ⟨hl, hb⟩] at hc
      subst hc
      have d1 : decide (0 < l.length) = false := by simp [hl]
      have d2 : decide (0 < hs.length) = false := by simp [hlen, hb]
      clear hl hb hlen
      go_enter Try.func21, Try.ntmps21
      go_wp2
      go_ret
      exact ⟨rfl, rfl⟩
    · rw [if_neg (fun e => hb e.2)] at hc
      subst hc
      have d1 : decide (0 < l.length) = false := by simp [hl]
      have d2 : decide (0 < hs.length) = true := by have := List.length_pos_iff.2 hb; simp; omega
      clear hl hb hlen
      go_enter Try.func21, Try.ntmps21
      go_wp2
      go_ret
      exact ⟨rfl, rfl⟩
  · rw [if_neg (fun e => hl e.1)] at hc
    subst hc
    have d1 : decide (0 < l.length) = true := by have := List.length_pos_iff.2 hl; simpa using this
    clear hl hlen
    go_enter Try.func21, Try.ntmps21
    go_wp2
    go_ret
    exact ⟨rfl, rfl⟩
end Go.Proofs.Ytocmgfmfalaebab

/- The reader's readings that give up: Byte, Int, Fixed and Real beyond the end; Fixed of a wrong size. -/
namespace Go.Proofs.Ytocmgfmfalaebab
open Go.RowKit

/-- A reading gave up beyond the end. -/
def GaveUp (w : World) (b : Nat) (bv : Value) (c : Nat) (e : Ending) (w' : World) : Prop := Faulty e c ∧ (∃ lv' l', Rd w' b lv' bv l') ∧ Kept [b] w w'
theorem GaveUp.of_end {w w' : World} {b : Nat} {lv bv pv : Value} (h : Rd w b lv bv []) (hq : Quiet w w') : GaveUp w b bv 10 (.panicked [{ v := .iface 8 pv, recovered := false }]) w' :=
  ⟨⟨8, pv, rfl, Or.inl ⟨rfl, rfl⟩⟩, ⟨lv, [], h.kept hq.kept (by simp) (by simp)⟩, hq.kept.mono (by simp)⟩
theorem GaveUp.next {w w1 w' : World} {b c : Nat} {bv : Value} {e : Ending} (k : Kept [b] w w1) (h : GaveUp w1 b bv c e w') : GaveUp w b bv c e w' :=
  ⟨h.1, h.2.1, k.trans h.2.2 (fun _ hx => Or.inl hx)⟩

set_option maxRecDepth 100000 in
set_option maxHeartbeats 400000 in
theorem take8_err {w : World} {b : Nat} {lv bv : Value} {l : List Nat} (h : Rd w b lv bv l) (hn : l.length < 1) :
    Calls Try.prog 30 #[.pointer (some ⟨b, 0, none⟩)] w (GaveUp w b bv 10) := by
  obtain rfl : l = [] := List.eq_nil_of_length_eq_zero (by omega)
  have HC := hide (next_end h)
  have HH := hide h
  clear h hn
  go_enter Try.func30, Try.ntmps30
  go_wp2_with (first | (go_at_call 48; refine (width8 _).mono ?_; rintro e w' ⟨rfl, rfl⟩))
  refine wp_loop_rounds 2 ?_
  rw [rounds_succ]
  go_wp2_with (first | (go_at_call 49; refine (unhide HC).mono ?_; rintro e w1 ⟨⟨pv, rfl⟩, hq⟩))
  exact ⟨rfl, GaveUp.of_end (unhide HH) hq⟩


end Go.Proofs.Ytocmgfmfalaebab

/- The reader's calls that give up, and all calls on a reader with a fault. -/
namespace Go.Proofs.Ytocmgfmfalaebab
open Go.RowKit

theorem enByte (a : Array Value) (w : World) : (callFunc 29 a).run Try.prog w = .ok (.enter 29 a) w := by kernel_rfl
set_option maxRecDepth 100000 in
set_option maxHeartbeats 400000 in
theorem clos_byte_err {w : World} {b : Nat} {lv bv : Value} {l : List Nat} (h : Rd w b lv bv l) (hn : l.length < 1) (p q : Nat) (hp : w.cell? ⟨p, 0, none⟩ = some (.pointer (some ⟨b, 0, none⟩))) :
    Calls Try.prog 29 #[.pointer (some ⟨p, 0, none⟩), .pointer (some ⟨q, 0, none⟩)] w (GaveUp w b bv 10) := by
  have HC := hide (take8_err h hn)
  clear h hn
  go_enter Try.func29, Try.ntmps29
  go_wp2_with fail
  refine (unhide HC).mono ?_
  rintro e w1 ⟨⟨u, pv, rfl, hu⟩, hrd, hk⟩
  have HU := hide hu
  clear hu
  go_wp2
  exact ⟨rfl, ⟨u, pv, rfl, by simpa using unhide HU⟩, hrd, hk⟩

set_option maxRecDepth 100000 in
set_option maxHeartbeats 400000 in
theorem rbyte_err {w : World} {b : Nat} {lv bv : Value} {l : List Nat} (h : Rd w b lv bv l) (hn : l.length < 1) :
    Calls Try.prog 20 #[.pointer (some ⟨b, 0, none⟩)] w fun e w' => e = .returned (.int .i64 0) ∧ RdF w' b 10 ∧ Kept [b] w w' := by
  have hmf : ∀ (fn : Fn) (first cap : Array Value) (w : World), (Instr.makeFunc fn first cap).run Try.prog w = .ok (.func fn first cap) w := fun _ _ _ _ => rfl
  obtain ⟨hb, hlo⟩ := rd_lt h
  have hface : Calls Try.prog 28 #[.pointer (some ⟨b, 0, none⟩), .func (.func 29) #[] #[.pointer (some ⟨w.heap.size, 0, none⟩), .pointer (some ⟨w.heap.size + 1, 0, none⟩)]]
      ((w.alloc (.cells #[.pointer (some ⟨b, 0, none⟩)] 49)).alloc (.cells #[.int .i64 0] 3)) fun e w' => e = .returned (.tuple #[]) ∧ RdF w' b 10 ∧ Blk w' (w.heap.size + 1) #[.int .i64 0] 3 ∧ Kept [b] ((w.alloc (.cells #[.pointer (some ⟨b, 0, none⟩)] 49)).alloc (.cells #[.int .i64 0] 3)) w' := by
    have h2 := (h.alloc (.cells #[.pointer (some ⟨b, 0, none⟩)] 49)).alloc (.cells #[.int .i64 0] 3)
    have b1 : Blk ((w.alloc (.cells #[.pointer (some ⟨b, 0, none⟩)] 49)).alloc (.cells #[.int .i64 0] 3)) w.heap.size #[.pointer (some ⟨b, 0, none⟩)] 49 := (Blk.new _ _ _).alloc _
    have b2 : Blk ((w.alloc (.cells #[.pointer (some ⟨b, 0, none⟩)] 49)).alloc (.cells #[.int .i64 0] 3)) (w.heap.size + 1) #[.int .i64 0] 3 := by
      have := Blk.new (w.alloc (.cells #[.pointer (some ⟨b, 0, none⟩)] 49)) #[.int .i64 0] 3
      simpa using this
    refine (face_err h2 _ 10 (enByte _) ?_).mono ?_
    · intro w3 k3
      exact clos_byte_err (h2.kept k3 (by simp) (by simp)) hn w.heap.size (w.heap.size + 1) (blk1 (b1.kept k3 (by simp)))
    · rintro e w' ⟨rfl, g1, g2⟩
      exact ⟨rfl, g1, b2.kept g2 (by simp; omega), g2⟩
  have HF := hide hface
  clear hface h hn
  go_enter Try.func20, Try.ntmps20
  go_wp2_with fail
  refine (unhide HF).mono ?_
  rintro e w1 ⟨rfl, hrd, hq, hk⟩
  have hc := blk1 hq
  have HR := hide hrd
  clear hq hrd
  go_wp2
  go_ret
  refine ⟨rfl, unhide HR, ?_⟩
  exact ((((Kept.refl [] w).alloc _).alloc _).mono (G := [b]) (by simp)).trans hk (fun x hx => Or.inl hx)


/-! On a reader with a fault. -/
set_option maxRecDepth 100000 in
set_option maxHeartbeats 400000 in
theorem take_fault {w : World} {b c : Nat} (h : RdF w b c) (hc : c ≠ 0) (fv : Value) :
    Calls Try.prog 28 #[.pointer (some ⟨b, 0, none⟩), fv] w fun e w' => e = .returned (.tuple #[]) ∧ Kept [] w w' := by
  have c2' : (w.alloc (.cells #[.pointer (some ⟨b, 0, none⟩)] 49)).cell? ⟨b, 2, none⟩ = some (.int .i64 c) := (blk3 (Blk.alloc h _)).2.2
  have hn : ((c : Int) != 0) = true := by rw [bne_iff_ne]; omega
  have hb := Blk.lt h
  clear h hc
  go_enter_defers Try.func28, Try.ntmps28
  go_wp2

  simp [bodyPostD, Leaves, results, Try.results28, go_sem]
  exact (Kept.refl [] w).alloc _


set_option maxRecDepth 100000 in
set_option maxHeartbeats 400000 in
theorem rbyte_fault {w : World} {b c : Nat} (h : RdF w b c) (hc : c ≠ 0) :
    Calls Try.prog 20 #[.pointer (some ⟨b, 0, none⟩)] w fun e w' => e = .returned (.int .i64 0) ∧ Kept [] w w' := by
  have hmf : ∀ (fn : Fn) (first cap : Array Value) (w : World), (Instr.makeFunc fn first cap).run Try.prog w = .ok (.func fn first cap) w := fun _ _ _ _ => rfl
  have hq : Blk ((w.alloc (.cells #[.pointer (some ⟨b, 0, none⟩)] 49)).alloc (.cells #[.int .i64 0] 3)) (w.heap.size + 1) #[.int .i64 0] 3 := by
    have := Blk.new (w.alloc (.cells #[.pointer (some ⟨b, 0, none⟩)] 49)) #[.int .i64 0] 3
    simpa using this
  have HF : Hid (∀ fv, Calls Try.prog 28 #[.pointer (some ⟨b, 0, none⟩), fv] ((w.alloc (.cells #[.pointer (some ⟨b, 0, none⟩)] 49)).alloc (.cells #[.int .i64 0] 3)) fun e w' => e = .returned (.tuple #[]) ∧ Kept [] ((w.alloc (.cells #[.pointer (some ⟨b, 0, none⟩)] 49)).alloc (.cells #[.int .i64 0] 3)) w') := hide fun fv => take_fault (show RdF _ b c from (Blk.alloc (Blk.alloc h _) _)) hc fv
  have HK : Hid (Kept [] w ((w.alloc (.cells #[.pointer (some ⟨b, 0, none⟩)] 49)).alloc (.cells #[.int .i64 0] 3))) := hide (((Kept.refl [] w).alloc _).alloc _)
  have HQ := hide hq
  clear h hc hq
  go_enter Try.func20, Try.ntmps20
  go_wp2_with fail
  refine (unhide HF _).mono ?_
  rintro e w1 ⟨rfl, hk⟩
  have hcq := blk1 ((unhide HQ).kept hk (by simp))
  have HK1 := hide hk
  clear hk
  go_wp2
  go_ret
  exact ⟨rfl, (unhide HK).trans (unhide HK1) (by simp)⟩

set_option maxRecDepth 100000 in
set_option maxHeartbeats 400000 in
theorem rnum_fault {w : World} {b c : Nat} (h : RdF w b c) (hc : c ≠ 0) :
    Calls Try.prog 54 #[.pointer (some ⟨b, 0, none⟩)] w fun e w' => e = .returned (.int .u64 0) ∧ Kept [] w w' := by
  have hmf : ∀ (fn : Fn) (first cap : Array Value) (w : World), (Instr.makeFunc fn first cap).run Try.prog w = .ok (.func fn first cap) w := fun _ _ _ _ => rfl
  have hq : Blk ((w.alloc (.cells #[.pointer (some ⟨b, 0, none⟩)] 49)).alloc (.cells #[.int .u64 0] 88)) (w.heap.size + 1) #[.int .u64 0] 88 := by
    have := Blk.new (w.alloc (.cells #[.pointer (some ⟨b, 0, none⟩)] 49)) #[.int .u64 0] 88
    simpa using this
  have HF : Hid (∀ fv, Calls Try.prog 28 #[.pointer (some ⟨b, 0, none⟩), fv] ((w.alloc (.cells #[.pointer (some ⟨b, 0, none⟩)] 49)).alloc (.cells #[.int .u64 0] 88)) fun e w' => e = .returned (.tuple #[]) ∧ Kept [] ((w.alloc (.cells #[.pointer (some ⟨b, 0, none⟩)] 49)).alloc (.cells #[.int .u64 0] 88)) w') := hide fun fv => take_fault (show RdF _ b c from (Blk.alloc (Blk.alloc h _) _)) hc fv
  have HK : Hid (Kept [] w ((w.alloc (.cells #[.pointer (some ⟨b, 0, none⟩)] 49)).alloc (.cells #[.int .u64 0] 88))) := hide (((Kept.refl [] w).alloc _).alloc _)
  have HQ := hide hq
  clear h hc hq
  go_enter Try.func54, Try.ntmps54
  go_wp2_with fail
  refine (unhide HF _).mono ?_
  rintro e w1 ⟨rfl, hk⟩
  have hcq := blk1 ((unhide HQ).kept hk (by simp))
  have HK1 := hide hk
  clear hk
  go_wp2
  go_ret
  exact ⟨rfl, (unhide HK).trans (unhide HK1) (by simp)⟩

set_option maxRecDepth 100000 in
set_option maxHeartbeats 400000 in
theorem rtext_fault {w : World} {b c : Nat} (h : RdF w b c) (hc : c ≠ 0) (n : Int) :
    Calls Try.prog 67 #[.pointer (some ⟨b, 0, none⟩), .int .i64 n] w fun e w' => e = .returned (.slice none 0 0) ∧ Kept [] w w' := by
  have hmf : ∀ (fn : Fn) (first cap : Array Value) (w : World), (Instr.makeFunc fn first cap).run Try.prog w = .ok (.func fn first cap) w := fun _ _ _ _ => rfl
  have hq : Blk (((w.alloc (.cells #[.pointer (some ⟨b, 0, none⟩)] 49)).alloc (.cells #[.int .i64 n] 3)).alloc (.cells #[.slice none 0 0] 22)) (w.heap.size + 2) #[.slice none 0 0] 22 := by
    have := Blk.new ((w.alloc (.cells #[.pointer (some ⟨b, 0, none⟩)] 49)).alloc (.cells #[.int .i64 n] 3)) #[.slice none 0 0] 22
    simpa using this
  have HF : Hid (∀ fv, Calls Try.prog 28 #[.pointer (some ⟨b, 0, none⟩), fv] (((w.alloc (.cells #[.pointer (some ⟨b, 0, none⟩)] 49)).alloc (.cells #[.int .i64 n] 3)).alloc (.cells #[.slice none 0 0] 22)) fun e w' => e = .returned (.tuple #[]) ∧ Kept [] (((w.alloc (.cells #[.pointer (some ⟨b, 0, none⟩)] 49)).alloc (.cells #[.int .i64 n] 3)).alloc (.cells #[.slice none 0 0] 22)) w') := hide fun fv => take_fault (show RdF _ b c from (Blk.alloc (Blk.alloc (Blk.alloc h _) _) _)) hc fv
  have HK : Hid (Kept [] w (((w.alloc (.cells #[.pointer (some ⟨b, 0, none⟩)] 49)).alloc (.cells #[.int .i64 n] 3)).alloc (.cells #[.slice none 0 0] 22))) := hide ((((Kept.refl [] w).alloc _).alloc _).alloc _)
  have HQ := hide hq
  clear h hc hq
  go_enter Try.func67, Try.ntmps67
  go_wp2_with fail
  refine (unhide HF _).mono ?_
  rintro e w1 ⟨rfl, hk⟩
  have hcq := blk1 ((unhide HQ).kept hk (by simp))
  have HK1 := hide hk
  clear hk
  go_wp2
  go_ret
  exact ⟨rfl, (unhide HK).trans (unhide HK1) (by simp)⟩

end Go.Proofs.Ytocmgfmfalaebab

/- A Thing: its kind, its size; what lays it down. -/
namespace Go.Proofs.Ytocmgfmfalaebab
open Go.RowKit

/-- A thing: the value, and what its P reads as. -/
structure Th where
  kind : Int
  n : Nat
  i : Int
  pa : Option Addr
  pc : Nat
  p : List Nat

def Th.val (t : Th) : Value := .agg #[.int .i64 t.kind, .int .u64 (t.n : Int), .int .i64 t.i, .slice t.pa t.p.length t.pc]
def Th.pv (t : Th) : Value := .slice t.pa t.p.length t.pc
/-- It is a value of its type. -/
structure Th.ok (t : Th) : Prop where
  k1 : -9223372036854775808 ≤ t.kind
  k2 : t.kind ≤ 9223372036854775807
  n : t.n < 18446744073709551616
  i1 : -9223372036854775808 ≤ t.i
  i2 : t.i ≤ 9223372036854775807
  p : ∀ x ∈ t.p, x < 256

def rnd (x : Int) (n : Nat) : Nat := (x % n).toNat
theorem rnd_lt (x : Int) (n : Nat) (h : 0 < n) : rnd x n < n := by
  unfold rnd
  have h1 := Int.emod_nonneg x (b := (n : Int)) (by omega)
  have h2 := Int.emod_lt_of_pos x (b := (n : Int)) (by omega)
  omega
theorem rnd_of (x : Int) (n : Nat) (h : 0 < n) : (x.tmod n < 0 → x.tmod n + n = (rnd x n : Int)) ∧ (0 ≤ x.tmod n → x.tmod n = (rnd x n : Int)) := by
  have h1 := Int.emod_nonneg x (b := (n : Int)) (by omega)
  have h2 := Int.emod_lt_of_pos x (b := (n : Int)) (by omega)
  have h3 := Int.tmod_eq_emod (a := x) (b := (n : Int))
  unfold rnd
  split at h3 <;> constructor <;> intro h4 <;> (try simp at h3) <;> omega

end Go.Proofs.Ytocmgfmfalaebab
