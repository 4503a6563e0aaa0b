/- Texts laid one behind the other: Leave Frame Rfix RfixB RfixC PE PF Thing. -/
import Derived.Test.YtfhfkpgfnlmfhaaGreatDoorPkQ
import Derived.Deep.DeepCutAuto
import Derived.Test.YtfhfkpgfnlmfhaaGreatDoorPkP
import Derived.Test.YtfhfkpgfnlmfhaaGreatDoorPkN
import Derived.Test.YtfhfkpgfnlmfhaaGreatDoorPkJ
/- The reader's Leave; Enter where it is refused. -/
namespace Go.Proofs.YtfhfkpgfnlmfhaaGreatDoor
open Go.RowKit

end Go.Proofs.YtfhfkpgfnlmfhaaGreatDoor

/- The reader's Enter and Leave, faces and all. -/
namespace Go.Proofs.YtfhfkpgfnlmfhaaGreatDoor
open Go.RowKit

theorem Entered.mono {b q n : Nat} {bv : Value} {r : List Nat} {behind : List (List Nat)} {D : Option Nat} {W w3 w' : World} (k : Kept [] W w3) (h : Entered b q bv r behind D n w3 w') : Entered b q bv r behind D n W w' := by
  obtain ⟨⟨lv', bv', hs', g1, g2⟩, g3, g4⟩ := h
  have := k.size
  refine ⟨⟨lv', bv', hs', g1, ?_⟩, g3, (k.mono (by simp)).trans g4 (fun x hx => Or.inl hx)⟩
  rcases g2 with g2 | g2
  · exact Or.inl g2
  · exact Or.inr fun x hx => by have := g2 x hx; omega

theorem Rf.lts {w : World} {b : Nat} {lv bv : Value} {hs : List Value} {l : List Nat} {behind : List (List Nat)} {D : Option Nat} (h : Rf w b lv bv hs l behind D) : ∀ x ∈ D.toList ++ rfoot b bv, x < w.heap.size := by
  intro x hx
  simp only [rfoot, List.mem_append, List.mem_cons, Option.mem_toList] at hx
  rcases hx with hx | rfl | hx
  · exact h.dlt x hx
  · exact h.rd.blk.lt
  · exact (h.own.lt x hx).2

def Left (b : Nat) (bv : Value) (behind : List (List Nat)) (D : Option Nat) (w w' : World) : Prop :=
  (∃ lv' bv' hs', Rf w' b lv' bv' hs' (behind.getD (behind.length - 1) []) behind.dropLast D ∧ bv'.ownBlock = bv.ownBlock) ∧ Kept [b] w w'

end Go.Proofs.YtfhfkpgfnlmfhaaGreatDoor

/- The reader's Fixed. -/
namespace Go.Proofs.YtfhfkpgfnlmfhaaGreatDoor
open Go.RowKit

/-- The number of some bytes, the lowest first. -/
def leV : List Nat → Nat
  | [] => 0
  | x :: l => x + 256 * leV l
theorem leV_lt (l : List Nat) (h : ∀ x ∈ l, x < 256) : leV l < 256 ^ l.length := by
  induction l with
  | nil => simp [leV]
  | cons x l ih =>
    have h1 := ih (fun y hy => h y (by simp [hy]))
    have h2 := h x (by simp)
    simp only [leV, List.length_cons, Nat.pow_succ]; omega
theorem leV_append (a b : List Nat) : leV (a ++ b) = leV a + 256 ^ a.length * leV b := by
  induction a with
  | nil => simp [leV]
  | cons x a ih => simp only [leV, List.cons_append, List.length_cons, Nat.pow_succ, ih, Nat.mul_add, Nat.add_assoc]; congr 2; rw [← Nat.mul_assoc]; congr 1; exact Nat.mul_comm _ _

theorem or_le (acc y s : Nat) (h : acc < 2 ^ s) : acc ||| y * 2 ^ s = acc + y * 2 ^ s := by
  have := Nat.two_pow_add_eq_or_of_lt h y
  rw [Nat.mul_comm y, Nat.or_comm, ← this, Nat.add_comm]


theorem or_at16 (k acc y : Nat) (hk : k < 2) (hacc : acc < 256 ^ k) (hy : y < 256) :
    bits .or .u16 (acc : Int) (IntKind.u16.wrap ((y : Int) * 2 ^ (8 * k))) = ((acc + y * 256 ^ k : Nat) : Int) ∧ acc + y * 256 ^ k < 256 ^ (k + 1) := by
  have e : 256 ^ k = 2 ^ (8 * k) := (pow256 k).symm
  rw [e] at hacc ⊢
  have e2 : 256 ^ (k + 1) = 2 ^ (8 * k) * 256 := by rw [Nat.pow_succ, e]
  have h1 : y * 2 ^ (8 * k) ≤ 255 * 2 ^ (8 * k) := Nat.mul_le_mul_right _ (by omega)
  have h2 : 2 ^ (8 * k) ≤ 2 ^ 8 := Nat.pow_le_pow_right (by omega) (by omega)
  refine ⟨?_, by rw [e2]; omega⟩
  have ew : IntKind.u16.wrap ((y : Int) * 2 ^ (8 * k)) = ((y * 2 ^ (8 * k) : Nat) : Int) := by
    rw [IntKind.wrap_u16]
    have : ((y : Int) * 2 ^ (8 * k)) = ((y * 2 ^ (8 * k) : Nat) : Int) := by simp
    rw [this]; omega
  rw [ew, u16_or_nat _ _ (by omega) (by omega), or_le _ _ _ hacc]

set_option maxRecDepth 100000 in
set_option maxHeartbeats 400000 in
theorem take16_ok {w : World} {b : Nat} {lv bv : Value} {l : List Nat} (h : Rd w b lv bv l) (hl : ∀ x ∈ l, x < 256) (hn : 2 ≤ l.length) :
    Calls Tryz.prog 62 #[.pointer (some ⟨b, 0, none⟩)] w fun e w' => e = .returned (.int .u16 (leV (l.take 2) : Nat)) ∧ ∃ lv', Rd w' b lv' bv (l.drop 2) ∧ lv'.ownBlock = lv.ownBlock ∧ Kept [b] w w' := by
  have HH := hide h
  have HL := hide hl
  clear h hl
  go_enter Tryz.func62, Tryz.ntmps62
  go_wp2_with (first | (go_at_call 81; refine (widthu16 _).mono ?_; rintro e w' ⟨rfl, rfl⟩))
  go_loopw [3, 6] (fun nv i wr => ∃ (k : Nat) (lv' : Value), k ≤ 2 ∧ i = .int .i64 k ∧ nv = .int .u16 (leV (l.take k) : Nat) ∧ Hid (Rd wr b lv' bv (l.drop k) ∧ lv'.ownBlock = lv.ownBlock ∧ Kept [b] w wr)) (fun _ i _ => 2 - (intOf i).toNat)
  case atStart => exact ⟨0, lv, by omega, rfl, by simp [leV], hide ⟨by simpa using unhide HH, rfl, Kept.refl _ _⟩⟩
  case round =>
    obtain ⟨k, lv', hk, rfl, rfl, HR⟩ := hrel
    by_cases hlt : k < 2
    · have hkl : k < l.length := by omega
      have hx : l[k] < 256 := unhide HL _ (List.getElem_mem hkl)
      have hd : l.drop k = l[k] :: l.drop (k + 1) := (List.getElem_cons_drop hkl).symm
      have ht : l.take (k + 1) = l.take k ++ [l[k]] := List.take_succ_eq_append_getElem hkl
      have hlen : (l.take k).length = k := by simp; omega
      have ha : leV (l.take k) < 256 ^ k := by
        have := leV_lt (l.take k) (fun x hx => unhide HL x (List.mem_of_mem_take hx))
        rwa [hlen] at this
      have hv : leV (l.take (k + 1)) = leV (l.take k) + l[k] * 256 ^ k := by
        rw [ht, leV_append, hlen]; simp [leV]; exact Nat.mul_comm _ _
      have HV := hide hv
      generalize l[k] = x at *
      generalize leV (l.take k) = acc at *
      have HO := hide (or_at16 k acc x hlt ha hx)
      have ha2 : acc < 65536 := by
        have h2 : 256 ^ k ≤ 256 ^ 2 := Nat.pow_le_pow_right (by omega) (by omega)
        omega
      have HRD : Hid (Rd wr b lv' bv (x :: l.drop (k + 1)) ∧ lv'.ownBlock = lv.ownBlock ∧ Kept [b] w wr) := by rw [← hd]; exact HR
      clear hd ht hv ha hlen HR
      go_wp2_with (first | (go_at_call 79; refine (next_ok (unhide HRD).1).mono ?_; rintro e w1 ⟨rfl, lv2, hr2, ho2, hk2⟩; have HR2 := hide hr2; clear hr2))
      go_roundw
      case rel => exact ⟨k + 1, lv2, by omega, by go_num, by rw [unhide HV, ← (unhide HO).1]; try rw [IntKind.wrap_u16], hide ⟨unhide HR2, ho2.trans (unhide HRD).2.1, (unhide HRD).2.2.trans hk2 (fun y hy => Or.inl hy)⟩⟩
      case measure => simp [intOf]; omega
    · have hk2 : k = 2 := by omega
      subst hk2
      go_wp2
      go_ret
      exact ⟨rfl, lv', unhide HR⟩

theorem or_at32 (k acc y : Nat) (hk : k < 4) (hacc : acc < 256 ^ k) (hy : y < 256) :
    bits .or .u32 (acc : Int) (IntKind.u32.wrap ((y : Int) * 2 ^ (8 * k))) = ((acc + y * 256 ^ k : Nat) : Int) ∧ acc + y * 256 ^ k < 256 ^ (k + 1) := by
  have e : 256 ^ k = 2 ^ (8 * k) := (pow256 k).symm
  rw [e] at hacc ⊢
  have e2 : 256 ^ (k + 1) = 2 ^ (8 * k) * 256 := by rw [Nat.pow_succ, e]
  have h1 : y * 2 ^ (8 * k) ≤ 255 * 2 ^ (8 * k) := Nat.mul_le_mul_right _ (by omega)
  have h2 : 2 ^ (8 * k) ≤ 2 ^ 24 := Nat.pow_le_pow_right (by omega) (by omega)
  refine ⟨?_, by rw [e2]; omega⟩
  have ew : IntKind.u32.wrap ((y : Int) * 2 ^ (8 * k)) = ((y * 2 ^ (8 * k) : Nat) : Int) := by
    rw [IntKind.wrap_u32]
    have : ((y : Int) * 2 ^ (8 * k)) = ((y * 2 ^ (8 * k) : Nat) : Int) := by simp
    rw [this]; omega
  rw [ew, u32_or_nat _ _ (by omega) (by omega), or_le _ _ _ hacc]

set_option maxRecDepth 100000 in
set_option maxHeartbeats 400000 in
theorem take32_ok {w : World} {b : Nat} {lv bv : Value} {l : List Nat} (h : Rd w b lv bv l) (hl : ∀ x ∈ l, x < 256) (hn : 4 ≤ l.length) :
    Calls Tryz.prog 61 #[.pointer (some ⟨b, 0, none⟩)] w fun e w' => e = .returned (.int .u32 (leV (l.take 4) : Nat)) ∧ ∃ lv', Rd w' b lv' bv (l.drop 4) ∧ lv'.ownBlock = lv.ownBlock ∧ Kept [b] w w' := by
  have HH := hide h
  have HL := hide hl
  clear h hl
  go_enter Tryz.func61, Tryz.ntmps61
  go_wp2_with (first | (go_at_call 80; refine (widthu32 _).mono ?_; rintro e w' ⟨rfl, rfl⟩))
  go_loopw [3, 6] (fun nv i wr => ∃ (k : Nat) (lv' : Value), k ≤ 4 ∧ i = .int .i64 k ∧ nv = .int .u32 (leV (l.take k) : Nat) ∧ Hid (Rd wr b lv' bv (l.drop k) ∧ lv'.ownBlock = lv.ownBlock ∧ Kept [b] w wr)) (fun _ i _ => 4 - (intOf i).toNat)
  case atStart => exact ⟨0, lv, by omega, rfl, by simp [leV], hide ⟨by simpa using unhide HH, rfl, Kept.refl _ _⟩⟩
  case round =>
    obtain ⟨k, lv', hk, rfl, rfl, HR⟩ := hrel
    by_cases hlt : k < 4
    · have hkl : k < l.length := by omega
      have hx : l[k] < 256 := unhide HL _ (List.getElem_mem hkl)
      have hd : l.drop k = l[k] :: l.drop (k + 1) := (List.getElem_cons_drop hkl).symm
      have ht : l.take (k + 1) = l.take k ++ [l[k]] := List.take_succ_eq_append_getElem hkl
      have hlen : (l.take k).length = k := by simp; omega
      have ha : leV (l.take k) < 256 ^ k := by
        have := leV_lt (l.take k) (fun x hx => unhide HL x (List.mem_of_mem_take hx))
        rwa [hlen] at this
      have hv : leV (l.take (k + 1)) = leV (l.take k) + l[k] * 256 ^ k := by
        rw [ht, leV_append, hlen]; simp [leV]; exact Nat.mul_comm _ _
      have HV := hide hv
      generalize l[k] = x at *
      generalize leV (l.take k) = acc at *
      have HO := hide (or_at32 k acc x hlt ha hx)
      have ha2 : acc < 4294967296 := by
        have h2 : 256 ^ k ≤ 256 ^ 4 := Nat.pow_le_pow_right (by omega) (by omega)
        omega
      have HRD : Hid (Rd wr b lv' bv (x :: l.drop (k + 1)) ∧ lv'.ownBlock = lv.ownBlock ∧ Kept [b] w wr) := by rw [← hd]; exact HR
      clear hd ht hv ha hlen HR
      go_wp2_with (first | (go_at_call 79; refine (next_ok (unhide HRD).1).mono ?_; rintro e w1 ⟨rfl, lv2, hr2, ho2, hk2⟩; have HR2 := hide hr2; clear hr2))
      go_roundw
      case rel => exact ⟨k + 1, lv2, by omega, by go_num, by rw [unhide HV, ← (unhide HO).1]; try rw [IntKind.wrap_u32], hide ⟨unhide HR2, ho2.trans (unhide HRD).2.1, (unhide HRD).2.2.trans hk2 (fun y hy => Or.inl hy)⟩⟩
      case measure => simp [intOf]; omega
    · have hk2 : k = 4 := by omega
      subst hk2
      go_wp2
      go_ret
      exact ⟨rfl, lv', unhide HR⟩

theorem or_at64 (k acc y : Nat) (hk : k < 8) (hacc : acc < 256 ^ k) (hy : y < 256) :
    bits .or .u64 (acc : Int) (IntKind.u64.wrap ((y : Int) * 2 ^ (8 * k))) = ((acc + y * 256 ^ k : Nat) : Int) ∧ acc + y * 256 ^ k < 256 ^ (k + 1) := by
  have e : 256 ^ k = 2 ^ (8 * k) := (pow256 k).symm
  rw [e] at hacc ⊢
  have e2 : 256 ^ (k + 1) = 2 ^ (8 * k) * 256 := by rw [Nat.pow_succ, e]
  have h1 : y * 2 ^ (8 * k) ≤ 255 * 2 ^ (8 * k) := Nat.mul_le_mul_right _ (by omega)
  have h2 : 2 ^ (8 * k) ≤ 2 ^ 56 := Nat.pow_le_pow_right (by omega) (by omega)
  refine ⟨?_, by rw [e2]; omega⟩
  have ew : IntKind.u64.wrap ((y : Int) * 2 ^ (8 * k)) = ((y * 2 ^ (8 * k) : Nat) : Int) := by
    rw [IntKind.wrap_u64]
    have : ((y : Int) * 2 ^ (8 * k)) = ((y * 2 ^ (8 * k) : Nat) : Int) := by simp
    rw [this]; omega
  rw [ew, u64_or_nat _ _ (by omega) (by omega), or_le _ _ _ hacc]

set_option maxRecDepth 100000 in
set_option maxHeartbeats 400000 in
theorem take64_ok {w : World} {b : Nat} {lv bv : Value} {l : List Nat} (h : Rd w b lv bv l) (hl : ∀ x ∈ l, x < 256) (hn : 8 ≤ l.length) :
    Calls Tryz.prog 60 #[.pointer (some ⟨b, 0, none⟩)] w fun e w' => e = .returned (.int .u64 (leV (l.take 8) : Nat)) ∧ ∃ lv', Rd w' b lv' bv (l.drop 8) ∧ lv'.ownBlock = lv.ownBlock ∧ Kept [b] w w' := by
  have HH := hide h
  have HL := hide hl
  clear h hl
  go_enter Tryz.func60, Tryz.ntmps60
  go_wp2_with (first | (go_at_call 78; refine (widthu64 _).mono ?_; rintro e w' ⟨rfl, rfl⟩))
  go_loopw [3, 6] (fun nv i wr => ∃ (k : Nat) (lv' : Value), k ≤ 8 ∧ i = .int .i64 k ∧ nv = .int .u64 (leV (l.take k) : Nat) ∧ Hid (Rd wr b lv' bv (l.drop k) ∧ lv'.ownBlock = lv.ownBlock ∧ Kept [b] w wr)) (fun _ i _ => 8 - (intOf i).toNat)
  case atStart => exact ⟨0, lv, by omega, rfl, by simp [leV], hide ⟨by simpa using unhide HH, rfl, Kept.refl _ _⟩⟩
  case round =>
    obtain ⟨k, lv', hk, rfl, rfl, HR⟩ := hrel
    by_cases hlt : k < 8
    · have hkl : k < l.length := by omega
      have hx : l[k] < 256 := unhide HL _ (List.getElem_mem hkl)
      have hd : l.drop k = l[k] :: l.drop (k + 1) := (List.getElem_cons_drop hkl).symm
      have ht : l.take (k + 1) = l.take k ++ [l[k]] := List.take_succ_eq_append_getElem hkl
      have hlen : (l.take k).length = k := by simp; omega
      have ha : leV (l.take k) < 256 ^ k := by
        have := leV_lt (l.take k) (fun x hx => unhide HL x (List.mem_of_mem_take hx))
        rwa [hlen] at this
      have hv : leV (l.take (k + 1)) = leV (l.take k) + l[k] * 256 ^ k := by
        rw [ht, leV_append, hlen]; simp [leV]; exact Nat.mul_comm _ _
      have HV := hide hv
      generalize l[k] = x at *
      generalize leV (l.take k) = acc at *
      have HO := hide (or_at64 k acc x hlt ha hx)
      have ha2 : acc < 18446744073709551616 := by
        have h2 : 256 ^ k ≤ 256 ^ 8 := Nat.pow_le_pow_right (by omega) (by omega)
        omega
      have HRD : Hid (Rd wr b lv' bv (x :: l.drop (k + 1)) ∧ lv'.ownBlock = lv.ownBlock ∧ Kept [b] w wr) := by rw [← hd]; exact HR
      clear hd ht hv ha hlen HR
      go_wp2_with (first | (go_at_call 79; refine (next_ok (unhide HRD).1).mono ?_; rintro e w1 ⟨rfl, lv2, hr2, ho2, hk2⟩; have HR2 := hide hr2; clear hr2))
      go_roundw
      case rel => exact ⟨k + 1, lv2, by omega, by go_num, by rw [unhide HV, ← (unhide HO).1]; try rw [IntKind.wrap_u64], hide ⟨unhide HR2, ho2.trans (unhide HRD).2.1, (unhide HRD).2.2.trans hk2 (fun y hy => Or.inl hy)⟩⟩
      case measure => simp [intOf]; omega
    · have hk2 : k = 8 := by omega
      subst hk2
      go_wp2
      go_ret
      exact ⟨rfl, lv', unhide HR⟩
end Go.Proofs.YtfhfkpgfnlmfhaaGreatDoor

/- takeFixed. -/
namespace Go.Proofs.YtfhfkpgfnlmfhaaGreatDoor
open Go.RowKit

theorem or_u64 (a v s : Nat) (ha : a < 2 ^ s) (hv : v * 2 ^ s < 18446744073709551616) (h2 : a < 18446744073709551616) : bits .or .u64 (a : Int) (((v * 2 ^ s : Nat)) : Int) = ((a + v * 2 ^ s : Nat) : Int) := by
  rw [u64_or_nat _ _ h2 hv, or_le _ _ _ ha]

theorem leV_at (l : List Nat) (a b : Nat) (h : a ≤ l.length) : leV (l.take (a + b)) = leV (l.take a) + leV ((l.drop a).take b) * 2 ^ (8 * a) := by
  rw [List.take_add, leV_append, pow256, Nat.mul_comm, show (l.take a).length = a by simp; omega]

theorem or_zero64 (v : Nat) (h : v < 18446744073709551616) : bits .or .u64 0 (v : Int) = (v : Int) := by
  have := u64_or_nat 0 v (by omega) h
  simpa using this

def TakeN (w : World) (b : Nat) (lv bv : Value) (l : List Nat) (k : Nat) (w' : World) : Prop := ∃ lv', Rd w' b lv' bv (l.drop k) ∧ lv'.ownBlock = lv.ownBlock ∧ Kept [b] w w'

theorem TakeN.next {w w1 w2 : World} {b : Nat} {lv lv1 bv : Value} {l : List Nat} {k j : Nat} (h1 : lv1.ownBlock = lv.ownBlock) (k1 : Kept [b] w w1) (h2 : TakeN w1 b lv1 bv (l.drop k) j w2) : TakeN w b lv bv l (k + j) w2 := by
  obtain ⟨lv', h3, h4, h5⟩ := h2
  exact ⟨lv', by rw [← List.drop_drop]; exact h3, h4.trans h1, k1.trans h5 (fun x hx => Or.inl hx)⟩

theorem lt_take (l : List Nat) (hl : ∀ x ∈ l, x < 256) (k : Nat) : leV (l.take k) < 256 ^ k := by
  have := leV_lt (l.take k) (fun x hx => hl x (List.mem_of_mem_take hx))
  exact Nat.lt_of_lt_of_le this (Nat.pow_le_pow_right (by omega) (by simp; omega))

theorem part8 {w : World} {b : Nat} {lv bv : Value} {l : List Nat} (h : Rd w b lv bv l) (hl : ∀ x ∈ l, x < 256) (hn : 1 ≤ l.length) :
    Calls Tryz.prog 63 #[.pointer (some ⟨b, 0, none⟩)] w fun e w' => ∃ v, e = .returned (.int .u8 (v : Nat)) ∧ v < 256 ∧ Hid (v = leV (l.take 1)) ∧ TakeN w b lv bv l 1 w' := by
  cases l with
  | nil => simp at hn
  | cons x l =>
    refine (take8_ok h (hl x (by simp))).mono ?_
    rintro e w' ⟨rfl, h1⟩
    exact ⟨x, rfl, hl x (by simp), by simp [Hid, leV], h1⟩

theorem part16 {w : World} {b : Nat} {lv bv : Value} {l : List Nat} (h : Rd w b lv bv l) (hl : ∀ x ∈ l, x < 256) (hn : 2 ≤ l.length) :
    Calls Tryz.prog 62 #[.pointer (some ⟨b, 0, none⟩)] w fun e w' => ∃ v, e = .returned (.int .u16 (v : Nat)) ∧ v < 65536 ∧ Hid (v = leV (l.take 2)) ∧ TakeN w b lv bv l 2 w' := by
  refine (take16_ok h hl hn).mono ?_
  rintro e w' ⟨rfl, h1⟩
  exact ⟨_, rfl, lt_take l hl 2, hide rfl, h1⟩

theorem part32 {w : World} {b : Nat} {lv bv : Value} {l : List Nat} (h : Rd w b lv bv l) (hl : ∀ x ∈ l, x < 256) (hn : 4 ≤ l.length) :
    Calls Tryz.prog 61 #[.pointer (some ⟨b, 0, none⟩)] w fun e w' => ∃ v, e = .returned (.int .u32 (v : Nat)) ∧ v < 4294967296 ∧ Hid (v = leV (l.take 4)) ∧ TakeN w b lv bv l 4 w' := by
  refine (take32_ok h hl hn).mono ?_
  rintro e w' ⟨rfl, h1⟩
  exact ⟨_, rfl, lt_take l hl 4, hide rfl, h1⟩

theorem part64 {w : World} {b : Nat} {lv bv : Value} {l : List Nat} (h : Rd w b lv bv l) (hl : ∀ x ∈ l, x < 256) (hn : 8 ≤ l.length) :
    Calls Tryz.prog 60 #[.pointer (some ⟨b, 0, none⟩)] w fun e w' => ∃ v, e = .returned (.int .u64 (v : Nat)) ∧ v < 18446744073709551616 ∧ Hid (v = leV (l.take 8)) ∧ TakeN w b lv bv l 8 w' := by
  refine (take64_ok h hl hn).mono ?_
  rintro e w' ⟨rfl, h1⟩
  exact ⟨_, rfl, lt_take l hl 8, hide rfl, h1⟩

set_option maxRecDepth 100000 in
set_option maxHeartbeats 400000 in
theorem takeFixed1 {w : World} {b : Nat} {lv bv : Value} {l : List Nat} (h : Rd w b lv bv l) (hl : ∀ x ∈ l, x < 256) (hn : 1 ≤ l.length) :
    Calls Tryz.prog 43 #[.pointer (some ⟨b, 0, none⟩), .int .i64 1] w fun e w' => e = .returned (.int .u64 (leV (l.take 1) : Nat)) ∧ TakeN w b lv bv l 1 w' := by
  have m4 : bits .and .i64 1 4 = 0 := by decide
  have m2 : bits .and .i64 1 2 = 0 := by decide
  have m1 : bits .and .i64 1 1 = 1 := by decide
  have HL := hide hl
  have HN := hide hn
  have H0 := hide h
  have hw0 := Kept.refl [b] w
  have ho0 : lv.ownBlock = lv.ownBlock := rfl
  clear h hl hn
  go_enter Tryz.func43, Tryz.ntmps43
  go_wp2_with fail
  refine (part8 (unhide H0) (unhide HL) (by have := unhide HN; omega)).mono ?_
  rintro e w1 ⟨v1, rfl, b1, V1, t1⟩
  obtain ⟨lv1, hr1, ho1, hw1⟩ := t1
  have H1 := hide hr1
  clear hr1
  go_wp2
  go_ret
  refine ⟨ret_int ?_, lv1, unhide H1, ho1, hw1⟩
  rw [or_zero64 v1 (by omega)]
  rw [unhide V1]

set_option maxRecDepth 100000 in
set_option maxHeartbeats 400000 in
theorem takeFixed2 {w : World} {b : Nat} {lv bv : Value} {l : List Nat} (h : Rd w b lv bv l) (hl : ∀ x ∈ l, x < 256) (hn : 2 ≤ l.length) :
    Calls Tryz.prog 43 #[.pointer (some ⟨b, 0, none⟩), .int .i64 2] w fun e w' => e = .returned (.int .u64 (leV (l.take 2) : Nat)) ∧ TakeN w b lv bv l 2 w' := by
  have m4 : bits .and .i64 2 4 = 0 := by decide
  have m2 : bits .and .i64 2 2 = 2 := by decide
  have m1 : bits .and .i64 2 1 = 0 := by decide
  have HL := hide hl
  have HN := hide hn
  have H0 := hide h
  have hw0 := Kept.refl [b] w
  have ho0 : lv.ownBlock = lv.ownBlock := rfl
  clear h hl hn
  go_enter Tryz.func43, Tryz.ntmps43
  go_wp2_with fail
  refine (part16 (unhide H0) (unhide HL) (by have := unhide HN; omega)).mono ?_
  rintro e w1 ⟨v1, rfl, b1, V1, t1⟩
  obtain ⟨lv1, hr1, ho1, hw1⟩ := t1
  have H1 := hide hr1
  clear hr1
  go_wp2
  go_ret
  refine ⟨ret_int ?_, lv1, unhide H1, ho1, hw1⟩
  rw [or_zero64 v1 (by omega)]
  rw [unhide V1]

set_option maxRecDepth 100000 in
set_option maxHeartbeats 400000 in
theorem takeFixed3 {w : World} {b : Nat} {lv bv : Value} {l : List Nat} (h : Rd w b lv bv l) (hl : ∀ x ∈ l, x < 256) (hn : 3 ≤ l.length) :
    Calls Tryz.prog 43 #[.pointer (some ⟨b, 0, none⟩), .int .i64 3] w fun e w' => e = .returned (.int .u64 (leV (l.take 3) : Nat)) ∧ TakeN w b lv bv l 3 w' := by
  have m4 : bits .and .i64 3 4 = 0 := by decide
  have m2 : bits .and .i64 3 2 = 2 := by decide
  have m1 : bits .and .i64 3 1 = 1 := by decide
  have HL := hide hl
  have HN := hide hn
  have H0 := hide h
  have hw0 := Kept.refl [b] w
  have ho0 : lv.ownBlock = lv.ownBlock := rfl
  clear h hl hn
  go_enter Tryz.func43, Tryz.ntmps43
  go_wp2_with fail
  refine (part16 (unhide H0) (unhide HL) (by have := unhide HN; omega)).mono ?_
  rintro e w1 ⟨v1, rfl, b1, V1, t1⟩
  obtain ⟨lv1, hr1, ho1, hw1⟩ := t1
  have H1 := hide hr1
  clear hr1
  go_wp2_with fail
  refine (part8 (unhide H1) (fun x hx => unhide HL x (List.mem_of_mem_drop hx)) (by have := unhide HN; simp; omega)).mono ?_
  rintro e w2 ⟨v2, rfl, b2, V2, t2⟩
  replace t2 := TakeN.next ho1 hw1 t2
  obtain ⟨lv2, hr2, ho2, hw2⟩ := t2
  have H2 := hide hr2
  clear hr2
  go_wp2
  go_ret
  refine ⟨ret_int ?_, lv2, unhide H2, ho2, hw2⟩
  rw [or_zero64 v1 (by omega)]
  rw [show (v2 : Int) * 65536 = ((v2 * 2 ^ 16 : Nat) : Int) by simp, or_u64 (v1) v2 16 (by omega) (by omega) (by omega)]
  rw [show 3 = 2 + 1 from rfl, leV_at l 2 1 (by have := unhide HN; omega), ← unhide V1, ← unhide V2]

set_option maxRecDepth 100000 in
set_option maxHeartbeats 400000 in
theorem takeFixed4 {w : World} {b : Nat} {lv bv : Value} {l : List Nat} (h : Rd w b lv bv l) (hl : ∀ x ∈ l, x < 256) (hn : 4 ≤ l.length) :
    Calls Tryz.prog 43 #[.pointer (some ⟨b, 0, none⟩), .int .i64 4] w fun e w' => e = .returned (.int .u64 (leV (l.take 4) : Nat)) ∧ TakeN w b lv bv l 4 w' := by
  have m4 : bits .and .i64 4 4 = 4 := by decide
  have m2 : bits .and .i64 4 2 = 0 := by decide
  have m1 : bits .and .i64 4 1 = 0 := by decide
  have HL := hide hl
  have HN := hide hn
  have H0 := hide h
  have hw0 := Kept.refl [b] w
  have ho0 : lv.ownBlock = lv.ownBlock := rfl
  clear h hl hn
  go_enter Tryz.func43, Tryz.ntmps43
  go_wp2_with fail
  refine (part32 (unhide H0) (unhide HL) (by have := unhide HN; omega)).mono ?_
  rintro e w1 ⟨v1, rfl, b1, V1, t1⟩
  obtain ⟨lv1, hr1, ho1, hw1⟩ := t1
  have H1 := hide hr1
  clear hr1
  go_wp2
  go_ret
  refine ⟨ret_int ?_, lv1, unhide H1, ho1, hw1⟩
  rw [unhide V1]

set_option maxRecDepth 100000 in
set_option maxHeartbeats 400000 in
theorem takeFixed5 {w : World} {b : Nat} {lv bv : Value} {l : List Nat} (h : Rd w b lv bv l) (hl : ∀ x ∈ l, x < 256) (hn : 5 ≤ l.length) :
    Calls Tryz.prog 43 #[.pointer (some ⟨b, 0, none⟩), .int .i64 5] w fun e w' => e = .returned (.int .u64 (leV (l.take 5) : Nat)) ∧ TakeN w b lv bv l 5 w' := by
  have m4 : bits .and .i64 5 4 = 4 := by decide
  have m2 : bits .and .i64 5 2 = 0 := by decide
  have m1 : bits .and .i64 5 1 = 1 := by decide
  have HL := hide hl
  have HN := hide hn
  have H0 := hide h
  have hw0 := Kept.refl [b] w
  have ho0 : lv.ownBlock = lv.ownBlock := rfl
  clear h hl hn
  go_enter Tryz.func43, Tryz.ntmps43
  go_wp2_with fail
  refine (part32 (unhide H0) (unhide HL) (by have := unhide HN; omega)).mono ?_
  rintro e w1 ⟨v1, rfl, b1, V1, t1⟩
  obtain ⟨lv1, hr1, ho1, hw1⟩ := t1
  have H1 := hide hr1
  clear hr1
  go_wp2_with fail
  refine (part8 (unhide H1) (fun x hx => unhide HL x (List.mem_of_mem_drop hx)) (by have := unhide HN; simp; omega)).mono ?_
  rintro e w2 ⟨v2, rfl, b2, V2, t2⟩
  replace t2 := TakeN.next ho1 hw1 t2
  obtain ⟨lv2, hr2, ho2, hw2⟩ := t2
  have H2 := hide hr2
  clear hr2
  go_wp2
  go_ret
  refine ⟨ret_int ?_, lv2, unhide H2, ho2, hw2⟩
  rw [show (v2 : Int) * 4294967296 = ((v2 * 2 ^ 32 : Nat) : Int) by simp, or_u64 (v1) v2 32 (by omega) (by omega) (by omega)]
  rw [show 5 = 4 + 1 from rfl, leV_at l 4 1 (by have := unhide HN; omega), ← unhide V1, ← unhide V2]

set_option maxRecDepth 100000 in
set_option maxHeartbeats 400000 in
theorem takeFixed6 {w : World} {b : Nat} {lv bv : Value} {l : List Nat} (h : Rd w b lv bv l) (hl : ∀ x ∈ l, x < 256) (hn : 6 ≤ l.length) :
    Calls Tryz.prog 43 #[.pointer (some ⟨b, 0, none⟩), .int .i64 6] w fun e w' => e = .returned (.int .u64 (leV (l.take 6) : Nat)) ∧ TakeN w b lv bv l 6 w' := by
  have m4 : bits .and .i64 6 4 = 4 := by decide
  have m2 : bits .and .i64 6 2 = 2 := by decide
  have m1 : bits .and .i64 6 1 = 0 := by decide
  have HL := hide hl
  have HN := hide hn
  have H0 := hide h
  have hw0 := Kept.refl [b] w
  have ho0 : lv.ownBlock = lv.ownBlock := rfl
  clear h hl hn
  go_enter Tryz.func43, Tryz.ntmps43
  go_wp2_with fail
  refine (part32 (unhide H0) (unhide HL) (by have := unhide HN; omega)).mono ?_
  rintro e w1 ⟨v1, rfl, b1, V1, t1⟩
  obtain ⟨lv1, hr1, ho1, hw1⟩ := t1
  have H1 := hide hr1
  clear hr1
  go_wp2_with fail
  refine (part16 (unhide H1) (fun x hx => unhide HL x (List.mem_of_mem_drop hx)) (by have := unhide HN; simp; omega)).mono ?_
  rintro e w2 ⟨v2, rfl, b2, V2, t2⟩
  replace t2 := TakeN.next ho1 hw1 t2
  obtain ⟨lv2, hr2, ho2, hw2⟩ := t2
  have H2 := hide hr2
  clear hr2
  go_wp2
  go_ret
  refine ⟨ret_int ?_, lv2, unhide H2, ho2, hw2⟩
  rw [show (v2 : Int) * 4294967296 = ((v2 * 2 ^ 32 : Nat) : Int) by simp, or_u64 (v1) v2 32 (by omega) (by omega) (by omega)]
  rw [show 6 = 4 + 2 from rfl, leV_at l 4 2 (by have := unhide HN; omega), ← unhide V1, ← unhide V2]

set_option maxRecDepth 100000 in
set_option maxHeartbeats 400000 in
theorem takeFixed7 {w : World} {b : Nat} {lv bv : Value} {l : List Nat} (h : Rd w b lv bv l) (hl : ∀ x ∈ l, x < 256) (hn : 7 ≤ l.length) :
    Calls Tryz.prog 43 #[.pointer (some ⟨b, 0, none⟩), .int .i64 7] w fun e w' => e = .returned (.int .u64 (leV (l.take 7) : Nat)) ∧ TakeN w b lv bv l 7 w' := by
  have m4 : bits .and .i64 7 4 = 4 := by decide
  have m2 : bits .and .i64 7 2 = 2 := by decide
  have m1 : bits .and .i64 7 1 = 1 := by decide
  have HL := hide hl
  have HN := hide hn
  have H0 := hide h
  have hw0 := Kept.refl [b] w
  have ho0 : lv.ownBlock = lv.ownBlock := rfl
  clear h hl hn
  go_enter Tryz.func43, Tryz.ntmps43
  go_wp2_with fail
  refine (part32 (unhide H0) (unhide HL) (by have := unhide HN; omega)).mono ?_
  rintro e w1 ⟨v1, rfl, b1, V1, t1⟩
  obtain ⟨lv1, hr1, ho1, hw1⟩ := t1
  have H1 := hide hr1
  clear hr1
  go_wp2_with fail
  refine (part16 (unhide H1) (fun x hx => unhide HL x (List.mem_of_mem_drop hx)) (by have := unhide HN; simp; omega)).mono ?_
  rintro e w2 ⟨v2, rfl, b2, V2, t2⟩
  replace t2 := TakeN.next ho1 hw1 t2
  obtain ⟨lv2, hr2, ho2, hw2⟩ := t2
  have H2 := hide hr2
  clear hr2
  go_wp2_with fail
  refine (part8 (unhide H2) (fun x hx => unhide HL x (List.mem_of_mem_drop hx)) (by have := unhide HN; simp; omega)).mono ?_
  rintro e w3 ⟨v3, rfl, b3, V3, t3⟩
  replace t3 := TakeN.next ho2 hw2 t3
  obtain ⟨lv3, hr3, ho3, hw3⟩ := t3
  have H3 := hide hr3
  clear hr3
  go_wp2
  go_ret
  refine ⟨ret_int ?_, lv3, unhide H3, ho3, hw3⟩
  rw [show (v2 : Int) * 4294967296 = ((v2 * 2 ^ 32 : Nat) : Int) by simp, or_u64 (v1) v2 32 (by omega) (by omega) (by omega)]
  rw [show (v3 : Int) * 281474976710656 = ((v3 * 2 ^ 48 : Nat) : Int) by simp, or_u64 (v1 + v2 * 2 ^ 32) v3 48 (by omega) (by omega) (by omega)]
  rw [show 7 = (4 + 2) + 1 from rfl, leV_at l (4 + 2) 1 (by have := unhide HN; omega), leV_at l 4 2 (by have := unhide HN; omega), ← unhide V1, ← unhide V2, ← unhide V3]

set_option maxRecDepth 100000 in
set_option maxHeartbeats 400000 in
theorem takeFixed8 {w : World} {b : Nat} {lv bv : Value} {l : List Nat} (h : Rd w b lv bv l) (hl : ∀ x ∈ l, x < 256) (hn : 8 ≤ l.length) :
    Calls Tryz.prog 43 #[.pointer (some ⟨b, 0, none⟩), .int .i64 8] w fun e w' => e = .returned (.int .u64 (leV (l.take 8) : Nat)) ∧ TakeN w b lv bv l 8 w' := by
  have m4 : bits .and .i64 8 4 = 0 := by decide
  have m2 : bits .and .i64 8 2 = 0 := by decide
  have m1 : bits .and .i64 8 1 = 0 := by decide
  have HL := hide hl
  have HN := hide hn
  have H0 := hide h
  have hw0 := Kept.refl [b] w
  have ho0 : lv.ownBlock = lv.ownBlock := rfl
  clear h hl hn
  go_enter Tryz.func43, Tryz.ntmps43
  go_wp2_with fail
  refine (part64 (unhide H0) (unhide HL) (by have := unhide HN; omega)).mono ?_
  rintro e w1 ⟨v1, rfl, b1, V1, t1⟩
  obtain ⟨lv1, hr1, ho1, hw1⟩ := t1
  have H1 := hide hr1
  clear hr1
  go_wp2
  go_ret
  refine ⟨ret_int ?_, lv1, unhide H1, ho1, hw1⟩
  rw [unhide V1]

theorem takeFixed_ok {w : World} {b : Nat} {lv bv : Value} {l : List Nat} (h : Rd w b lv bv l) (hl : ∀ x ∈ l, x < 256) (size : Nat) (h1 : 1 ≤ size) (h8 : size ≤ 8) (hn : size ≤ l.length) :
    Calls Tryz.prog 43 #[.pointer (some ⟨b, 0, none⟩), .int .i64 size] w fun e w' => e = .returned (.int .u64 (leV (l.take size) : Nat)) ∧ TakeN w b lv bv l size w' := by
  match size, h1, h8, hn with
  | 1, _, _, hn => exact takeFixed1 h hl hn
  | 2, _, _, hn => exact takeFixed2 h hl hn
  | 3, _, _, hn => exact takeFixed3 h hl hn
  | 4, _, _, hn => exact takeFixed4 h hl hn
  | 5, _, _, hn => exact takeFixed5 h hl hn
  | 6, _, _, hn => exact takeFixed6 h hl hn
  | 7, _, _, hn => exact takeFixed7 h hl hn
  | 8, _, _, hn => exact takeFixed8 h hl hn
end Go.Proofs.YtfhfkpgfnlmfhaaGreatDoor

/- The reader's Fixed: its face. Its Done, whatever frames it has been in. -/
namespace Go.Proofs.YtfhfkpgfnlmfhaaGreatDoor
open Go.RowKit

theorem en108 (a : Array Value) (w : World) : (callFunc 41 a).run Tryz.prog w = .ok (.enter 41 a) w := by kernel_rfl

set_option maxRecDepth 100000 in
set_option maxHeartbeats 400000 in
theorem clos_fixed_ok {w : World} {b : Nat} {lv bv : Value} {l : List Nat} (h : Rd w b lv bv l) (hl : ∀ x ∈ l, x < 256) (size ps pr q : Nat) (z : Value) (hps : w.cell? ⟨ps, 0, none⟩ = some (.int .i64 size)) (hpr : w.cell? ⟨pr, 0, none⟩ = some (.pointer (some ⟨b, 0, none⟩))) (hq : Blk w q #[z] 23) (hqb : q ≠ b) (hql : lv.ownBlock ≠ some q) (h1 : 1 ≤ size) (h8 : size ≤ 8) (hn : size ≤ l.length) :
    Calls Tryz.prog 41 #[.pointer (some ⟨ps, 0, none⟩), .pointer (some ⟨pr, 0, none⟩), .pointer (some ⟨q, 0, none⟩)] w fun e w' => e = .returned (.tuple #[]) ∧ Taken b q lv bv (l.drop size) (.int .u64 (leV (l.take size) : Nat)) 23 w w' := by
  have HC := hide (takeFixed_ok h hl size h1 h8 hn)
  have HQ := hide hq
  clear h hl hq hn
  have b1 : decide ((size : Int) < 1) = false := by simp; omega
  have b2 : decide (8 < (size : Int)) = false := by simp; omega
  clear h1 h8
  go_enter Tryz.func41, Tryz.ntmps41
  go_wp2_with (first | (go_at_call 42; refine (refuse_no _ _).mono ?_; rintro e w'' ⟨rfl, rfl⟩))
  refine (unhide HC).mono ?_
  rintro e w1 ⟨rfl, lv', hrd, ho, hk⟩
  have hq1 : Blk w1 q #[z] 23 := (unhide HQ).kept hk (by simpa using hqb)
  have hc1 := blk1 hq1
  have hf1 := hq1.frozen 0
  have HQ1 := hide hq1
  have HRD := hide hrd
  clear hq1 hrd
  go_wp2
  go_end0
  refine ⟨rfl, ⟨lv', (unhide HRD).kept ((Kept.refl [q] _).setCell (Or.inl (by simp)) _) (by simp; exact fun e => hqb e.symm) (fun x hx => by simp; intro e; subst e; exact hql (by rw [← ho]; exact hx)), ho⟩, ?_, ?_⟩
  · simpa using (unhide HQ1).set 0 _
  · exact (hk.mono (fun x hx => Or.inl (by simp at hx; simp [hx]))).setCell (Or.inl (by simp)) _

def W3n (w : World) (b : Nat) (n : Int) : World := ((w.alloc (.cells #[.pointer (some ⟨b, 0, none⟩)] 40)).alloc (.cells #[.int .i64 n] 3)).alloc (.cells #[.int .u64 0] 23)

theorem W3n_facts (w : World) (b : Nat) (n : Int) : Kept [] w (W3n w b n) ∧ (W3n w b n).heap.size = w.heap.size + 3 ∧ Blk (W3n w b n) w.heap.size #[.pointer (some ⟨b, 0, none⟩)] 40 ∧ Blk (W3n w b n) (w.heap.size + 1) #[.int .i64 n] 3 ∧ Blk (W3n w b n) (w.heap.size + 2) #[.int .u64 0] 23 := by
  unfold W3n
  refine ⟨(((Kept.refl [] w).alloc _).alloc _).alloc _, by simp, ((Blk.new _ _ _).alloc _).alloc _, ?_, ?_⟩
  · have := (Blk.new (w.alloc (.cells #[.pointer (some ⟨b, 0, none⟩)] 40)) #[.int .i64 n] 3).alloc (.cells #[.int .u64 0] 23)
    simpa using this
  · have := Blk.new ((w.alloc (.cells #[.pointer (some ⟨b, 0, none⟩)] 40)).alloc (.cells #[.int .i64 n] 3)) #[.int .u64 0] 23
    simpa using this

set_option maxRecDepth 100000 in
set_option maxHeartbeats 400000 in
theorem rfixed_ok {w : World} {b : Nat} {lv bv : Value} {l : List Nat} (h : Rd w b lv bv l) (hl : ∀ x ∈ l, x < 256) (size : Nat) (h1 : 1 ≤ size) (h8 : size ≤ 8) (hn : size ≤ l.length) :
    Calls Tryz.prog 14 #[.pointer (some ⟨b, 0, none⟩), .int .i64 size] w fun e w' => e = .returned (.int .u64 (leV (l.take size) : Nat)) ∧ (∃ lv', Rd w' b lv' bv (l.drop size) ∧ lv'.ownBlock = lv.ownBlock) ∧ Kept [b] w w' := by
  have hmf : ∀ (fn : Fn) (first cap : Array Value) (w : World), (Instr.makeFunc fn first cap).run Tryz.prog w = .ok (.func fn first cap) w := fun _ _ _ _ => rfl
  obtain ⟨k0, hsz, b1, b2, b3⟩ := W3n_facts w b size
  obtain ⟨hb, hlo⟩ := rd_lt h
  have hface : Calls Tryz.prog 40 #[.pointer (some ⟨b, 0, none⟩), .func (.func 41) #[] #[.pointer (some ⟨w.heap.size + 1, 0, none⟩), .pointer (some ⟨w.heap.size, 0, none⟩), .pointer (some ⟨w.heap.size + 2, 0, none⟩)]] (W3n w b size)
      fun e w' => e = .returned (.tuple #[]) ∧ Taken b (w.heap.size + 2) lv bv (l.drop size) (.int .u64 (leV (l.take size) : Nat)) 23 (W3n w b size) w' := by
    refine face_ok (h.kept k0 (by simp) (by simp)) _ (en108 _) (Taken b (w.heap.size + 2) lv bv (l.drop size) (.int .u64 (leV (l.take size) : Nat)) 23) (fun _ _ => Taken.mono) ?_
    intro w3 k3
    exact clos_fixed_ok ((h.kept k0 (by simp) (by simp)).kept k3 (by simp) (by simp)) hl size _ _ _ _ (blk1 (b2.kept k3 (by simp))) (blk1 (b1.kept k3 (by simp))) (b3.kept k3 (by simp)) (by omega) (fun e => by have := hlo _ e; omega) h1 h8 hn
  have HF := hide hface
  have HK0 := hide k0
  clear hface h b1 b2 b3 k0 hsz hl hn h1 h8
  unfold W3n at HF HK0
  go_enter Tryz.func14, Tryz.ntmps14
  go_wp2_with fail
  refine (unhide HF).mono ?_
  rintro e w1 ⟨rfl, hrd, hq, hk⟩
  have hc := blk1 hq
  clear hq
  go_wp2
  go_ret
  refine ⟨rfl, hrd, ?_⟩
  exact ((unhide HK0).mono (by simp)).trans hk (fun x hx => by simp at hx; rcases hx with rfl | rfl; simp; right; omega)

set_option maxRecDepth 100000 in
set_option maxHeartbeats 400000 in
theorem rdone_f {w : World} {b : Nat} {lv bv : Value} {hs : List Value} {l : List Nat} {behind : List (List Nat)} {D : Option Nat} (h : Rf w b lv bv hs l behind D) (c : Nat) (hc : c = if l = [] ∧ behind = [] then 0 else 12) :
    Calls Tryz.prog 46 #[.pointer (some ⟨b, 0, none⟩)] w fun e w' => e = .returned (.int .i64 c) ∧ w = w' := by
  obtain ⟨c0, c1, c2⟩ := blk3 h.rd.blk
  obtain ⟨a, cap, hlv⟩ := sees_len h.rd.see
  obtain ⟨ba, bc, hbv⟩ := own_len h.own
  have hlen := h.hl
  rw [hlv] at c0
  rw [hbv] at c1
  clear hlv hbv h
  by_cases hl : l = []
  · by_cases hb : behind = []
    · rw [if_pos ⟨hl, hb⟩] at hc
      subst hc
      have d1 : decide (0 < l.length) = false := by simp [hl]
      have d2 : decide (0 < hs.length) = false := by simp [hlen, hb]
      clear hl hb hlen
      go_enter Tryz.func46, Tryz.ntmps46
      go_wp2
      go_ret
      exact ⟨rfl, rfl⟩
    · rw [if_neg (fun e => hb e.2)] at hc
      subst hc
      have d1 : decide (0 < l.length) = false := by simp [hl]
      have d2 : decide (0 < hs.length) = true := by have := List.length_pos_iff.2 hb; simp; omega
      clear hl hb hlen
      go_enter Tryz.func46, Tryz.ntmps46
      go_wp2
      go_ret
      exact ⟨rfl, rfl⟩
  · rw [if_neg (fun e => hl e.1)] at hc
    subst hc
    have d1 : decide (0 < l.length) = true := by have := List.length_pos_iff.2 hl; simpa using this
    clear hl hlen
    go_enter Tryz.func46, Tryz.ntmps46
    go_wp2
    go_ret
    exact ⟨rfl, rfl⟩
end Go.Proofs.YtfhfkpgfnlmfhaaGreatDoor

/- The reader's readings that give up: Byte, Int, Fixed and Real beyond the end; Fixed of a wrong size. -/
namespace Go.Proofs.YtfhfkpgfnlmfhaaGreatDoor
open Go.RowKit

/-- A reading gave up beyond the end. -/
def GaveUp (w : World) (b : Nat) (bv : Value) (c : Nat) (e : Ending) (w' : World) : Prop := Faulty e c ∧ (∃ lv' l', Rd w' b lv' bv l') ∧ Kept [b] w w'
theorem GaveUp.of_end {w w' : World} {b : Nat} {lv bv pv : Value} (h : Rd w b lv bv []) (hq : Quiet w w') : GaveUp w b bv 10 (.panicked [{ v := .iface 8 pv, recovered := false }]) w' :=
  ⟨⟨8, pv, rfl, Or.inl ⟨rfl, rfl⟩⟩, ⟨lv, [], h.kept hq.kept (by simp) (by simp)⟩, hq.kept.mono (by simp)⟩
theorem GaveUp.next {w w1 w' : World} {b c : Nat} {bv : Value} {e : Ending} (k : Kept [b] w w1) (h : GaveUp w1 b bv c e w') : GaveUp w b bv c e w' :=
  ⟨h.1, h.2.1, k.trans h.2.2 (fun _ hx => Or.inl hx)⟩

set_option maxRecDepth 100000 in
set_option maxHeartbeats 400000 in
theorem take8_err {w : World} {b : Nat} {lv bv : Value} {l : List Nat} (h : Rd w b lv bv l) (hn : l.length < 1) :
    Calls Tryz.prog 63 #[.pointer (some ⟨b, 0, none⟩)] w (GaveUp w b bv 10) := by
  obtain rfl : l = [] := List.eq_nil_of_length_eq_zero (by omega)
  have HC := hide (next_end h)
  have HH := hide h
  clear h hn
  go_enter Tryz.func63, Tryz.ntmps63
  go_wp2_with (first | (go_at_call 82; refine (width8 _).mono ?_; rintro e w' ⟨rfl, rfl⟩))
  refine wp_loop_rounds 2 ?_
  rw [rounds_succ]
  go_wp2_with (first | (go_at_call 79; refine (unhide HC).mono ?_; rintro e w1 ⟨⟨pv, rfl⟩, hq⟩))
  exact ⟨rfl, GaveUp.of_end (unhide HH) hq⟩


set_option maxRecDepth 100000 in
set_option maxHeartbeats 400000 in
theorem take16_err {w : World} {b : Nat} {lv bv : Value} {l : List Nat} (h : Rd w b lv bv l) (hl : ∀ x ∈ l, x < 256) (hn : l.length < 2) :
    Calls Tryz.prog 62 #[.pointer (some ⟨b, 0, none⟩)] w (GaveUp w b bv 10) := by
  have HH := hide h
  have HL := hide hl
  clear h hl
  go_enter Tryz.func62, Tryz.ntmps62
  go_wp2_with (first | (go_at_call 81; refine (widthu16 _).mono ?_; rintro e w' ⟨rfl, rfl⟩))
  go_loopw [3, 6] (fun nv i wr => ∃ (k acc : Nat) (lv' : Value), k ≤ l.length ∧ acc < 65536 ∧ i = .int .i64 k ∧ nv = .int .u16 acc ∧ Hid (acc < 256 ^ k ∧ Rd wr b lv' bv (l.drop k) ∧ lv'.ownBlock = lv.ownBlock ∧ Kept [b] w wr)) (fun _ i _ => 2 - (intOf i).toNat)
  case atStart => exact ⟨0, 0, lv, by omega, by omega, rfl, rfl, hide ⟨by simp, by simpa using unhide HH, rfl, Kept.refl _ _⟩⟩
  case round =>
    obtain ⟨k, acc, lv', hk, ha2, rfl, rfl, HR⟩ := hrel
    by_cases hlt : k < l.length
    · have hx : l[k] < 256 := unhide HL _ (List.getElem_mem hlt)
      have hd : l.drop k = l[k] :: l.drop (k + 1) := (List.getElem_cons_drop hlt).symm
      generalize l[k] = x at *
      have HO := hide (or_at16 k acc x (by omega) (unhide HR).1 hx)
      have HRD : Hid (Rd wr b lv' bv (x :: l.drop (k + 1)) ∧ lv'.ownBlock = lv.ownBlock ∧ Kept [b] w wr) := by rw [← hd]; exact hide (unhide HR).2
      clear hd HR
      go_wp2_with (first | (go_at_call 79; refine (next_ok (unhide HRD).1).mono ?_; rintro e w1 ⟨rfl, lv2, hr2, ho2, hk2⟩; have HR2 := hide hr2; clear hr2))
      go_roundw
      case rel =>
        refine ⟨k + 1, acc + x * 256 ^ k, lv2, by omega, ?_, by go_num, by rw [← (unhide HO).1]; try rw [IntKind.wrap_u16], hide ⟨(unhide HO).2, unhide HR2, ho2.trans (unhide HRD).2.1, (unhide HRD).2.2.trans hk2 (fun y hy => Or.inl hy)⟩⟩
        refine Nat.lt_of_lt_of_le (unhide HO).2 ?_
        exact Nat.le_trans (Nat.pow_le_pow_right (by omega) (show k + 1 ≤ 2 by omega)) (by decide)
      case measure => simp [intOf]; omega
    · have hz : l.drop k = [] := List.drop_eq_nil_of_le (by omega)
      have hrd := (unhide HR).2.1
      rw [hz] at hrd
      have HRD : Hid (Rd wr b lv' bv [] ∧ Kept [b] w wr) := hide ⟨hrd, (unhide HR).2.2.2⟩
      clear hz HR hrd
      go_wp2_with (first | (go_at_call 79; refine (next_end (unhide HRD).1).mono ?_; rintro e w1 ⟨⟨pv, rfl⟩, hq⟩))
      exact ⟨rfl, (GaveUp.of_end (unhide HRD).1 hq).next (unhide HRD).2⟩


set_option maxRecDepth 100000 in
set_option maxHeartbeats 400000 in
theorem take32_err {w : World} {b : Nat} {lv bv : Value} {l : List Nat} (h : Rd w b lv bv l) (hl : ∀ x ∈ l, x < 256) (hn : l.length < 4) :
    Calls Tryz.prog 61 #[.pointer (some ⟨b, 0, none⟩)] w (GaveUp w b bv 10) := by
  have HH := hide h
  have HL := hide hl
  clear h hl
  go_enter Tryz.func61, Tryz.ntmps61
  go_wp2_with (first | (go_at_call 80; refine (widthu32 _).mono ?_; rintro e w' ⟨rfl, rfl⟩))
  go_loopw [3, 6] (fun nv i wr => ∃ (k acc : Nat) (lv' : Value), k ≤ l.length ∧ acc < 4294967296 ∧ i = .int .i64 k ∧ nv = .int .u32 acc ∧ Hid (acc < 256 ^ k ∧ Rd wr b lv' bv (l.drop k) ∧ lv'.ownBlock = lv.ownBlock ∧ Kept [b] w wr)) (fun _ i _ => 4 - (intOf i).toNat)
  case atStart => exact ⟨0, 0, lv, by omega, by omega, rfl, rfl, hide ⟨by simp, by simpa using unhide HH, rfl, Kept.refl _ _⟩⟩
  case round =>
    obtain ⟨k, acc, lv', hk, ha2, rfl, rfl, HR⟩ := hrel
    by_cases hlt : k < l.length
    · have hx : l[k] < 256 := unhide HL _ (List.getElem_mem hlt)
      have hd : l.drop k = l[k] :: l.drop (k + 1) := (List.getElem_cons_drop hlt).symm
      generalize l[k] = x at *
      have HO := hide (or_at32 k acc x (by omega) (unhide HR).1 hx)
      have HRD : Hid (Rd wr b lv' bv (x :: l.drop (k + 1)) ∧ lv'.ownBlock = lv.ownBlock ∧ Kept [b] w wr) := by rw [← hd]; exact hide (unhide HR).2
      clear hd HR
      go_wp2_with (first | (go_at_call 79; refine (next_ok (unhide HRD).1).mono ?_; rintro e w1 ⟨rfl, lv2, hr2, ho2, hk2⟩; have HR2 := hide hr2; clear hr2))
      go_roundw
      case rel =>
        refine ⟨k + 1, acc + x * 256 ^ k, lv2, by omega, ?_, by go_num, by rw [← (unhide HO).1]; try rw [IntKind.wrap_u32], hide ⟨(unhide HO).2, unhide HR2, ho2.trans (unhide HRD).2.1, (unhide HRD).2.2.trans hk2 (fun y hy => Or.inl hy)⟩⟩
        refine Nat.lt_of_lt_of_le (unhide HO).2 ?_
        exact Nat.le_trans (Nat.pow_le_pow_right (by omega) (show k + 1 ≤ 4 by omega)) (by decide)
      case measure => simp [intOf]; omega
    · have hz : l.drop k = [] := List.drop_eq_nil_of_le (by omega)
      have hrd := (unhide HR).2.1
      rw [hz] at hrd
      have HRD : Hid (Rd wr b lv' bv [] ∧ Kept [b] w wr) := hide ⟨hrd, (unhide HR).2.2.2⟩
      clear hz HR hrd
      go_wp2_with (first | (go_at_call 79; refine (next_end (unhide HRD).1).mono ?_; rintro e w1 ⟨⟨pv, rfl⟩, hq⟩))
      exact ⟨rfl, (GaveUp.of_end (unhide HRD).1 hq).next (unhide HRD).2⟩


set_option maxRecDepth 100000 in
set_option maxHeartbeats 400000 in
theorem take64_err {w : World} {b : Nat} {lv bv : Value} {l : List Nat} (h : Rd w b lv bv l) (hl : ∀ x ∈ l, x < 256) (hn : l.length < 8) :
    Calls Tryz.prog 60 #[.pointer (some ⟨b, 0, none⟩)] w (GaveUp w b bv 10) := by
  have HH := hide h
  have HL := hide hl
  clear h hl
  go_enter Tryz.func60, Tryz.ntmps60
  go_wp2_with (first | (go_at_call 78; refine (widthu64 _).mono ?_; rintro e w' ⟨rfl, rfl⟩))
  go_loopw [3, 6] (fun nv i wr => ∃ (k acc : Nat) (lv' : Value), k ≤ l.length ∧ acc < 18446744073709551616 ∧ i = .int .i64 k ∧ nv = .int .u64 acc ∧ Hid (acc < 256 ^ k ∧ Rd wr b lv' bv (l.drop k) ∧ lv'.ownBlock = lv.ownBlock ∧ Kept [b] w wr)) (fun _ i _ => 8 - (intOf i).toNat)
  case atStart => exact ⟨0, 0, lv, by omega, by omega, rfl, rfl, hide ⟨by simp, by simpa using unhide HH, rfl, Kept.refl _ _⟩⟩
  case round =>
    obtain ⟨k, acc, lv', hk, ha2, rfl, rfl, HR⟩ := hrel
    by_cases hlt : k < l.length
    · have hx : l[k] < 256 := unhide HL _ (List.getElem_mem hlt)
      have hd : l.drop k = l[k] :: l.drop (k + 1) := (List.getElem_cons_drop hlt).symm
      generalize l[k] = x at *
      have HO := hide (or_at64 k acc x (by omega) (unhide HR).1 hx)
      have HRD : Hid (Rd wr b lv' bv (x :: l.drop (k + 1)) ∧ lv'.ownBlock = lv.ownBlock ∧ Kept [b] w wr) := by rw [← hd]; exact hide (unhide HR).2
      clear hd HR
      go_wp2_with (first | (go_at_call 79; refine (next_ok (unhide HRD).1).mono ?_; rintro e w1 ⟨rfl, lv2, hr2, ho2, hk2⟩; have HR2 := hide hr2; clear hr2))
      go_roundw
      case rel =>
        refine ⟨k + 1, acc + x * 256 ^ k, lv2, by omega, ?_, by go_num, by rw [← (unhide HO).1]; try rw [IntKind.wrap_u64], hide ⟨(unhide HO).2, unhide HR2, ho2.trans (unhide HRD).2.1, (unhide HRD).2.2.trans hk2 (fun y hy => Or.inl hy)⟩⟩
        refine Nat.lt_of_lt_of_le (unhide HO).2 ?_
        exact Nat.le_trans (Nat.pow_le_pow_right (by omega) (show k + 1 ≤ 8 by omega)) (by decide)
      case measure => simp [intOf]; omega
    · have hz : l.drop k = [] := List.drop_eq_nil_of_le (by omega)
      have hrd := (unhide HR).2.1
      rw [hz] at hrd
      have HRD : Hid (Rd wr b lv' bv [] ∧ Kept [b] w wr) := hide ⟨hrd, (unhide HR).2.2.2⟩
      clear hz HR hrd
      go_wp2_with (first | (go_at_call 79; refine (next_end (unhide HRD).1).mono ?_; rintro e w1 ⟨⟨pv, rfl⟩, hq⟩))
      exact ⟨rfl, (GaveUp.of_end (unhide HRD).1 hq).next (unhide HRD).2⟩


set_option maxRecDepth 100000 in
set_option maxHeartbeats 400000 in
theorem takeFixedE1 {w : World} {b : Nat} {lv bv : Value} {l : List Nat} (h : Rd w b lv bv l) (hl : ∀ x ∈ l, x < 256) (hn : l.length < 1) :
    Calls Tryz.prog 43 #[.pointer (some ⟨b, 0, none⟩), .int .i64 1] w (GaveUp w b bv 10) := by
  have m4 : bits .and .i64 1 4 = 0 := by decide
  have m2 : bits .and .i64 1 2 = 0 := by decide
  have m1 : bits .and .i64 1 1 = 1 := by decide
  have HL := hide hl
  have HN := hide hn
  have H0 := hide h
  have hw0 := Kept.refl [b] w
  have ho0 : lv.ownBlock = lv.ownBlock := rfl
  clear h hl hn
  go_enter Tryz.func43, Tryz.ntmps43
  go_wp2_with fail
  refine (take8_err (unhide H0) (by have := unhide HN; first | omega | (simp; omega))).mono ?_
  rintro e w9 ⟨⟨u, pv, rfl, hu⟩, hrd, hk⟩
  have HG : Hid (GaveUp w b bv 10 (.panicked [{ v := .iface u pv, recovered := false }]) w9) := hide (GaveUp.next hw0 ⟨⟨u, pv, rfl, hu⟩, hrd, hk⟩)
  clear hrd hk hu
  go_wp2
  exact ⟨rfl, unhide HG⟩

set_option maxRecDepth 100000 in
set_option maxHeartbeats 400000 in
theorem takeFixedE2 {w : World} {b : Nat} {lv bv : Value} {l : List Nat} (h : Rd w b lv bv l) (hl : ∀ x ∈ l, x < 256) (hn : l.length < 2) :
    Calls Tryz.prog 43 #[.pointer (some ⟨b, 0, none⟩), .int .i64 2] w (GaveUp w b bv 10) := by
  have m4 : bits .and .i64 2 4 = 0 := by decide
  have m2 : bits .and .i64 2 2 = 2 := by decide
  have m1 : bits .and .i64 2 1 = 0 := by decide
  have HL := hide hl
  have HN := hide hn
  have H0 := hide h
  have hw0 := Kept.refl [b] w
  have ho0 : lv.ownBlock = lv.ownBlock := rfl
  clear h hl hn
  go_enter Tryz.func43, Tryz.ntmps43
  go_wp2_with fail
  refine (take16_err (unhide H0) (unhide HL) (by have := unhide HN; first | omega | (simp; omega))).mono ?_
  rintro e w9 ⟨⟨u, pv, rfl, hu⟩, hrd, hk⟩
  have HG : Hid (GaveUp w b bv 10 (.panicked [{ v := .iface u pv, recovered := false }]) w9) := hide (GaveUp.next hw0 ⟨⟨u, pv, rfl, hu⟩, hrd, hk⟩)
  clear hrd hk hu
  go_wp2
  exact ⟨rfl, unhide HG⟩

set_option maxRecDepth 100000 in
set_option maxHeartbeats 400000 in
theorem takeFixedE3 {w : World} {b : Nat} {lv bv : Value} {l : List Nat} (h : Rd w b lv bv l) (hl : ∀ x ∈ l, x < 256) (hn : l.length < 3) :
    Calls Tryz.prog 43 #[.pointer (some ⟨b, 0, none⟩), .int .i64 3] w (GaveUp w b bv 10) := by
  have m4 : bits .and .i64 3 4 = 0 := by decide
  have m2 : bits .and .i64 3 2 = 2 := by decide
  have m1 : bits .and .i64 3 1 = 1 := by decide
  have HL := hide hl
  have HN := hide hn
  have H0 := hide h
  have hw0 := Kept.refl [b] w
  have ho0 : lv.ownBlock = lv.ownBlock := rfl
  clear h hl hn
  go_enter Tryz.func43, Tryz.ntmps43
  go_wp2_with fail
  by_cases hc0 : l.length < 2
  · refine (take16_err (unhide H0) (unhide HL) (by first | omega | (simp; omega))).mono ?_
    rintro e w9 ⟨⟨u, pv, rfl, hu⟩, hrd, hk⟩
    have HG : Hid (GaveUp w b bv 10 (.panicked [{ v := .iface u pv, recovered := false }]) w9) := hide (GaveUp.next hw0 ⟨⟨u, pv, rfl, hu⟩, hrd, hk⟩)
    clear hrd hk hu
    go_wp2
    exact ⟨rfl, unhide HG⟩
  · refine (part16 (unhide H0) (unhide HL) (by first | omega | (simp; omega))).mono ?_
    rintro e w1 ⟨v1, rfl, b1, V1, t1⟩
    obtain ⟨lv1, hr1, ho1, hw1⟩ := t1
    have H1 := hide hr1
    clear hr1 V1
    go_wp2_with fail
    refine (take8_err (unhide H1) (by have := unhide HN; first | omega | (simp; omega))).mono ?_
    rintro e w9 ⟨⟨u, pv, rfl, hu⟩, hrd, hk⟩
    have HG : Hid (GaveUp w b bv 10 (.panicked [{ v := .iface u pv, recovered := false }]) w9) := hide (GaveUp.next hw1 ⟨⟨u, pv, rfl, hu⟩, hrd, hk⟩)
    clear hrd hk hu
    go_wp2
    exact ⟨rfl, unhide HG⟩

set_option maxRecDepth 100000 in
set_option maxHeartbeats 400000 in
theorem takeFixedE4 {w : World} {b : Nat} {lv bv : Value} {l : List Nat} (h : Rd w b lv bv l) (hl : ∀ x ∈ l, x < 256) (hn : l.length < 4) :
    Calls Tryz.prog 43 #[.pointer (some ⟨b, 0, none⟩), .int .i64 4] w (GaveUp w b bv 10) := by
  have m4 : bits .and .i64 4 4 = 4 := by decide
  have m2 : bits .and .i64 4 2 = 0 := by decide
  have m1 : bits .and .i64 4 1 = 0 := by decide
  have HL := hide hl
  have HN := hide hn
  have H0 := hide h
  have hw0 := Kept.refl [b] w
  have ho0 : lv.ownBlock = lv.ownBlock := rfl
  clear h hl hn
  go_enter Tryz.func43, Tryz.ntmps43
  go_wp2_with fail
  refine (take32_err (unhide H0) (unhide HL) (by have := unhide HN; first | omega | (simp; omega))).mono ?_
  rintro e w9 ⟨⟨u, pv, rfl, hu⟩, hrd, hk⟩
  have HG : Hid (GaveUp w b bv 10 (.panicked [{ v := .iface u pv, recovered := false }]) w9) := hide (GaveUp.next hw0 ⟨⟨u, pv, rfl, hu⟩, hrd, hk⟩)
  clear hrd hk hu
  go_wp2
  exact ⟨rfl, unhide HG⟩

set_option maxRecDepth 100000 in
set_option maxHeartbeats 400000 in
theorem takeFixedE5 {w : World} {b : Nat} {lv bv : Value} {l : List Nat} (h : Rd w b lv bv l) (hl : ∀ x ∈ l, x < 256) (hn : l.length < 5) :
    Calls Tryz.prog 43 #[.pointer (some ⟨b, 0, none⟩), .int .i64 5] w (GaveUp w b bv 10) := by
  have m4 : bits .and .i64 5 4 = 4 := by decide
  have m2 : bits .and .i64 5 2 = 0 := by decide
  have m1 : bits .and .i64 5 1 = 1 := by decide
  have HL := hide hl
  have HN := hide hn
  have H0 := hide h
  have hw0 := Kept.refl [b] w
  have ho0 : lv.ownBlock = lv.ownBlock := rfl
  clear h hl hn
  go_enter Tryz.func43, Tryz.ntmps43
  go_wp2_with fail
  by_cases hc0 : l.length < 4
  · refine (take32_err (unhide H0) (unhide HL) (by first | omega | (simp; omega))).mono ?_
    rintro e w9 ⟨⟨u, pv, rfl, hu⟩, hrd, hk⟩
    have HG : Hid (GaveUp w b bv 10 (.panicked [{ v := .iface u pv, recovered := false }]) w9) := hide (GaveUp.next hw0 ⟨⟨u, pv, rfl, hu⟩, hrd, hk⟩)
    clear hrd hk hu
    go_wp2
    exact ⟨rfl, unhide HG⟩
  · refine (part32 (unhide H0) (unhide HL) (by first | omega | (simp; omega))).mono ?_
    rintro e w1 ⟨v1, rfl, b1, V1, t1⟩
    obtain ⟨lv1, hr1, ho1, hw1⟩ := t1
    have H1 := hide hr1
    clear hr1 V1
    go_wp2_with fail
    refine (take8_err (unhide H1) (by have := unhide HN; first | omega | (simp; omega))).mono ?_
    rintro e w9 ⟨⟨u, pv, rfl, hu⟩, hrd, hk⟩
    have HG : Hid (GaveUp w b bv 10 (.panicked [{ v := .iface u pv, recovered := false }]) w9) := hide (GaveUp.next hw1 ⟨⟨u, pv, rfl, hu⟩, hrd, hk⟩)
    clear hrd hk hu
    go_wp2
    exact ⟨rfl, unhide HG⟩

set_option maxRecDepth 100000 in
set_option maxHeartbeats 400000 in
theorem takeFixedE6 {w : World} {b : Nat} {lv bv : Value} {l : List Nat} (h : Rd w b lv bv l) (hl : ∀ x ∈ l, x < 256) (hn : l.length < 6) :
    Calls Tryz.prog 43 #[.pointer (some ⟨b, 0, none⟩), .int .i64 6] w (GaveUp w b bv 10) := by
  have m4 : bits .and .i64 6 4 = 4 := by decide
  have m2 : bits .and .i64 6 2 = 2 := by decide
  have m1 : bits .and .i64 6 1 = 0 := by decide
  have HL := hide hl
  have HN := hide hn
  have H0 := hide h
  have hw0 := Kept.refl [b] w
  have ho0 : lv.ownBlock = lv.ownBlock := rfl
  clear h hl hn
  go_enter Tryz.func43, Tryz.ntmps43
  go_wp2_with fail
  by_cases hc0 : l.length < 4
  · refine (take32_err (unhide H0) (unhide HL) (by first | omega | (simp; omega))).mono ?_
    rintro e w9 ⟨⟨u, pv, rfl, hu⟩, hrd, hk⟩
    have HG : Hid (GaveUp w b bv 10 (.panicked [{ v := .iface u pv, recovered := false }]) w9) := hide (GaveUp.next hw0 ⟨⟨u, pv, rfl, hu⟩, hrd, hk⟩)
    clear hrd hk hu
    go_wp2
    exact ⟨rfl, unhide HG⟩
  · refine (part32 (unhide H0) (unhide HL) (by first | omega | (simp; omega))).mono ?_
    rintro e w1 ⟨v1, rfl, b1, V1, t1⟩
    obtain ⟨lv1, hr1, ho1, hw1⟩ := t1
    have H1 := hide hr1
    clear hr1 V1
    go_wp2_with fail
    refine (take16_err (unhide H1) (fun x hx => unhide HL x (List.mem_of_mem_drop hx)) (by have := unhide HN; first | omega | (simp; omega))).mono ?_
    rintro e w9 ⟨⟨u, pv, rfl, hu⟩, hrd, hk⟩
    have HG : Hid (GaveUp w b bv 10 (.panicked [{ v := .iface u pv, recovered := false }]) w9) := hide (GaveUp.next hw1 ⟨⟨u, pv, rfl, hu⟩, hrd, hk⟩)
    clear hrd hk hu
    go_wp2
    exact ⟨rfl, unhide HG⟩

set_option maxRecDepth 100000 in
set_option maxHeartbeats 400000 in
theorem takeFixedE7 {w : World} {b : Nat} {lv bv : Value} {l : List Nat} (h : Rd w b lv bv l) (hl : ∀ x ∈ l, x < 256) (hn : l.length < 7) :
    Calls Tryz.prog 43 #[.pointer (some ⟨b, 0, none⟩), .int .i64 7] w (GaveUp w b bv 10) := by
  have m4 : bits .and .i64 7 4 = 4 := by decide
  have m2 : bits .and .i64 7 2 = 2 := by decide
  have m1 : bits .and .i64 7 1 = 1 := by decide
  have HL := hide hl
  have HN := hide hn
  have H0 := hide h
  have hw0 := Kept.refl [b] w
  have ho0 : lv.ownBlock = lv.ownBlock := rfl
  clear h hl hn
  go_enter Tryz.func43, Tryz.ntmps43
  go_wp2_with fail
  by_cases hc0 : l.length < 4
  · refine (take32_err (unhide H0) (unhide HL) (by first | omega | (simp; omega))).mono ?_
    rintro e w9 ⟨⟨u, pv, rfl, hu⟩, hrd, hk⟩
    have HG : Hid (GaveUp w b bv 10 (.panicked [{ v := .iface u pv, recovered := false }]) w9) := hide (GaveUp.next hw0 ⟨⟨u, pv, rfl, hu⟩, hrd, hk⟩)
    clear hrd hk hu
    go_wp2
    exact ⟨rfl, unhide HG⟩
  · refine (part32 (unhide H0) (unhide HL) (by first | omega | (simp; omega))).mono ?_
    rintro e w1 ⟨v1, rfl, b1, V1, t1⟩
    obtain ⟨lv1, hr1, ho1, hw1⟩ := t1
    have H1 := hide hr1
    clear hr1 V1
    go_wp2_with fail
    by_cases hc1 : l.length < 6
    · refine (take16_err (unhide H1) (fun x hx => unhide HL x (List.mem_of_mem_drop hx)) (by first | omega | (simp; omega))).mono ?_
      rintro e w9 ⟨⟨u, pv, rfl, hu⟩, hrd, hk⟩
      have HG : Hid (GaveUp w b bv 10 (.panicked [{ v := .iface u pv, recovered := false }]) w9) := hide (GaveUp.next hw1 ⟨⟨u, pv, rfl, hu⟩, hrd, hk⟩)
      clear hrd hk hu
      go_wp2
      exact ⟨rfl, unhide HG⟩
    · refine (part16 (unhide H1) (fun x hx => unhide HL x (List.mem_of_mem_drop hx)) (by first | omega | (simp; omega))).mono ?_
      rintro e w2 ⟨v2, rfl, b2, V2, t2⟩
      replace t2 := TakeN.next ho1 hw1 t2
      obtain ⟨lv2, hr2, ho2, hw2⟩ := t2
      have H2 := hide hr2
      clear hr2 V2
      go_wp2_with fail
      refine (take8_err (unhide H2) (by have := unhide HN; first | omega | (simp; omega))).mono ?_
      rintro e w9 ⟨⟨u, pv, rfl, hu⟩, hrd, hk⟩
      have HG : Hid (GaveUp w b bv 10 (.panicked [{ v := .iface u pv, recovered := false }]) w9) := hide (GaveUp.next hw2 ⟨⟨u, pv, rfl, hu⟩, hrd, hk⟩)
      clear hrd hk hu
      go_wp2
      exact ⟨rfl, unhide HG⟩

set_option maxRecDepth 100000 in
set_option maxHeartbeats 400000 in
theorem takeFixedE8 {w : World} {b : Nat} {lv bv : Value} {l : List Nat} (h : Rd w b lv bv l) (hl : ∀ x ∈ l, x < 256) (hn : l.length < 8) :
    Calls Tryz.prog 43 #[.pointer (some ⟨b, 0, none⟩), .int .i64 8] w (GaveUp w b bv 10) := by
  have m4 : bits .and .i64 8 4 = 0 := by decide
  have m2 : bits .and .i64 8 2 = 0 := by decide
  have m1 : bits .and .i64 8 1 = 0 := by decide
  have HL := hide hl
  have HN := hide hn
  have H0 := hide h
  have hw0 := Kept.refl [b] w
  have ho0 : lv.ownBlock = lv.ownBlock := rfl
  clear h hl hn
  go_enter Tryz.func43, Tryz.ntmps43
  go_wp2_with fail
  refine (take64_err (unhide H0) (unhide HL) (by have := unhide HN; first | omega | (simp; omega))).mono ?_
  rintro e w9 ⟨⟨u, pv, rfl, hu⟩, hrd, hk⟩
  have HG : Hid (GaveUp w b bv 10 (.panicked [{ v := .iface u pv, recovered := false }]) w9) := hide (GaveUp.next hw0 ⟨⟨u, pv, rfl, hu⟩, hrd, hk⟩)
  clear hrd hk hu
  go_wp2
  exact ⟨rfl, unhide HG⟩

theorem takeFixed_err {w : World} {b : Nat} {lv bv : Value} {l : List Nat} (h : Rd w b lv bv l) (hl : ∀ x ∈ l, x < 256) (size : Nat) (h1 : 1 ≤ size) (h8 : size ≤ 8) (hn : l.length < size) :
    Calls Tryz.prog 43 #[.pointer (some ⟨b, 0, none⟩), .int .i64 size] w (GaveUp w b bv 10) := by
  match size, h1, h8, hn with
  | 1, _, _, hn => exact takeFixedE1 h hl hn
  | 2, _, _, hn => exact takeFixedE2 h hl hn
  | 3, _, _, hn => exact takeFixedE3 h hl hn
  | 4, _, _, hn => exact takeFixedE4 h hl hn
  | 5, _, _, hn => exact takeFixedE5 h hl hn
  | 6, _, _, hn => exact takeFixedE6 h hl hn
  | 7, _, _, hn => exact takeFixedE7 h hl hn
  | 8, _, _, hn => exact takeFixedE8 h hl hn
end Go.Proofs.YtfhfkpgfnlmfhaaGreatDoor

/- The reader's calls that give up, and all calls on a reader with a fault. -/
namespace Go.Proofs.YtfhfkpgfnlmfhaaGreatDoor
open Go.RowKit

theorem enByte (a : Array Value) (w : World) : (callFunc 115 a).run Tryz.prog w = .ok (.enter 115 a) w := by kernel_rfl
theorem enFixed (a : Array Value) (w : World) : (callFunc 41 a).run Tryz.prog w = .ok (.enter 41 a) w := by kernel_rfl

set_option maxRecDepth 100000 in
set_option maxHeartbeats 400000 in
theorem clos_byte_err {w : World} {b : Nat} {lv bv : Value} {l : List Nat} (h : Rd w b lv bv l) (hn : l.length < 1) (p q : Nat) (hp : w.cell? ⟨p, 0, none⟩ = some (.pointer (some ⟨b, 0, none⟩))) :
    Calls Tryz.prog 115 #[.pointer (some ⟨p, 0, none⟩), .pointer (some ⟨q, 0, none⟩)] w (GaveUp w b bv 10) := by
  have HC := hide (take8_err h hn)
  clear h hn
  go_enter Tryz.func115, Tryz.ntmps115
  go_wp2_with fail
  refine (unhide HC).mono ?_
  rintro e w1 ⟨⟨u, pv, rfl, hu⟩, hrd, hk⟩
  have HU := hide hu
  clear hu
  go_wp2
  exact ⟨rfl, ⟨u, pv, rfl, by simpa using unhide HU⟩, hrd, hk⟩

set_option maxRecDepth 100000 in
set_option maxHeartbeats 400000 in
theorem clos_fixed_err {w : World} {b : Nat} {lv bv : Value} {l : List Nat} (h : Rd w b lv bv l) (hl : ∀ x ∈ l, x < 256) (size : Int) (ps pr q c : Nat) (hps : w.cell? ⟨ps, 0, none⟩ = some (.int .i64 size)) (hpr : w.cell? ⟨pr, 0, none⟩ = some (.pointer (some ⟨b, 0, none⟩)))
    (hr : ((size < 1 ∨ 8 < size) ∧ c = 2) ∨ (1 ≤ size ∧ size ≤ 8 ∧ (l.length : Int) < size ∧ c = 10)) :
    Calls Tryz.prog 41 #[.pointer (some ⟨ps, 0, none⟩), .pointer (some ⟨pr, 0, none⟩), .pointer (some ⟨q, 0, none⟩)] w (GaveUp w b bv c) := by
  have HH := hide h
  rcases hr with ⟨hs, rfl⟩ | ⟨h1, h8, hn, rfl⟩
  · by_cases hs1 : size < 1
    · have b1 : decide (size < 1) = true := by simpa using hs1
      clear h hl hs hs1
      go_enter Tryz.func41, Tryz.ntmps41
      go_wp2_with (first | (go_at_call 42; refine (refuse_yes _ _).mono ?_; rintro e w'' ⟨rfl, rfl⟩))
      exact ⟨rfl, ⟨26, _, rfl, Or.inr ⟨rfl, rfl⟩⟩, ⟨_, _, unhide HH⟩, Kept.refl _ _⟩
    · have b1 : decide (size < 1) = false := by simpa using hs1
      have b2 : decide (8 < size) = true := by simp; omega
      clear h hl hs hs1
      go_enter Tryz.func41, Tryz.ntmps41
      go_wp2_with (first | (go_at_call 42; refine (refuse_yes _ _).mono ?_; rintro e w'' ⟨rfl, rfl⟩))
      exact ⟨rfl, ⟨26, _, rfl, Or.inr ⟨rfl, rfl⟩⟩, ⟨_, _, unhide HH⟩, Kept.refl _ _⟩
  · obtain ⟨n, rfl⟩ := Int.eq_ofNat_of_zero_le (show 0 ≤ size by omega)
    have HC := hide (takeFixed_err h hl n (by omega) (by omega) (by omega))
    have b1 : decide ((n : Int) < 1) = false := by simp; omega
    have b2 : decide (8 < (n : Int)) = false := by simp; omega
    clear h hl h1 h8 hn
    go_enter Tryz.func41, Tryz.ntmps41
    go_wp2_with (first | (go_at_call 42; refine (refuse_no _ _).mono ?_; rintro e w'' ⟨rfl, rfl⟩))
    refine (unhide HC).mono ?_
    rintro e w1 ⟨⟨u, pv, rfl, hu⟩, hrd, hk⟩
    have HU := hide hu
    clear hu
    go_wp2
    exact ⟨rfl, ⟨u, pv, rfl, by simpa using unhide HU⟩, hrd, hk⟩


set_option maxRecDepth 100000 in
set_option maxHeartbeats 400000 in
theorem rbyte_err {w : World} {b : Nat} {lv bv : Value} {l : List Nat} (h : Rd w b lv bv l) (hn : l.length < 1) :
    Calls Tryz.prog 112 #[.pointer (some ⟨b, 0, none⟩)] w fun e w' => e = .returned (.int .i64 0) ∧ RdF w' b 10 ∧ Kept [b] w w' := by
  have hmf : ∀ (fn : Fn) (first cap : Array Value) (w : World), (Instr.makeFunc fn first cap).run Tryz.prog w = .ok (.func fn first cap) w := fun _ _ _ _ => rfl
  obtain ⟨hb, hlo⟩ := rd_lt h
  have hface : Calls Tryz.prog 40 #[.pointer (some ⟨b, 0, none⟩), .func (.func 115) #[] #[.pointer (some ⟨w.heap.size, 0, none⟩), .pointer (some ⟨w.heap.size + 1, 0, none⟩)]]
      ((w.alloc (.cells #[.pointer (some ⟨b, 0, none⟩)] 40)).alloc (.cells #[.int .i64 0] 3)) fun e w' => e = .returned (.tuple #[]) ∧ RdF w' b 10 ∧ Blk w' (w.heap.size + 1) #[.int .i64 0] 3 ∧ Kept [b] ((w.alloc (.cells #[.pointer (some ⟨b, 0, none⟩)] 40)).alloc (.cells #[.int .i64 0] 3)) w' := by
    have h2 := (h.alloc (.cells #[.pointer (some ⟨b, 0, none⟩)] 40)).alloc (.cells #[.int .i64 0] 3)
    have b1 : Blk ((w.alloc (.cells #[.pointer (some ⟨b, 0, none⟩)] 40)).alloc (.cells #[.int .i64 0] 3)) w.heap.size #[.pointer (some ⟨b, 0, none⟩)] 40 := (Blk.new _ _ _).alloc _
    have b2 : Blk ((w.alloc (.cells #[.pointer (some ⟨b, 0, none⟩)] 40)).alloc (.cells #[.int .i64 0] 3)) (w.heap.size + 1) #[.int .i64 0] 3 := by
      have := Blk.new (w.alloc (.cells #[.pointer (some ⟨b, 0, none⟩)] 40)) #[.int .i64 0] 3
      simpa using this
    refine (face_err h2 _ 10 (enByte _) ?_).mono ?_
    · intro w3 k3
      exact clos_byte_err (h2.kept k3 (by simp) (by simp)) hn w.heap.size (w.heap.size + 1) (blk1 (b1.kept k3 (by simp)))
    · rintro e w' ⟨rfl, g1, g2⟩
      exact ⟨rfl, g1, b2.kept g2 (by simp; omega), g2⟩
  have HF := hide hface
  clear hface h hn
  go_enter Tryz.func112, Tryz.ntmps112
  go_wp2_with fail
  refine (unhide HF).mono ?_
  rintro e w1 ⟨rfl, hrd, hq, hk⟩
  have hc := blk1 hq
  have HR := hide hrd
  clear hq hrd
  go_wp2
  go_ret
  refine ⟨rfl, unhide HR, ?_⟩
  exact ((((Kept.refl [] w).alloc _).alloc _).mono (G := [b]) (by simp)).trans hk (fun x hx => Or.inl hx)


set_option maxRecDepth 100000 in
set_option maxHeartbeats 400000 in
theorem rfixed_err {w : World} {b : Nat} {lv bv : Value} {l : List Nat} (h : Rd w b lv bv l) (hl : ∀ x ∈ l, x < 256) (size : Int) (c : Nat) (hr : ((size < 1 ∨ 8 < size) ∧ c = 2) ∨ (1 ≤ size ∧ size ≤ 8 ∧ (l.length : Int) < size ∧ c = 10)) :
    Calls Tryz.prog 14 #[.pointer (some ⟨b, 0, none⟩), .int .i64 size] w fun e w' => e = .returned (.int .u64 0) ∧ RdF w' b c ∧ Kept [b] w w' := by
  have hmf : ∀ (fn : Fn) (first cap : Array Value) (w : World), (Instr.makeFunc fn first cap).run Tryz.prog w = .ok (.func fn first cap) w := fun _ _ _ _ => rfl
  obtain ⟨k0, hsz, b1, b2, b3⟩ := W3n_facts w b size
  obtain ⟨hb, hlo⟩ := rd_lt h
  have hface : Calls Tryz.prog 40 #[.pointer (some ⟨b, 0, none⟩), .func (.func 41) #[] #[.pointer (some ⟨w.heap.size + 1, 0, none⟩), .pointer (some ⟨w.heap.size, 0, none⟩), .pointer (some ⟨w.heap.size + 2, 0, none⟩)]] (W3n w b size)
      fun e w' => e = .returned (.tuple #[]) ∧ RdF w' b c ∧ Blk w' (w.heap.size + 2) #[.int .u64 0] 23 ∧ Kept [b] (W3n w b size) w' := by
    refine (face_err (h.kept k0 (by simp) (by simp)) _ c (enFixed _) ?_).mono ?_
    · intro w3 k3
      exact clos_fixed_err ((h.kept k0 (by simp) (by simp)).kept k3 (by simp) (by simp)) hl size _ _ _ c (blk1 (b2.kept k3 (by simp))) (blk1 (b1.kept k3 (by simp))) hr
    · rintro e w' ⟨rfl, g1, g2⟩
      exact ⟨rfl, g1, b3.kept g2 (by simp; omega), g2⟩
  have HF := hide hface
  have HK0 := hide k0
  clear hface h b1 b2 b3 k0 hsz hl hr
  unfold W3n at HF HK0
  go_enter Tryz.func14, Tryz.ntmps14
  go_wp2_with fail
  refine (unhide HF).mono ?_
  rintro e w1 ⟨rfl, hrd, hq, hk⟩
  have hc := blk1 hq
  have HR := hide hrd
  clear hq hrd
  go_wp2
  go_ret
  exact ⟨rfl, unhide HR, ((unhide HK0).mono (by simp)).trans hk (fun x hx => Or.inl hx)⟩

/-! On a reader with a fault. -/
set_option maxRecDepth 100000 in
set_option maxHeartbeats 400000 in
theorem take_fault {w : World} {b c : Nat} (h : RdF w b c) (hc : c ≠ 0) (fv : Value) :
    Calls Tryz.prog 40 #[.pointer (some ⟨b, 0, none⟩), fv] w fun e w' => e = .returned (.tuple #[]) ∧ Kept [] w w' := by
  have c2' : (w.alloc (.cells #[.pointer (some ⟨b, 0, none⟩)] 40)).cell? ⟨b, 2, none⟩ = some (.int .i64 c) := (blk3 (Blk.alloc h _)).2.2
  have hn : ((c : Int) != 0) = true := by rw [bne_iff_ne]; omega
  have hb := Blk.lt h
  clear h hc
  go_enter_defers Tryz.func40, Tryz.ntmps40
  go_wp2

  simp [bodyPostD, Leaves, results, Tryz.results40, go_sem]
  exact (Kept.refl [] w).alloc _


set_option maxRecDepth 100000 in
set_option maxHeartbeats 400000 in
theorem rbyte_fault {w : World} {b c : Nat} (h : RdF w b c) (hc : c ≠ 0) :
    Calls Tryz.prog 112 #[.pointer (some ⟨b, 0, none⟩)] w fun e w' => e = .returned (.int .i64 0) ∧ Kept [] w w' := by
  have hmf : ∀ (fn : Fn) (first cap : Array Value) (w : World), (Instr.makeFunc fn first cap).run Tryz.prog w = .ok (.func fn first cap) w := fun _ _ _ _ => rfl
  have hq : Blk ((w.alloc (.cells #[.pointer (some ⟨b, 0, none⟩)] 40)).alloc (.cells #[.int .i64 0] 3)) (w.heap.size + 1) #[.int .i64 0] 3 := by
    have := Blk.new (w.alloc (.cells #[.pointer (some ⟨b, 0, none⟩)] 40)) #[.int .i64 0] 3
    simpa using this
  have HF : Hid (∀ fv, Calls Tryz.prog 40 #[.pointer (some ⟨b, 0, none⟩), fv] ((w.alloc (.cells #[.pointer (some ⟨b, 0, none⟩)] 40)).alloc (.cells #[.int .i64 0] 3)) fun e w' => e = .returned (.tuple #[]) ∧ Kept [] ((w.alloc (.cells #[.pointer (some ⟨b, 0, none⟩)] 40)).alloc (.cells #[.int .i64 0] 3)) w') := hide fun fv => take_fault (show RdF _ b c from (Blk.alloc (Blk.alloc h _) _)) hc fv
  have HK : Hid (Kept [] w ((w.alloc (.cells #[.pointer (some ⟨b, 0, none⟩)] 40)).alloc (.cells #[.int .i64 0] 3))) := hide (((Kept.refl [] w).alloc _).alloc _)
  have HQ := hide hq
  clear h hc hq
  go_enter Tryz.func112, Tryz.ntmps112
  go_wp2_with fail
  refine (unhide HF _).mono ?_
  rintro e w1 ⟨rfl, hk⟩
  have hcq := blk1 ((unhide HQ).kept hk (by simp))
  have HK1 := hide hk
  clear hk
  go_wp2
  go_ret
  exact ⟨rfl, (unhide HK).trans (unhide HK1) (by simp)⟩

set_option maxRecDepth 100000 in
set_option maxHeartbeats 400000 in
theorem rnum_fault {w : World} {b c : Nat} (h : RdF w b c) (hc : c ≠ 0) :
    Calls Tryz.prog 113 #[.pointer (some ⟨b, 0, none⟩)] w fun e w' => e = .returned (.int .u64 0) ∧ Kept [] w w' := by
  have hmf : ∀ (fn : Fn) (first cap : Array Value) (w : World), (Instr.makeFunc fn first cap).run Tryz.prog w = .ok (.func fn first cap) w := fun _ _ _ _ => rfl
  have hq : Blk ((w.alloc (.cells #[.pointer (some ⟨b, 0, none⟩)] 40)).alloc (.cells #[.int .u64 0] 23)) (w.heap.size + 1) #[.int .u64 0] 23 := by
    have := Blk.new (w.alloc (.cells #[.pointer (some ⟨b, 0, none⟩)] 40)) #[.int .u64 0] 23
    simpa using this
  have HF : Hid (∀ fv, Calls Tryz.prog 40 #[.pointer (some ⟨b, 0, none⟩), fv] ((w.alloc (.cells #[.pointer (some ⟨b, 0, none⟩)] 40)).alloc (.cells #[.int .u64 0] 23)) fun e w' => e = .returned (.tuple #[]) ∧ Kept [] ((w.alloc (.cells #[.pointer (some ⟨b, 0, none⟩)] 40)).alloc (.cells #[.int .u64 0] 23)) w') := hide fun fv => take_fault (show RdF _ b c from (Blk.alloc (Blk.alloc h _) _)) hc fv
  have HK : Hid (Kept [] w ((w.alloc (.cells #[.pointer (some ⟨b, 0, none⟩)] 40)).alloc (.cells #[.int .u64 0] 23))) := hide (((Kept.refl [] w).alloc _).alloc _)
  have HQ := hide hq
  clear h hc hq
  go_enter Tryz.func113, Tryz.ntmps113
  go_wp2_with fail
  refine (unhide HF _).mono ?_
  rintro e w1 ⟨rfl, hk⟩
  have hcq := blk1 ((unhide HQ).kept hk (by simp))
  have HK1 := hide hk
  clear hk
  go_wp2
  go_ret
  exact ⟨rfl, (unhide HK).trans (unhide HK1) (by simp)⟩

set_option maxRecDepth 100000 in
set_option maxHeartbeats 400000 in
theorem rfixed_fault {w : World} {b c : Nat} (h : RdF w b c) (hc : c ≠ 0) (n : Int) :
    Calls Tryz.prog 14 #[.pointer (some ⟨b, 0, none⟩), .int .i64 n] w fun e w' => e = .returned (.int .u64 0) ∧ Kept [] w w' := by
  have hmf : ∀ (fn : Fn) (first cap : Array Value) (w : World), (Instr.makeFunc fn first cap).run Tryz.prog w = .ok (.func fn first cap) w := fun _ _ _ _ => rfl
  have hq : Blk (((w.alloc (.cells #[.pointer (some ⟨b, 0, none⟩)] 40)).alloc (.cells #[.int .i64 n] 3)).alloc (.cells #[.int .u64 0] 23)) (w.heap.size + 2) #[.int .u64 0] 23 := by
    have := Blk.new ((w.alloc (.cells #[.pointer (some ⟨b, 0, none⟩)] 40)).alloc (.cells #[.int .i64 n] 3)) #[.int .u64 0] 23
    simpa using this
  have HF : Hid (∀ fv, Calls Tryz.prog 40 #[.pointer (some ⟨b, 0, none⟩), fv] (((w.alloc (.cells #[.pointer (some ⟨b, 0, none⟩)] 40)).alloc (.cells #[.int .i64 n] 3)).alloc (.cells #[.int .u64 0] 23)) fun e w' => e = .returned (.tuple #[]) ∧ Kept [] (((w.alloc (.cells #[.pointer (some ⟨b, 0, none⟩)] 40)).alloc (.cells #[.int .i64 n] 3)).alloc (.cells #[.int .u64 0] 23)) w') := hide fun fv => take_fault (show RdF _ b c from (Blk.alloc (Blk.alloc (Blk.alloc h _) _) _)) hc fv
  have HK : Hid (Kept [] w (((w.alloc (.cells #[.pointer (some ⟨b, 0, none⟩)] 40)).alloc (.cells #[.int .i64 n] 3)).alloc (.cells #[.int .u64 0] 23))) := hide ((((Kept.refl [] w).alloc _).alloc _).alloc _)
  have HQ := hide hq
  clear h hc hq
  go_enter Tryz.func14, Tryz.ntmps14
  go_wp2_with fail
  refine (unhide HF _).mono ?_
  rintro e w1 ⟨rfl, hk⟩
  have hcq := blk1 ((unhide HQ).kept hk (by simp))
  have HK1 := hide hk
  clear hk
  go_wp2
  go_ret
  exact ⟨rfl, (unhide HK).trans (unhide HK1) (by simp)⟩

set_option maxRecDepth 100000 in
set_option maxHeartbeats 400000 in
theorem rtext_fault {w : World} {b c : Nat} (h : RdF w b c) (hc : c ≠ 0) (n : Int) :
    Calls Tryz.prog 114 #[.pointer (some ⟨b, 0, none⟩), .int .i64 n] w fun e w' => e = .returned (.slice none 0 0) ∧ Kept [] w w' := by
  have hmf : ∀ (fn : Fn) (first cap : Array Value) (w : World), (Instr.makeFunc fn first cap).run Tryz.prog w = .ok (.func fn first cap) w := fun _ _ _ _ => rfl
  have hq : Blk (((w.alloc (.cells #[.pointer (some ⟨b, 0, none⟩)] 40)).alloc (.cells #[.int .i64 n] 3)).alloc (.cells #[.slice none 0 0] 22)) (w.heap.size + 2) #[.slice none 0 0] 22 := by
    have := Blk.new ((w.alloc (.cells #[.pointer (some ⟨b, 0, none⟩)] 40)).alloc (.cells #[.int .i64 n] 3)) #[.slice none 0 0] 22
    simpa using this
  have HF : Hid (∀ fv, Calls Tryz.prog 40 #[.pointer (some ⟨b, 0, none⟩), fv] (((w.alloc (.cells #[.pointer (some ⟨b, 0, none⟩)] 40)).alloc (.cells #[.int .i64 n] 3)).alloc (.cells #[.slice none 0 0] 22)) fun e w' => e = .returned (.tuple #[]) ∧ Kept [] (((w.alloc (.cells #[.pointer (some ⟨b, 0, none⟩)] 40)).alloc (.cells #[.int .i64 n] 3)).alloc (.cells #[.slice none 0 0] 22)) w') := hide fun fv => take_fault (show RdF _ b c from (Blk.alloc (Blk.alloc (Blk.alloc h _) _) _)) hc fv
  have HK : Hid (Kept [] w (((w.alloc (.cells #[.pointer (some ⟨b, 0, none⟩)] 40)).alloc (.cells #[.int .i64 n] 3)).alloc (.cells #[.slice none 0 0] 22))) := hide ((((Kept.refl [] w).alloc _).alloc _).alloc _)
  have HQ := hide hq
  clear h hc hq
  go_enter Tryz.func114, Tryz.ntmps114
  go_wp2_with fail
  refine (unhide HF _).mono ?_
  rintro e w1 ⟨rfl, hk⟩
  have hcq := blk1 ((unhide HQ).kept hk (by simp))
  have HK1 := hide hk
  clear hk
  go_wp2
  go_ret
  exact ⟨rfl, (unhide HK).trans (unhide HK1) (by simp)⟩

end Go.Proofs.YtfhfkpgfnlmfhaaGreatDoor

/- A Thing: its kind, its size; what lays it down. -/
namespace Go.Proofs.YtfhfkpgfnlmfhaaGreatDoor
open Go.RowKit

/-- A thing: the value, and what its P reads as. -/
structure Th where
  kind : Int
  n : Nat
  i : Int
  pa : Option Addr
  pc : Nat
  p : List Nat

def Th.val (t : Th) : Value := .agg #[.int .i64 t.kind, .int .u64 (t.n : Int), .int .i64 t.i, .slice t.pa t.p.length t.pc]
def Th.pv (t : Th) : Value := .slice t.pa t.p.length t.pc
/-- It is a value of its type. -/
structure Th.ok (t : Th) : Prop where
  k1 : -9223372036854775808 ≤ t.kind
  k2 : t.kind ≤ 9223372036854775807
  n : t.n < 18446744073709551616
  i1 : -9223372036854775808 ≤ t.i
  i2 : t.i ≤ 9223372036854775807
  p : ∀ x ∈ t.p, x < 256

def rnd (x : Int) (n : Nat) : Nat := (x % n).toNat
theorem rnd_lt (x : Int) (n : Nat) (h : 0 < n) : rnd x n < n := by
  unfold rnd
  have h1 := Int.emod_nonneg x (b := (n : Int)) (by omega)
  have h2 := Int.emod_lt_of_pos x (b := (n : Int)) (by omega)
  omega
theorem rnd_of (x : Int) (n : Nat) (h : 0 < n) : (x.tmod n < 0 → x.tmod n + n = (rnd x n : Int)) ∧ (0 ≤ x.tmod n → x.tmod n = (rnd x n : Int)) := by
  have h1 := Int.emod_nonneg x (b := (n : Int)) (by omega)
  have h2 := Int.emod_lt_of_pos x (b := (n : Int)) (by omega)
  have h3 := Int.tmod_eq_emod (a := x) (b := (n : Int))
  unfold rnd
  split at h3 <;> constructor <;> intro h4 <;> (try simp at h3) <;> omega

end Go.Proofs.YtfhfkpgfnlmfhaaGreatDoor
