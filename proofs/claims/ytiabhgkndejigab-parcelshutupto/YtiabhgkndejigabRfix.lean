/- The reader's Fixed. -/
import Derived.Test.YtiabhgkndejigabFrame
import Derived.Test.YtiabhgkndejigabFixed
namespace Go.Proofs.Ytiabhgkndejigab
open Go.RowKit

/-- The number of some bytes, the lowest first. -/
def leV : List Nat → Nat
  | [] => 0
  | x :: l => x + 256 * leV l
theorem leV_lt (l : List Nat) (h : ∀ x ∈ l, x < 256) : leV l < 256 ^ l.length := by
  induction l with
  | nil => simp [leV]
  | cons x l ih =>
    have h1 := ih (fun y hy => h y (by simp [hy]))
    have h2 := h x (by simp)
    simp only [leV, List.length_cons, Nat.pow_succ]; omega
theorem leV_append (a b : List Nat) : leV (a ++ b) = leV a + 256 ^ a.length * leV b := by
  induction a with
  | nil => simp [leV]
  | cons x a ih => simp only [leV, List.cons_append, List.length_cons, Nat.pow_succ, ih, Nat.mul_add, Nat.add_assoc]; congr 2; rw [← Nat.mul_assoc]; congr 1; exact Nat.mul_comm _ _

theorem or_le (acc y s : Nat) (h : acc < 2 ^ s) : acc ||| y * 2 ^ s = acc + y * 2 ^ s := by
  have := Nat.two_pow_add_eq_or_of_lt h y
  rw [Nat.mul_comm y, Nat.or_comm, ← this, Nat.add_comm]


theorem or_at16 (k acc y : Nat) (hk : k < 2) (hacc : acc < 256 ^ k) (hy : y < 256) :
    bits .or .u16 (acc : Int) (IntKind.u16.wrap ((y : Int) * 2 ^ (8 * k))) = ((acc + y * 256 ^ k : Nat) : Int) ∧ acc + y * 256 ^ k < 256 ^ (k + 1) := by
  have e : 256 ^ k = 2 ^ (8 * k) := (pow256 k).symm
  rw [e] at hacc ⊢
  have e2 : 256 ^ (k + 1) = 2 ^ (8 * k) * 256 := by rw [Nat.pow_succ, e]
  have h1 : y * 2 ^ (8 * k) ≤ 255 * 2 ^ (8 * k) := Nat.mul_le_mul_right _ (by omega)
  have h2 : 2 ^ (8 * k) ≤ 2 ^ 8 := Nat.pow_le_pow_right (by omega) (by omega)
  refine ⟨?_, by rw [e2]; omega⟩
  have ew : IntKind.u16.wrap ((y : Int) * 2 ^ (8 * k)) = ((y * 2 ^ (8 * k) : Nat) : Int) := by
    rw [IntKind.wrap_u16]
    have : ((y : Int) * 2 ^ (8 * k)) = ((y * 2 ^ (8 * k) : Nat) : Int) := by simp
    rw [this]; omega
  rw [ew, u16_or_nat _ _ (by omega) (by omega), or_le _ _ _ hacc]

set_option maxRecDepth 100000 in
set_option maxHeartbeats 400000 in
theorem take16_ok {w : World} {b : Nat} {lv bv : Value} {l : List Nat} (h : Rd w b lv bv l) (hl : ∀ x ∈ l, x < 256) (hn : 2 ≤ l.length) :
    Calls Try.prog 88 #[.pointer (some ⟨b, 0, none⟩)] w fun e w' => e = .returned (.int .u16 (leV (l.take 2) : Nat)) ∧ ∃ lv', Rd w' b lv' bv (l.drop 2) ∧ lv'.ownBlock = lv.ownBlock ∧ Kept [b] w w' := by
  have HH := hide h
  have HL := hide hl
  clear h hl
  go_enter Try.func88, Try.ntmps88
  go_wp2_with (first | (go_at_call 93; refine (widthu16 _).mono ?_; rintro e w' ⟨rfl, rfl⟩))
  go_loopw [3, 6] (fun nv i wr => ∃ (k : Nat) (lv' : Value), k ≤ 2 ∧ i = .int .i64 k ∧ nv = .int .u16 (leV (l.take k) : Nat) ∧ Hid (Rd wr b lv' bv (l.drop k) ∧ lv'.ownBlock = lv.ownBlock ∧ Kept [b] w wr)) (fun _ i _ => 2 - (intOf i).toNat)
  case atStart => exact ⟨0, lv, by omega, rfl, by simp [leV], hide ⟨by simpa using unhide HH, rfl, Kept.refl _ _⟩⟩
  case round =>
    obtain ⟨k, lv', hk, rfl, rfl, HR⟩ := hrel
    by_cases hlt : k < 2
    · have hkl : k < l.length := by omega
      have hx : l[k] < 256 := unhide HL _ (List.getElem_mem hkl)
      have hd : l.drop k = l[k] :: l.drop (k + 1) := (List.getElem_cons_drop hkl).symm
      have ht : l.take (k + 1) = l.take k ++ [l[k]] := List.take_succ_eq_append_getElem hkl
      have hlen : (l.take k).length = k := by simp; omega
      have ha : leV (l.take k) < 256 ^ k := by
        have := leV_lt (l.take k) (fun x hx => unhide HL x (List.mem_of_mem_take hx))
        rwa [hlen] at this
      have hv : leV (l.take (k + 1)) = leV (l.take k) + l[k] * 256 ^ k := by
        rw [ht, leV_append, hlen]; simp [leV]; exact Nat.mul_comm _ _
      have HV := hide hv
      generalize l[k] = x at *
      generalize leV (l.take k) = acc at *
      have HO := hide (or_at16 k acc x hlt ha hx)
      have ha2 : acc < 65536 := by
        have h2 : 256 ^ k ≤ 256 ^ 2 := Nat.pow_le_pow_right (by omega) (by omega)
        omega
      have HRD : Hid (Rd wr b lv' bv (x :: l.drop (k + 1)) ∧ lv'.ownBlock = lv.ownBlock ∧ Kept [b] w wr) := by rw [← hd]; exact HR
      clear hd ht hv ha hlen HR
      go_wp2_with (first | (go_at_call 81; refine (next_ok (unhide HRD).1).mono ?_; rintro e w1 ⟨rfl, lv2, hr2, ho2, hk2⟩; have HR2 := hide hr2; clear hr2))
      go_roundw
      case rel => exact ⟨k + 1, lv2, by omega, by go_num, by rw [unhide HV, ← (unhide HO).1]; try rw [IntKind.wrap_u16], hide ⟨unhide HR2, ho2.trans (unhide HRD).2.1, (unhide HRD).2.2.trans hk2 (fun y hy => Or.inl hy)⟩⟩
      case measure => simp [intOf]; omega
    · have hk2 : k = 2 := by omega
      subst hk2
      go_wp2
      go_ret
      exact ⟨rfl, lv', unhide HR⟩

theorem or_at32 (k acc y : Nat) (hk : k < 4) (hacc : acc < 256 ^ k) (hy : y < 256) :
    bits .or .u32 (acc : Int) (IntKind.u32.wrap ((y : Int) * 2 ^ (8 * k))) = ((acc + y * 256 ^ k : Nat) : Int) ∧ acc + y * 256 ^ k < 256 ^ (k + 1) := by
  have e : 256 ^ k = 2 ^ (8 * k) := (pow256 k).symm
  rw [e] at hacc ⊢
  have e2 : 256 ^ (k + 1) = 2 ^ (8 * k) * 256 := by rw [Nat.pow_succ, e]
  have h1 : y * 2 ^ (8 * k) ≤ 255 * 2 ^ (8 * k) := Nat.mul_le_mul_right _ (by omega)
  have h2 : 2 ^ (8 * k) ≤ 2 ^ 24 := Nat.pow_le_pow_right (by omega) (by omega)
  refine ⟨?_, by rw [e2]; omega⟩
  have ew : IntKind.u32.wrap ((y : Int) * 2 ^ (8 * k)) = ((y * 2 ^ (8 * k) : Nat) : Int) := by
    rw [IntKind.wrap_u32]
    have : ((y : Int) * 2 ^ (8 * k)) = ((y * 2 ^ (8 * k) : Nat) : Int) := by simp
    rw [this]; omega
  rw [ew, u32_or_nat _ _ (by omega) (by omega), or_le _ _ _ hacc]

set_option maxRecDepth 100000 in
set_option maxHeartbeats 400000 in
theorem take32_ok {w : World} {b : Nat} {lv bv : Value} {l : List Nat} (h : Rd w b lv bv l) (hl : ∀ x ∈ l, x < 256) (hn : 4 ≤ l.length) :
    Calls Try.prog 87 #[.pointer (some ⟨b, 0, none⟩)] w fun e w' => e = .returned (.int .u32 (leV (l.take 4) : Nat)) ∧ ∃ lv', Rd w' b lv' bv (l.drop 4) ∧ lv'.ownBlock = lv.ownBlock ∧ Kept [b] w w' := by
  have HH := hide h
  have HL := hide hl
  clear h hl
  go_enter Try.func87, Try.ntmps87
  go_wp2_with (first | (go_at_call 92; refine (widthu32 _).mono ?_; rintro e w' ⟨rfl, rfl⟩))
  go_loopw [3, 6] (fun nv i wr => ∃ (k : Nat) (lv' : Value), k ≤ 4 ∧ i = .int .i64 k ∧ nv = .int .u32 (leV (l.take k) : Nat) ∧ Hid (Rd wr b lv' bv (l.drop k) ∧ lv'.ownBlock = lv.ownBlock ∧ Kept [b] w wr)) (fun _ i _ => 4 - (intOf i).toNat)
  case atStart => exact ⟨0, lv, by omega, rfl, by simp [leV], hide ⟨by simpa using unhide HH, rfl, Kept.refl _ _⟩⟩
  case round =>
    obtain ⟨k, lv', hk, rfl, rfl, HR⟩ := hrel
    by_cases hlt : k < 4
    · have hkl : k < l.length := by omega
      have hx : l[k] < 256 := unhide HL _ (List.getElem_mem hkl)
      have hd : l.drop k = l[k] :: l.drop (k + 1) := (List.getElem_cons_drop hkl).symm
      have ht : l.take (k + 1) = l.take k ++ [l[k]] := List.take_succ_eq_append_getElem hkl
      have hlen : (l.take k).length = k := by simp; omega
      have ha : leV (l.take k) < 256 ^ k := by
        have := leV_lt (l.take k) (fun x hx => unhide HL x (List.mem_of_mem_take hx))
        rwa [hlen] at this
      have hv : leV (l.take (k + 1)) = leV (l.take k) + l[k] * 256 ^ k := by
        rw [ht, leV_append, hlen]; simp [leV]; exact Nat.mul_comm _ _
      have HV := hide hv
      generalize l[k] = x at *
      generalize leV (l.take k) = acc at *
      have HO := hide (or_at32 k acc x hlt ha hx)
      have ha2 : acc < 4294967296 := by
        have h2 : 256 ^ k ≤ 256 ^ 4 := Nat.pow_le_pow_right (by omega) (by omega)
        omega
      have HRD : Hid (Rd wr b lv' bv (x :: l.drop (k + 1)) ∧ lv'.ownBlock = lv.ownBlock ∧ Kept [b] w wr) := by rw [← hd]; exact HR
      clear hd ht hv ha hlen HR
      go_wp2_with (first | (go_at_call 81; refine (next_ok (unhide HRD).1).mono ?_; rintro e w1 ⟨rfl, lv2, hr2, ho2, hk2⟩; have HR2 := hide hr2; clear hr2))
      go_roundw
      case rel => exact ⟨k + 1, lv2, by omega, by go_num, by rw [unhide HV, ← (unhide HO).1]; try rw [IntKind.wrap_u32], hide ⟨unhide HR2, ho2.trans (unhide HRD).2.1, (unhide HRD).2.2.trans hk2 (fun y hy => Or.inl hy)⟩⟩
      case measure => simp [intOf]; omega
    · have hk2 : k = 4 := by omega
      subst hk2
      go_wp2
      go_ret
      exact ⟨rfl, lv', unhide HR⟩

theorem or_at64 (k acc y : Nat) (hk : k < 8) (hacc : acc < 256 ^ k) (hy : y < 256) :
    bits .or .u64 (acc : Int) (IntKind.u64.wrap ((y : Int) * 2 ^ (8 * k))) = ((acc + y * 256 ^ k : Nat) : Int) ∧ acc + y * 256 ^ k < 256 ^ (k + 1) := by
  have e : 256 ^ k = 2 ^ (8 * k) := (pow256 k).symm
  rw [e] at hacc ⊢
  have e2 : 256 ^ (k + 1) = 2 ^ (8 * k) * 256 := by rw [Nat.pow_succ, e]
  have h1 : y * 2 ^ (8 * k) ≤ 255 * 2 ^ (8 * k) := Nat.mul_le_mul_right _ (by omega)
  have h2 : 2 ^ (8 * k) ≤ 2 ^ 56 := Nat.pow_le_pow_right (by omega) (by omega)
  refine ⟨?_, by rw [e2]; omega⟩
  have ew : IntKind.u64.wrap ((y : Int) * 2 ^ (8 * k)) = ((y * 2 ^ (8 * k) : Nat) : Int) := by
    rw [IntKind.wrap_u64]
    have : ((y : Int) * 2 ^ (8 * k)) = ((y * 2 ^ (8 * k) : Nat) : Int) := by simp
    rw [this]; omega
  rw [ew, u64_or_nat _ _ (by omega) (by omega), or_le _ _ _ hacc]

set_option maxRecDepth 100000 in
set_option maxHeartbeats 400000 in
theorem take64_ok {w : World} {b : Nat} {lv bv : Value} {l : List Nat} (h : Rd w b lv bv l) (hl : ∀ x ∈ l, x < 256) (hn : 8 ≤ l.length) :
    Calls Try.prog 86 #[.pointer (some ⟨b, 0, none⟩)] w fun e w' => e = .returned (.int .u64 (leV (l.take 8) : Nat)) ∧ ∃ lv', Rd w' b lv' bv (l.drop 8) ∧ lv'.ownBlock = lv.ownBlock ∧ Kept [b] w w' := by
  have HH := hide h
  have HL := hide hl
  clear h hl
  go_enter Try.func86, Try.ntmps86
  go_wp2_with (first | (go_at_call 91; refine (widthu64 _).mono ?_; rintro e w' ⟨rfl, rfl⟩))
  go_loopw [3, 6] (fun nv i wr => ∃ (k : Nat) (lv' : Value), k ≤ 8 ∧ i = .int .i64 k ∧ nv = .int .u64 (leV (l.take k) : Nat) ∧ Hid (Rd wr b lv' bv (l.drop k) ∧ lv'.ownBlock = lv.ownBlock ∧ Kept [b] w wr)) (fun _ i _ => 8 - (intOf i).toNat)
  case atStart => exact ⟨0, lv, by omega, rfl, by simp [leV], hide ⟨by simpa using unhide HH, rfl, Kept.refl _ _⟩⟩
  case round =>
    obtain ⟨k, lv', hk, rfl, rfl, HR⟩ := hrel
    by_cases hlt : k < 8
    · have hkl : k < l.length := by omega
      have hx : l[k] < 256 := unhide HL _ (List.getElem_mem hkl)
      have hd : l.drop k = l[k] :: l.drop (k + 1) := (List.getElem_cons_drop hkl).symm
      have ht : l.take (k + 1) = l.take k ++ [l[k]] := List.take_succ_eq_append_getElem hkl
      have hlen : (l.take k).length = k := by simp; omega
      have ha : leV (l.take k) < 256 ^ k := by
        have := leV_lt (l.take k) (fun x hx => unhide HL x (List.mem_of_mem_take hx))
        rwa [hlen] at this
      have hv : leV (l.take (k + 1)) = leV (l.take k) + l[k] * 256 ^ k := by
        rw [ht, leV_append, hlen]; simp [leV]; exact Nat.mul_comm _ _
      have HV := hide hv
      generalize l[k] = x at *
      generalize leV (l.take k) = acc at *
      have HO := hide (or_at64 k acc x hlt ha hx)
      have ha2 : acc < 18446744073709551616 := by
        have h2 : 256 ^ k ≤ 256 ^ 8 := Nat.pow_le_pow_right (by omega) (by omega)
        omega
      have HRD : Hid (Rd wr b lv' bv (x :: l.drop (k + 1)) ∧ lv'.ownBlock = lv.ownBlock ∧ Kept [b] w wr) := by rw [← hd]; exact HR
      clear hd ht hv ha hlen HR
      go_wp2_with (first | (go_at_call 81; refine (next_ok (unhide HRD).1).mono ?_; rintro e w1 ⟨rfl, lv2, hr2, ho2, hk2⟩; have HR2 := hide hr2; clear hr2))
      go_roundw
      case rel => exact ⟨k + 1, lv2, by omega, by go_num, by rw [unhide HV, ← (unhide HO).1]; try rw [IntKind.wrap_u64], hide ⟨unhide HR2, ho2.trans (unhide HRD).2.1, (unhide HRD).2.2.trans hk2 (fun y hy => Or.inl hy)⟩⟩
      case measure => simp [intOf]; omega
    · have hk2 : k = 8 := by omega
      subst hk2
      go_wp2
      go_ret
      exact ⟨rfl, lv', unhide HR⟩
end Go.Proofs.Ytiabhgkndejigab
