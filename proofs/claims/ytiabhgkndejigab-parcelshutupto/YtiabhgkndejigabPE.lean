/- The reader's readings that give up: Byte, Int, Fixed and Real beyond the end; Fixed of a wrong size. -/
import Derived.Test.YtiabhgkndejigabRtext
import Derived.Test.YtiabhgkndejigabRfixC
namespace Go.Proofs.Ytiabhgkndejigab
open Go.RowKit

/-- A reading gave up beyond the end. -/
def GaveUp (w : World) (b : Nat) (bv : Value) (c : Nat) (e : Ending) (w' : World) : Prop := Faulty e c ∧ (∃ lv' l', Rd w' b lv' bv l') ∧ Kept [b] w w'
theorem GaveUp.of_end {w w' : World} {b : Nat} {lv bv pv : Value} (h : Rd w b lv bv []) (hq : Quiet w w') : GaveUp w b bv 10 (.panicked [{ v := .iface 8 pv, recovered := false }]) w' :=
  ⟨⟨8, pv, rfl, Or.inl ⟨rfl, rfl⟩⟩, ⟨lv, [], h.kept hq.kept (by simp) (by simp)⟩, hq.kept.mono (by simp)⟩
theorem GaveUp.next {w w1 w' : World} {b c : Nat} {bv : Value} {e : Ending} (k : Kept [b] w w1) (h : GaveUp w1 b bv c e w') : GaveUp w b bv c e w' :=
  ⟨h.1, h.2.1, k.trans h.2.2 (fun _ hx => Or.inl hx)⟩

set_option maxRecDepth 100000 in
set_option maxHeartbeats 400000 in
theorem take8_err {w : World} {b : Nat} {lv bv : Value} {l : List Nat} (h : Rd w b lv bv l) (hn : l.length < 1) :
    Calls Try.prog 69 #[.pointer (some ⟨b, 0, none⟩)] w (GaveUp w b bv 10) := by
  obtain rfl : l = [] := List.eq_nil_of_length_eq_zero (by omega)
  have HC := hide (next_end h)
  have HH := hide h
  clear h hn
  go_enter Try.func69, Try.ntmps69
  go_wp2_with (first | (go_at_call 82; refine (width8 _).mono ?_; rintro e w' ⟨rfl, rfl⟩))
  refine wp_loop_rounds 2 ?_
  rw [rounds_succ]
  go_wp2_with (first | (go_at_call 81; refine (unhide HC).mono ?_; rintro e w1 ⟨⟨pv, rfl⟩, hq⟩))
  exact ⟨rfl, GaveUp.of_end (unhide HH) hq⟩


set_option maxRecDepth 100000 in
set_option maxHeartbeats 400000 in
theorem take16_err {w : World} {b : Nat} {lv bv : Value} {l : List Nat} (h : Rd w b lv bv l) (hl : ∀ x ∈ l, x < 256) (hn : l.length < 2) :
    Calls Try.prog 88 #[.pointer (some ⟨b, 0, none⟩)] w (GaveUp w b bv 10) := by
  have HH := hide h
  have HL := hide hl
  clear h hl
  go_enter Try.func88, Try.ntmps88
  go_wp2_with (first | (go_at_call 93; refine (widthu16 _).mono ?_; rintro e w' ⟨rfl, rfl⟩))
  go_loopw [3, 6] (fun nv i wr => ∃ (k acc : Nat) (lv' : Value), k ≤ l.length ∧ acc < 65536 ∧ i = .int .i64 k ∧ nv = .int .u16 acc ∧ Hid (acc < 256 ^ k ∧ Rd wr b lv' bv (l.drop k) ∧ lv'.ownBlock = lv.ownBlock ∧ Kept [b] w wr)) (fun _ i _ => 2 - (intOf i).toNat)
  case atStart => exact ⟨0, 0, lv, by omega, by omega, rfl, rfl, hide ⟨by simp, by simpa using unhide HH, rfl, Kept.refl _ _⟩⟩
  case round =>
    obtain ⟨k, acc, lv', hk, ha2, rfl, rfl, HR⟩ := hrel
    by_cases hlt : k < l.length
    · have hx : l[k] < 256 := unhide HL _ (List.getElem_mem hlt)
      have hd : l.drop k = l[k] :: l.drop (k + 1) := (List.getElem_cons_drop hlt).symm
      generalize l[k] = x at *
      have HO := hide (or_at16 k acc x (by omega) (unhide HR).1 hx)
      have HRD : Hid (Rd wr b lv' bv (x :: l.drop (k + 1)) ∧ lv'.ownBlock = lv.ownBlock ∧ Kept [b] w wr) := by rw [← hd]; exact hide (unhide HR).2
      clear hd HR
      go_wp2_with (first | (go_at_call 81; refine (next_ok (unhide HRD).1).mono ?_; rintro e w1 ⟨rfl, lv2, hr2, ho2, hk2⟩; have HR2 := hide hr2; clear hr2))
      go_roundw
      case rel =>
        refine ⟨k + 1, acc + x * 256 ^ k, lv2, by omega, ?_, by go_num, by rw [← (unhide HO).1]; try rw [IntKind.wrap_u16], hide ⟨(unhide HO).2, unhide HR2, ho2.trans (unhide HRD).2.1, (unhide HRD).2.2.trans hk2 (fun y hy => Or.inl hy)⟩⟩
        refine Nat.lt_of_lt_of_le (unhide HO).2 ?_
        exact Nat.le_trans (Nat.pow_le_pow_right (by omega) (show k + 1 ≤ 2 by omega)) (by decide)
      case measure => simp [intOf]; omega
    · have hz : l.drop k = [] := List.drop_eq_nil_of_le (by omega)
      have hrd := (unhide HR).2.1
      rw [hz] at hrd
      have HRD : Hid (Rd wr b lv' bv [] ∧ Kept [b] w wr) := hide ⟨hrd, (unhide HR).2.2.2⟩
      clear hz HR hrd
      go_wp2_with (first | (go_at_call 81; refine (next_end (unhide HRD).1).mono ?_; rintro e w1 ⟨⟨pv, rfl⟩, hq⟩))
      exact ⟨rfl, (GaveUp.of_end (unhide HRD).1 hq).next (unhide HRD).2⟩


set_option maxRecDepth 100000 in
set_option maxHeartbeats 400000 in
theorem take32_err {w : World} {b : Nat} {lv bv : Value} {l : List Nat} (h : Rd w b lv bv l) (hl : ∀ x ∈ l, x < 256) (hn : l.length < 4) :
    Calls Try.prog 87 #[.pointer (some ⟨b, 0, none⟩)] w (GaveUp w b bv 10) := by
  have HH := hide h
  have HL := hide hl
  clear h hl
  go_enter Try.func87, Try.ntmps87
  go_wp2_with (first | (go_at_call 92; refine (widthu32 _).mono ?_; rintro e w' ⟨rfl, rfl⟩))
  go_loopw [3, 6] (fun nv i wr => ∃ (k acc : Nat) (lv' : Value), k ≤ l.length ∧ acc < 4294967296 ∧ i = .int .i64 k ∧ nv = .int .u32 acc ∧ Hid (acc < 256 ^ k ∧ Rd wr b lv' bv (l.drop k) ∧ lv'.ownBlock = lv.ownBlock ∧ Kept [b] w wr)) (fun _ i _ => 4 - (intOf i).toNat)
  case atStart => exact ⟨0, 0, lv, by omega, by omega, rfl, rfl, hide ⟨by simp, by simpa using unhide HH, rfl, Kept.refl _ _⟩⟩
  case round =>
    obtain ⟨k, acc, lv', hk, ha2, rfl, rfl, HR⟩ := hrel
    by_cases hlt : k < l.length
    · have hx : l[k] < 256 := unhide HL _ (List.getElem_mem hlt)
      have hd : l.drop k = l[k] :: l.drop (k + 1) := (List.getElem_cons_drop hlt).symm
      generalize l[k] = x at *
      have HO := hide (or_at32 k acc x (by omega) (unhide HR).1 hx)
      have HRD : Hid (Rd wr b lv' bv (x :: l.drop (k + 1)) ∧ lv'.ownBlock = lv.ownBlock ∧ Kept [b] w wr) := by rw [← hd]; exact hide (unhide HR).2
      clear hd HR
      go_wp2_with (first | (go_at_call 81; refine (next_ok (unhide HRD).1).mono ?_; rintro e w1 ⟨rfl, lv2, hr2, ho2, hk2⟩; have HR2 := hide hr2; clear hr2))
      go_roundw
      case rel =>
        refine ⟨k + 1, acc + x * 256 ^ k, lv2, by omega, ?_, by go_num, by rw [← (unhide HO).1]; try rw [IntKind.wrap_u32], hide ⟨(unhide HO).2, unhide HR2, ho2.trans (unhide HRD).2.1, (unhide HRD).2.2.trans hk2 (fun y hy => Or.inl hy)⟩⟩
        refine Nat.lt_of_lt_of_le (unhide HO).2 ?_
        exact Nat.le_trans (Nat.pow_le_pow_right (by omega) (show k + 1 ≤ 4 by omega)) (by decide)
      case measure => simp [intOf]; omega
    · have hz : l.drop k = [] := List.drop_eq_nil_of_le (by omega)
      have hrd := (unhide HR).2.1
      rw [hz] at hrd
      have HRD : Hid (Rd wr b lv' bv [] ∧ Kept [b] w wr) := hide ⟨hrd, (unhide HR).2.2.2⟩
      clear hz HR hrd
      go_wp2_with (first | (go_at_call 81; refine (next_end (unhide HRD).1).mono ?_; rintro e w1 ⟨⟨pv, rfl⟩, hq⟩))
      exact ⟨rfl, (GaveUp.of_end (unhide HRD).1 hq).next (unhide HRD).2⟩


set_option maxRecDepth 100000 in
set_option maxHeartbeats 400000 in
theorem take64_err {w : World} {b : Nat} {lv bv : Value} {l : List Nat} (h : Rd w b lv bv l) (hl : ∀ x ∈ l, x < 256) (hn : l.length < 8) :
    Calls Try.prog 86 #[.pointer (some ⟨b, 0, none⟩)] w (GaveUp w b bv 10) := by
  have HH := hide h
  have HL := hide hl
  clear h hl
  go_enter Try.func86, Try.ntmps86
  go_wp2_with (first | (go_at_call 91; refine (widthu64 _).mono ?_; rintro e w' ⟨rfl, rfl⟩))
  go_loopw [3, 6] (fun nv i wr => ∃ (k acc : Nat) (lv' : Value), k ≤ l.length ∧ acc < 18446744073709551616 ∧ i = .int .i64 k ∧ nv = .int .u64 acc ∧ Hid (acc < 256 ^ k ∧ Rd wr b lv' bv (l.drop k) ∧ lv'.ownBlock = lv.ownBlock ∧ Kept [b] w wr)) (fun _ i _ => 8 - (intOf i).toNat)
  case atStart => exact ⟨0, 0, lv, by omega, by omega, rfl, rfl, hide ⟨by simp, by simpa using unhide HH, rfl, Kept.refl _ _⟩⟩
  case round =>
    obtain ⟨k, acc, lv', hk, ha2, rfl, rfl, HR⟩ := hrel
    by_cases hlt : k < l.length
    · have hx : l[k] < 256 := unhide HL _ (List.getElem_mem hlt)
      have hd : l.drop k = l[k] :: l.drop (k + 1) := (List.getElem_cons_drop hlt).symm
      generalize l[k] = x at *
      have HO := hide (or_at64 k acc x (by omega) (unhide HR).1 hx)
      have HRD : Hid (Rd wr b lv' bv (x :: l.drop (k + 1)) ∧ lv'.ownBlock = lv.ownBlock ∧ Kept [b] w wr) := by rw [← hd]; exact hide (unhide HR).2
      clear hd HR
      go_wp2_with (first | (go_at_call 81; refine (next_ok (unhide HRD).1).mono ?_; rintro e w1 ⟨rfl, lv2, hr2, ho2, hk2⟩; have HR2 := hide hr2; clear hr2))
      go_roundw
      case rel =>
        refine ⟨k + 1, acc + x * 256 ^ k, lv2, by omega, ?_, by go_num, by rw [← (unhide HO).1]; try rw [IntKind.wrap_u64], hide ⟨(unhide HO).2, unhide HR2, ho2.trans (unhide HRD).2.1, (unhide HRD).2.2.trans hk2 (fun y hy => Or.inl hy)⟩⟩
        refine Nat.lt_of_lt_of_le (unhide HO).2 ?_
        exact Nat.le_trans (Nat.pow_le_pow_right (by omega) (show k + 1 ≤ 8 by omega)) (by decide)
      case measure => simp [intOf]; omega
    · have hz : l.drop k = [] := List.drop_eq_nil_of_le (by omega)
      have hrd := (unhide HR).2.1
      rw [hz] at hrd
      have HRD : Hid (Rd wr b lv' bv [] ∧ Kept [b] w wr) := hide ⟨hrd, (unhide HR).2.2.2⟩
      clear hz HR hrd
      go_wp2_with (first | (go_at_call 81; refine (next_end (unhide HRD).1).mono ?_; rintro e w1 ⟨⟨pv, rfl⟩, hq⟩))
      exact ⟨rfl, (GaveUp.of_end (unhide HRD).1 hq).next (unhide HRD).2⟩


set_option maxRecDepth 100000 in
set_option maxHeartbeats 400000 in
theorem takeFixedE1 {w : World} {b : Nat} {lv bv : Value} {l : List Nat} (h : Rd w b lv bv l) (hl : ∀ x ∈ l, x < 256) (hn : l.length < 1) :
    Calls Try.prog 65 #[.pointer (some ⟨b, 0, none⟩), .int .i64 1] w (GaveUp w b bv 10) := by
  have m4 : bits .and .i64 1 4 = 0 := by decide
  have m2 : bits .and .i64 1 2 = 0 := by decide
  have m1 : bits .and .i64 1 1 = 1 := by decide
  have HL := hide hl
  have HN := hide hn
  have H0 := hide h
  have hw0 := Kept.refl [b] w
  have ho0 : lv.ownBlock = lv.ownBlock := rfl
  clear h hl hn
  go_enter Try.func65, Try.ntmps65
  go_wp2_with fail
  refine (take8_err (unhide H0) (by have := unhide HN; first | omega | (simp; omega))).mono ?_
  rintro e w9 ⟨⟨u, pv, rfl, hu⟩, hrd, hk⟩
  have HG : Hid (GaveUp w b bv 10 (.panicked [{ v := .iface u pv, recovered := false }]) w9) := hide (GaveUp.next hw0 ⟨⟨u, pv, rfl, hu⟩, hrd, hk⟩)
  clear hrd hk hu
  go_wp2
  exact ⟨rfl, unhide HG⟩

set_option maxRecDepth 100000 in
set_option maxHeartbeats 400000 in
theorem takeFixedE2 {w : World} {b : Nat} {lv bv : Value} {l : List Nat} (h : Rd w b lv bv l) (hl : ∀ x ∈ l, x < 256) (hn : l.length < 2) :
    Calls Try.prog 65 #[.pointer (some ⟨b, 0, none⟩), .int .i64 2] w (GaveUp w b bv 10) := by
  have m4 : bits .and .i64 2 4 = 0 := by decide
  have m2 : bits .and .i64 2 2 = 2 := by decide
  have m1 : bits .and .i64 2 1 = 0 := by decide
  have HL := hide hl
  have HN := hide hn
  have H0 := hide h
  have hw0 := Kept.refl [b] w
  have ho0 : lv.ownBlock = lv.ownBlock := rfl
  clear h hl hn
  go_enter Try.func65, Try.ntmps65
  go_wp2_with fail
  refine (take16_err (unhide H0) (unhide HL) (by have := unhide HN; first | omega | (simp; omega))).mono ?_
  rintro e w9 ⟨⟨u, pv, rfl, hu⟩, hrd, hk⟩
  have HG : Hid (GaveUp w b bv 10 (.panicked [{ v := .iface u pv, recovered := false }]) w9) := hide (GaveUp.next hw0 ⟨⟨u, pv, rfl, hu⟩, hrd, hk⟩)
  clear hrd hk hu
  go_wp2
  exact ⟨rfl, unhide HG⟩

set_option maxRecDepth 100000 in
set_option maxHeartbeats 400000 in
theorem takeFixedE3 {w : World} {b : Nat} {lv bv : Value} {l : List Nat} (h : Rd w b lv bv l) (hl : ∀ x ∈ l, x < 256) (hn : l.length < 3) :
    Calls Try.prog 65 #[.pointer (some ⟨b, 0, none⟩), .int .i64 3] w (GaveUp w b bv 10) := by
  have m4 : bits .and .i64 3 4 = 0 := by decide
  have m2 : bits .and .i64 3 2 = 2 := by decide
  have m1 : bits .and .i64 3 1 = 1 := by decide
  have HL := hide hl
  have HN := hide hn
  have H0 := hide h
  have hw0 := Kept.refl [b] w
  have ho0 : lv.ownBlock = lv.ownBlock := rfl
  clear h hl hn
  go_enter Try.func65, Try.ntmps65
  go_wp2_with fail
  by_cases hc0 : l.length < 2
  · refine (take16_err (unhide H0) (unhide HL) (by first | omega | (simp; omega))).mono ?_
    rintro e w9 ⟨⟨u, pv, rfl, hu⟩, hrd, hk⟩
    have HG : Hid (GaveUp w b bv 10 (.panicked [{ v := .iface u pv, recovered := false }]) w9) := hide (GaveUp.next hw0 ⟨⟨u, pv, rfl, hu⟩, hrd, hk⟩)
    clear hrd hk hu
    go_wp2
    exact ⟨rfl, unhide HG⟩
  · refine (part16 (unhide H0) (unhide HL) (by first | omega | (simp; omega))).mono ?_
    rintro e w1 ⟨v1, rfl, b1, V1, t1⟩
    obtain ⟨lv1, hr1, ho1, hw1⟩ := t1
    have H1 := hide hr1
    clear hr1 V1
    go_wp2_with fail
    refine (take8_err (unhide H1) (by have := unhide HN; first | omega | (simp; omega))).mono ?_
    rintro e w9 ⟨⟨u, pv, rfl, hu⟩, hrd, hk⟩
    have HG : Hid (GaveUp w b bv 10 (.panicked [{ v := .iface u pv, recovered := false }]) w9) := hide (GaveUp.next hw1 ⟨⟨u, pv, rfl, hu⟩, hrd, hk⟩)
    clear hrd hk hu
    go_wp2
    exact ⟨rfl, unhide HG⟩

set_option maxRecDepth 100000 in
set_option maxHeartbeats 400000 in
theorem takeFixedE4 {w : World} {b : Nat} {lv bv : Value} {l : List Nat} (h : Rd w b lv bv l) (hl : ∀ x ∈ l, x < 256) (hn : l.length < 4) :
    Calls Try.prog 65 #[.pointer (some ⟨b, 0, none⟩), .int .i64 4] w (GaveUp w b bv 10) := by
  have m4 : bits .and .i64 4 4 = 4 := by decide
  have m2 : bits .and .i64 4 2 = 0 := by decide
  have m1 : bits .and .i64 4 1 = 0 := by decide
  have HL := hide hl
  have HN := hide hn
  have H0 := hide h
  have hw0 := Kept.refl [b] w
  have ho0 : lv.ownBlock = lv.ownBlock := rfl
  clear h hl hn
  go_enter Try.func65, Try.ntmps65
  go_wp2_with fail
  refine (take32_err (unhide H0) (unhide HL) (by have := unhide HN; first | omega | (simp; omega))).mono ?_
  rintro e w9 ⟨⟨u, pv, rfl, hu⟩, hrd, hk⟩
  have HG : Hid (GaveUp w b bv 10 (.panicked [{ v := .iface u pv, recovered := false }]) w9) := hide (GaveUp.next hw0 ⟨⟨u, pv, rfl, hu⟩, hrd, hk⟩)
  clear hrd hk hu
  go_wp2
  exact ⟨rfl, unhide HG⟩

set_option maxRecDepth 100000 in
set_option maxHeartbeats 400000 in
theorem takeFixedE5 {w : World} {b : Nat} {lv bv : Value} {l : List Nat} (h : Rd w b lv bv l) (hl : ∀ x ∈ l, x < 256) (hn : l.length < 5) :
    Calls Try.prog 65 #[.pointer (some ⟨b, 0, none⟩), .int .i64 5] w (GaveUp w b bv 10) := by
  have m4 : bits .and .i64 5 4 = 4 := by decide
  have m2 : bits .and .i64 5 2 = 0 := by decide
  have m1 : bits .and .i64 5 1 = 1 := by decide
  have HL := hide hl
  have HN := hide hn
  have H0 := hide h
  have hw0 := Kept.refl [b] w
  have ho0 : lv.ownBlock = lv.ownBlock := rfl
  clear h hl hn
  go_enter Try.func65, Try.ntmps65
  go_wp2_with fail
  by_cases hc0 : l.length < 4
  · refine (take32_err (unhide H0) (unhide HL) (by first | omega | (simp; omega))).mono ?_
    rintro e w9 ⟨⟨u, pv, rfl, hu⟩, hrd, hk⟩
    have HG : Hid (GaveUp w b bv 10 (.panicked [{ v := .iface u pv, recovered := false }]) w9) := hide (GaveUp.next hw0 ⟨⟨u, pv, rfl, hu⟩, hrd, hk⟩)
    clear hrd hk hu
    go_wp2
    exact ⟨rfl, unhide HG⟩
  · refine (part32 (unhide H0) (unhide HL) (by first | omega | (simp; omega))).mono ?_
    rintro e w1 ⟨v1, rfl, b1, V1, t1⟩
    obtain ⟨lv1, hr1, ho1, hw1⟩ := t1
    have H1 := hide hr1
    clear hr1 V1
    go_wp2_with fail
    refine (take8_err (unhide H1) (by have := unhide HN; first | omega | (simp; omega))).mono ?_
    rintro e w9 ⟨⟨u, pv, rfl, hu⟩, hrd, hk⟩
    have HG : Hid (GaveUp w b bv 10 (.panicked [{ v := .iface u pv, recovered := false }]) w9) := hide (GaveUp.next hw1 ⟨⟨u, pv, rfl, hu⟩, hrd, hk⟩)
    clear hrd hk hu
    go_wp2
    exact ⟨rfl, unhide HG⟩

set_option maxRecDepth 100000 in
set_option maxHeartbeats 400000 in
theorem takeFixedE6 {w : World} {b : Nat} {lv bv : Value} {l : List Nat} (h : Rd w b lv bv l) (hl : ∀ x ∈ l, x < 256) (hn : l.length < 6) :
    Calls Try.prog 65 #[.pointer (some ⟨b, 0, none⟩), .int .i64 6] w (GaveUp w b bv 10) := by
  have m4 : bits .and .i64 6 4 = 4 := by decide
  have m2 : bits .and .i64 6 2 = 2 := by decide
  have m1 : bits .and .i64 6 1 = 0 := by decide
  have HL := hide hl
  have HN := hide hn
  have H0 := hide h
  have hw0 := Kept.refl [b] w
  have ho0 : lv.ownBlock = lv.ownBlock := rfl
  clear h hl hn
  go_enter Try.func65, Try.ntmps65
  go_wp2_with fail
  by_cases hc0 : l.length < 4
  · refine (take32_err (unhide H0) (unhide HL) (by first | omega | (simp; omega))).mono ?_
    rintro e w9 ⟨⟨u, pv, rfl, hu⟩, hrd, hk⟩
    have HG : Hid (GaveUp w b bv 10 (.panicked [{ v := .iface u pv, recovered := false }]) w9) := hide (GaveUp.next hw0 ⟨⟨u, pv, rfl, hu⟩, hrd, hk⟩)
    clear hrd hk hu
    go_wp2
    exact ⟨rfl, unhide HG⟩
  · refine (part32 (unhide H0) (unhide HL) (by first | omega | (simp; omega))).mono ?_
    rintro e w1 ⟨v1, rfl, b1, V1, t1⟩
    obtain ⟨lv1, hr1, ho1, hw1⟩ := t1
    have H1 := hide hr1
    clear hr1 V1
    go_wp2_with fail
    refine (take16_err (unhide H1) (fun x hx => unhide HL x (List.mem_of_mem_drop hx)) (by have := unhide HN; first | omega | (simp; omega))).mono ?_
    rintro e w9 ⟨⟨u, pv, rfl, hu⟩, hrd, hk⟩
    have HG : Hid (GaveUp w b bv 10 (.panicked [{ v := .iface u pv, recovered := false }]) w9) := hide (GaveUp.next hw1 ⟨⟨u, pv, rfl, hu⟩, hrd, hk⟩)
    clear hrd hk hu
    go_wp2
    exact ⟨rfl, unhide HG⟩

set_option maxRecDepth 100000 in
set_option maxHeartbeats 400000 in
theorem takeFixedE7 {w : World} {b : Nat} {lv bv : Value} {l : List Nat} (h : Rd w b lv bv l) (hl : ∀ x ∈ l, x < 256) (hn : l.length < 7) :
    Calls Try.prog 65 #[.pointer (some ⟨b, 0, none⟩), .int .i64 7] w (GaveUp w b bv 10) := by
  have m4 : bits .and .i64 7 4 = 4 := by decide
  have m2 : bits .and .i64 7 2 = 2 := by decide
  have m1 : bits .and .i64 7 1 = 1 := by decide
  have HL := hide hl
  have HN := hide hn
  have H0 := hide h
  have hw0 := Kept.refl [b] w
  have ho0 : lv.ownBlock = lv.ownBlock := rfl
  clear h hl hn
  go_enter Try.func65, Try.ntmps65
  go_wp2_with fail
  by_cases hc0 : l.length < 4
  · refine (take32_err (unhide H0) (unhide HL) (by first | omega | (simp; omega))).mono ?_
    rintro e w9 ⟨⟨u, pv, rfl, hu⟩, hrd, hk⟩
    have HG : Hid (GaveUp w b bv 10 (.panicked [{ v := .iface u pv, recovered := false }]) w9) := hide (GaveUp.next hw0 ⟨⟨u, pv, rfl, hu⟩, hrd, hk⟩)
    clear hrd hk hu
    go_wp2
    exact ⟨rfl, unhide HG⟩
  · refine (part32 (unhide H0) (unhide HL) (by first | omega | (simp; omega))).mono ?_
    rintro e w1 ⟨v1, rfl, b1, V1, t1⟩
    obtain ⟨lv1, hr1, ho1, hw1⟩ := t1
    have H1 := hide hr1
    clear hr1 V1
    go_wp2_with fail
    by_cases hc1 : l.length < 6
    · refine (take16_err (unhide H1) (fun x hx => unhide HL x (List.mem_of_mem_drop hx)) (by first | omega | (simp; omega))).mono ?_
      rintro e w9 ⟨⟨u, pv, rfl, hu⟩, hrd, hk⟩
      have HG : Hid (GaveUp w b bv 10 (.panicked [{ v := .iface u pv, recovered := false }]) w9) := hide (GaveUp.next hw1 ⟨⟨u, pv, rfl, hu⟩, hrd, hk⟩)
      clear hrd hk hu
      go_wp2
      exact ⟨rfl, unhide HG⟩
    · refine (part16 (unhide H1) (fun x hx => unhide HL x (List.mem_of_mem_drop hx)) (by first | omega | (simp; omega))).mono ?_
      rintro e w2 ⟨v2, rfl, b2, V2, t2⟩
      replace t2 := TakeN.next ho1 hw1 t2
      obtain ⟨lv2, hr2, ho2, hw2⟩ := t2
      have H2 := hide hr2
      clear hr2 V2
      go_wp2_with fail
      refine (take8_err (unhide H2) (by have := unhide HN; first | omega | (simp; omega))).mono ?_
      rintro e w9 ⟨⟨u, pv, rfl, hu⟩, hrd, hk⟩
      have HG : Hid (GaveUp w b bv 10 (.panicked [{ v := .iface u pv, recovered := false }]) w9) := hide (GaveUp.next hw2 ⟨⟨u, pv, rfl, hu⟩, hrd, hk⟩)
      clear hrd hk hu
      go_wp2
      exact ⟨rfl, unhide HG⟩

set_option maxRecDepth 100000 in
set_option maxHeartbeats 400000 in
theorem takeFixedE8 {w : World} {b : Nat} {lv bv : Value} {l : List Nat} (h : Rd w b lv bv l) (hl : ∀ x ∈ l, x < 256) (hn : l.length < 8) :
    Calls Try.prog 65 #[.pointer (some ⟨b, 0, none⟩), .int .i64 8] w (GaveUp w b bv 10) := by
  have m4 : bits .and .i64 8 4 = 0 := by decide
  have m2 : bits .and .i64 8 2 = 0 := by decide
  have m1 : bits .and .i64 8 1 = 0 := by decide
  have HL := hide hl
  have HN := hide hn
  have H0 := hide h
  have hw0 := Kept.refl [b] w
  have ho0 : lv.ownBlock = lv.ownBlock := rfl
  clear h hl hn
  go_enter Try.func65, Try.ntmps65
  go_wp2_with fail
  refine (take64_err (unhide H0) (unhide HL) (by have := unhide HN; first | omega | (simp; omega))).mono ?_
  rintro e w9 ⟨⟨u, pv, rfl, hu⟩, hrd, hk⟩
  have HG : Hid (GaveUp w b bv 10 (.panicked [{ v := .iface u pv, recovered := false }]) w9) := hide (GaveUp.next hw0 ⟨⟨u, pv, rfl, hu⟩, hrd, hk⟩)
  clear hrd hk hu
  go_wp2
  exact ⟨rfl, unhide HG⟩

theorem takeFixed_err {w : World} {b : Nat} {lv bv : Value} {l : List Nat} (h : Rd w b lv bv l) (hl : ∀ x ∈ l, x < 256) (size : Nat) (h1 : 1 ≤ size) (h8 : size ≤ 8) (hn : l.length < size) :
    Calls Try.prog 65 #[.pointer (some ⟨b, 0, none⟩), .int .i64 size] w (GaveUp w b bv 10) := by
  match size, h1, h8, hn with
  | 1, _, _, hn => exact takeFixedE1 h hl hn
  | 2, _, _, hn => exact takeFixedE2 h hl hn
  | 3, _, _, hn => exact takeFixedE3 h hl hn
  | 4, _, _, hn => exact takeFixedE4 h hl hn
  | 5, _, _, hn => exact takeFixedE5 h hl hn
  | 6, _, _, hn => exact takeFixedE6 h hl hn
  | 7, _, _, hn => exact takeFixedE7 h hl hn
  | 8, _, _, hn => exact takeFixedE8 h hl hn
end Go.Proofs.Ytiabhgkndejigab
