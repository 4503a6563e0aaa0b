/- CRC, FNV, Back. -/
import Derived.Test.YtlcepoomjnpfpaaDoorTab
namespace Go.Proofs.YtlcepoomjnpfpaaDoor
open Go.RowKit

theorem Sees.nil (w : World) : Sees w (.slice none 0 0) [] := ⟨none, 0, rfl, by simp, by simp [maxLen], by simp, Or.inl rfl⟩

/-- CRC of bytes -/
def crc (bs : List Nat) : Nat := grown 0 bs

set_option maxRecDepth 100000 in
set_option maxHeartbeats 400000 in
theorem crc_any {w : World} {v : Value} {bs : List Nat} (ht : Tab w) (hs : Sees w v bs) :
    Calls Tryd.prog 21 #[v] w fun e w' => e = .returned (.int .u32 (crc bs : Nat)) ∧ w' = w := by
  have HG : Hid (Calls Tryd.prog 26 #[.int .u32 0, v] w fun e w' => e = .returned (.int .u32 (crc bs : Nat)) ∧ w' = w) := grow_any ht hs 0 (by omega)
  clear hs ht
  generalize crc bs = g at HG
  go_enter Tryd.func21, Tryd.ntmps21
  go_wp2_with (first | (go_at_call 26; refine (unhide HG).mono ?_; rintro e w1 ⟨rfl, rfl⟩))
  go_ret
  exact ⟨rfl, rfl⟩

/-- a mark takes a byte; bytes -/
def mark1 (h b : Nat) : Nat := (h ^^^ b) * 1099511628211 % 18446744073709551616
def marks (h : Nat) (bs : List Nat) : Nat := bs.foldl mark1 h
theorem mark1_lt (h b : Nat) : mark1 h b < 18446744073709551616 := Nat.mod_lt _ (by omega)
theorem marks_nil (v : Nat) : marks v [] = v := rfl
theorem marks_cons (v b : Nat) (bs : List Nat) : marks v (b :: bs) = marks (mark1 v b) bs := rfl
theorem marks_append (v : Nat) (a b : List Nat) : marks v (a ++ b) = marks (marks v a) b := List.foldl_append ..
theorem marks_lt {v : Nat} (hv : v < 18446744073709551616) (bs : List Nat) : marks v bs < 18446744073709551616 := by
  induction bs generalizing v with
  | nil => rw [marks_nil]; exact hv
  | cons x bs ih => rw [marks_cons]; exact ih (mark1_lt _ _)
theorem marks_succ (v : Nat) (bs : List Nat) (k : Nat) (hk : k < bs.length) : marks v (bs.take (k + 1)) = mark1 (marks v (bs.take k)) (bs.getD k 0) := by
  rw [List.take_add_one, marks_append, List.getElem?_eq_getElem hk, List.getD, List.getElem?_eq_getElem hk, Option.toList_some, marks_cons, marks_nil, Option.getD_some]
def fnv0 : Nat := 14695981039346656037

/-- the slice v holds these slices, which read as these bytes -/
def Parts (w : World) (v : Value) (ps : List (Value × List Nat)) : Prop :=
  ∃ a cap, v = .slice a ps.length cap ∧ ps.length ≤ cap ∧ cap ≤ maxLen ∧ (∀ p ∈ ps, Sees w p.1 p.2) ∧
    (ps = [] ∨ ∃ b off, a = some ⟨b, off, none⟩ ∧ b < w.heap.size ∧ ∀ j p, ps[j]? = some p → w.cell? ⟨b, off + j, none⟩ = some p.1)
def catP (ps : List (Value × List Nat)) : List Nat := (ps.map (·.2)).flatten
theorem catP_succ (ps : List (Value × List Nat)) (k : Nat) (hk : k < ps.length) : catP (ps.take (k + 1)) = catP (ps.take k) ++ ps[k].2 := by
  unfold catP
  rw [List.take_add_one, List.getElem?_eq_getElem hk, Option.toList_some, List.map_append, List.flatten_append]
  simp only [List.map_cons, List.map_nil, List.flatten_cons, List.flatten_nil, List.append_nil]

theorem Parts.nil (w : World) : Parts w (.slice none 0 0) [] := ⟨none, 0, rfl, by simp, by simp [maxLen], by simp, Or.inl rfl⟩

theorem at_sees {w : World} {a : Option Addr} {L : Nat} {bs : List Nat} (hL : bs.length = L) (h : bs = [] ∨ ∃ b off, a = some ⟨b, off, none⟩ ∧ b < w.heap.size ∧ ∀ j, j < bs.length → w.cell? ⟨b, off + j, none⟩ = some (.int .u8 (bs.getD j 0 : Nat))) {k : Nat} (hk : k < L) :
    ∃ b off, a = some ⟨b, off, none⟩ ∧ w.cell? ⟨b, off + k, none⟩ = some (.int .u8 (bs.getD k 0 : Nat)) := by
  rcases h with h | ⟨b, off, h1, _, h3⟩
  · subst h; simp at hL; omega
  · exact ⟨b, off, h1, h3 k (by omega)⟩

theorem getD_lt {bs : List Nat} (h : ∀ b ∈ bs, b < 256) {k : Nat} (hk : k < bs.length) : bs.getD k 0 < 256 := by
  rw [List.getD, List.getElem?_eq_getElem hk]
  exact h _ (List.getElem_mem hk)

theorem wrap_mul (y c : Nat) : IntKind.u64.wrap ((y : Int) * (c : Int)) = ((y * c % 18446744073709551616 : Nat) : Int) := by
  rw [IntKind.wrap_u64]
  simp

set_option maxRecDepth 100000 in
set_option maxHeartbeats 1000000 in
theorem fnv_any {w : World} {v : Value} {ps : List (Value × List Nat)} (hs : Parts w v ps) :
    Calls Tryd.prog 22 #[v] w fun e w' => e = .returned (.int .u64 (marks fnv0 (catP ps) : Nat)) ∧ w' = w := by
  obtain ⟨a, cap, rfl, h1, h2, h3, h4⟩ := hs
  have hml : ps.length ≤ 9223372036854775807 := by unfold maxLen at h2; omega
  have H3 := hide h3
  have H4 := hide h4
  clear h3 h4
  generalize hL : ps.length = L at *
  have HL := hide hL
  clear hL
  go_enter Tryd.func22, Tryd.ntmps22
  go_wp2_with fail
  go_loop [3, 10] (fun r i => ∃ k : Nat, k ≤ L ∧ i = .int .i64 k ∧ r = .int .u64 (marks fnv0 (catP (ps.take k)) : Nat)) (fun _ i => L - (intOf i).toNat)
  case atStart => exact ⟨0, by omega, rfl, rfl⟩
  case round =>
    obtain ⟨k, hk, rfl, rfl⟩ := hrel
    have hlt : marks fnv0 (catP (ps.take k)) < 18446744073709551616 := marks_lt (by unfold fnv0; omega) _
    by_cases hkl : k < L
    · have hk2 : k < ps.length := by rw [unhide HL]; exact hkl
      obtain ⟨b, off, hc⟩ : ∃ b off, a = some ⟨b, off, none⟩ ∧ w.cell? ⟨b, off + k, none⟩ = some (ps[k].1) := by
        rcases unhide H4 with h | ⟨b, off, q1, _, q3⟩
        · subst h; simp at hk2
        · exact ⟨b, off, q1, q3 k ps[k] (List.getElem?_eq_getElem hk2)⟩
      obtain ⟨rfl, hc⟩ := hc
      obtain ⟨pa, pc, hpv, g1, g2, g3, g4⟩ := unhide H3 ps[k] (List.getElem_mem hk2)
      rw [hpv] at hc
      have HE : Hid (marks fnv0 (catP (ps.take (k + 1))) = marks (marks fnv0 (catP (ps.take k))) ps[k].2) := by
        have := catP_succ ps k hk2
        unfold Hid
        rw [this, marks_append]
      clear hpv
      generalize ps[k].2 = bs at hc HE g1 g3 g4
      generalize hml2 : bs.length = M at hc g1
      have hM : M ≤ 9223372036854775807 := by unfold maxLen at g2; omega
      generalize marks fnv0 (catP (ps.take k)) = m0 at hlt HE
      have HM := hide hml2
      have G3 := hide g3
      have G4 := hide g4
      clear g3 g4 hml2
      go_wp2_with fail
      go_loop [3, 16] (fun r i => ∃ j : Nat, j ≤ M ∧ i = .int .i64 j ∧ r = .int .u64 (marks m0 (bs.take j) : Nat)) (fun _ i => M - (intOf i).toNat)
      case atStart => exact ⟨0, by omega, rfl, rfl⟩
      case round =>
        obtain ⟨j, hj, rfl, rfl⟩ := hrel
        have hl2 := marks_lt hlt (bs.take j)
        by_cases hjl : j < M
        · obtain ⟨pb, poff, rfl, hpc⟩ := at_sees (unhide HM) (unhide G4) hjl
          have hx := getD_lt (unhide G3) (show j < bs.length by rw [unhide HM]; exact hjl)
          have HS := hide (marks_succ m0 bs j (by rw [unhide HM]; exact hjl))
          generalize bs.getD j 0 = x at hpc hx HS
          generalize marks m0 (bs.take j) = r at hl2 HS
          have e1 := u64_xor_nat r x hl2 (by omega)
          have HS2 : Hid (marks m0 (bs.take (j + 1)) = (r ^^^ x) * 1099511628211 % 18446744073709551616) := by
            have := unhide HS
            unfold mark1 at this
            exact this
          clear HS
          generalize r ^^^ x = y at e1 HS2
          go_wp2
          exact ⟨⟨j + 1, by omega, by simp, by rw [unhide HS2]; exact congrArg (Value.int .u64) (wrap_mul y 1099511628211)⟩, by simp [intOf]; omega⟩
        · obtain rfl : j = M := by omega
          have hfull : bs.take j = bs := by rw [← unhide HM, List.take_length]
          rw [hfull]
          go_wp2
          exact ⟨⟨k + 1, by omega, by simp, by rw [unhide HE]⟩, by simp [intOf]; omega⟩
    · obtain rfl : k = L := by omega
      have hfull : ps.take k = ps := by rw [← unhide HL, List.take_length]
      rw [hfull]
      go_wp2
      go_ret
      exact ⟨rfl, rfl⟩

/-- a byte is given back; bytes, the last one first -/
def back1 (b h : Nat) : Nat := (h * 14886173955864302971 % 18446744073709551616) ^^^ b
def backs (h : Nat) (bs : List Nat) : Nat := bs.foldr back1 h
theorem backs_cons (h b : Nat) (bs : List Nat) : backs h (b :: bs) = back1 b (backs h bs) := by
  unfold backs
  rw [List.foldr_cons]
theorem back1_lt {b : Nat} (h : Nat) (hb : b < 256) : back1 b h < 18446744073709551616 := by
  unfold back1
  have h1 : h * 14886173955864302971 % 18446744073709551616 < 18446744073709551616 := Nat.mod_lt _ (by omega)
  generalize h * 14886173955864302971 % 18446744073709551616 = x at h1
  exact Nat.xor_lt_two_pow (n := 64) (by omega) (by omega)
theorem backs_lt {h : Nat} (hh : h < 18446744073709551616) (bs : List Nat) (hb : ∀ b ∈ bs, b < 256) : backs h bs < 18446744073709551616 := by
  cases bs with
  | nil => exact hh
  | cons b bs => rw [backs_cons]; exact back1_lt _ (hb b (by simp))
theorem drop_at {bs : List Nat} {k : Nat} (hk : k < bs.length) : bs.drop k = bs.getD k 0 :: bs.drop (k + 1) := by
  rw [List.getD, List.getElem?_eq_getElem hk, Option.getD_some]
  exact List.drop_eq_getElem_cons hk

set_option maxRecDepth 100000 in
set_option maxHeartbeats 1000000 in
theorem back_mark {w : World} {v : Value} {bs : List Nat} (hs : Sees w v bs) (h : Nat) (hh : h < 18446744073709551616) :
    Calls Tryd.prog 19 #[.int .u64 h, v] w fun e w' => e = .returned (.int .u64 (backs h bs : Nat)) ∧ w' = w := by
  obtain ⟨a, cap, rfl, h1, h2, h3, h4⟩ := hs
  have hml : bs.length ≤ 9223372036854775807 := by unfold maxLen at h2; omega
  have H3 := hide h3
  have H4 := hide h4
  clear h3 h4
  generalize hL : bs.length = L at h1 hml
  have HL := hide hL
  clear hL
  go_enter Tryd.func19, Tryd.ntmps19
  go_wp2_with fail
  go_loop [0, 5] (fun r i => ∃ k : Nat, k ≤ L ∧ i = .int .i64 ((k : Int) - 1) ∧ r = .int .u64 (backs h (bs.drop k) : Nat)) (fun _ i => (intOf i + 1).toNat)
  case atStart =>
    refine ⟨L, by omega, ?_, ?_⟩
    · first | rfl | (simp; omega) | (simp [IntKind.wrap_i64]; omega)
    · rw [← unhide HL, List.drop_length]; rfl
  case round =>
    obtain ⟨k, hk, rfl, rfl⟩ := hrel
    by_cases hpos : 0 < k
    · obtain ⟨m, rfl⟩ : ∃ m, k = m + 1 := ⟨k - 1, by omega⟩
      have em : ((m + 1 : Nat) : Int) - 1 = (m : Int) := by omega
      rw [em]
      have hl := backs_lt hh (bs.drop (m + 1)) (fun b hb => unhide H3 b (List.mem_of_mem_drop hb))
      obtain ⟨b, off, rfl, hc⟩ := at_sees (unhide HL) (unhide H4) (show m < L by omega)
      have hx := getD_lt (unhide H3) (show m < bs.length by rw [unhide HL]; omega)
      have HS : Hid (backs h (bs.drop m) = back1 (bs.getD m 0) (backs h (bs.drop (m + 1)))) := by
        unfold Hid
        rw [drop_at (show m < bs.length by rw [unhide HL]; omega), backs_cons]
      generalize bs.getD m 0 = x at hc hx HS
      generalize backs h (bs.drop (m + 1)) = r at hl HS
      have w1 := wrap_mul r 14886173955864302971
      have hm : r * 14886173955864302971 % 18446744073709551616 < 18446744073709551616 := Nat.mod_lt _ (by omega)
      have HS2 : Hid (backs h (bs.drop m) = (r * 14886173955864302971 % 18446744073709551616) ^^^ x) := by
        have := unhide HS
        unfold back1 at this
        exact this
      clear HS
      generalize r * 14886173955864302971 % 18446744073709551616 = y at w1 hm HS2
      have w2 : IntKind.u64.wrap ((r : Int) * 14886173955864302971) = (y : Int) := w1
      have e1 := u64_xor_nat y x hm (by omega)
      generalize y ^^^ x = z at e1 HS2
      have t1 : (0 : Int) ≤ (m : Int) := by omega
      clear em w1
      go_wp2
      exact ⟨⟨m, by omega, rfl, by rw [unhide HS2]⟩, by first | (simp [intOf]; done) | (simp [intOf]; omega)⟩
    · obtain rfl : k = 0 := by omega
      go_wp2
      go_ret
      exact ⟨rfl, rfl⟩
end Go.Proofs.YtlcepoomjnpfpaaDoor
