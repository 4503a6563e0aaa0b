/- A text at the beginning of some bytes. -/
import Derived.Test.YtigmofbammofbabKTakeF
namespace Go.Proofs.Ytigmofbammofbab
open Go.RowKit

theorem takeT_esc (r : List Nat) : takeT (0 :: 255 :: r) = (takeT r).map fun x => (0 :: x.1, x.2) := by simp [takeT]
theorem takeT_end0 : takeT [0] = some ([], []) := by simp [takeT]
theorem takeT_end (y : Nat) (r : List Nat) (h : y ≠ 255) : takeT (0 :: y :: r) = some ([], y :: r) := by
  unfold takeT
  split
  · rename_i h1; cases h1
  · rename_i h1; cases h1; exact absurd rfl h
  · rename_i h1; cases h1; rfl
  · rename_i h1 h2; cases h2; exact absurd rfl h1
theorem takeT_byte (x : Nat) (r : List Nat) (h : x ≠ 0) : takeT (x :: r) = (takeT r).map fun y => (x :: y.1, y.2) := by
  rw [takeT]
  · rintro r' rfl; exact absurd rfl h
  · rintro rfl; exact absurd rfl h
theorem drop_at (bs : List Nat) (k : Nat) (h : k < bs.length) : bs.drop k = bs.getD k 0 :: bs.drop (k + 1) := by
  rw [List.drop_eq_getElem_cons h, List.getD, List.getElem?_eq_getElem h]; rfl
theorem map_acc (o : Option (List Nat × List Nat)) (acc : List Nat) (x : Nat) : (o.map fun y => (x :: y.1, y.2)).map (fun y => (acc ++ y.1, y.2)) = o.map fun y => (acc ++ [x] ++ y.1, y.2) := by
  cases o <;> simp

theorem Sees.empty (w : World) (A : Option Addr) (C : Nat) (h : C ≤ 9223372036854775807) : Sees w (.slice A 0 C) [] := ⟨A, C, rfl, by simp, by unfold maxLen; omega, by simp, Or.inl rfl⟩
/-- the answer of takeText -/
def OutT (bo : Option Nat) (o : Option (List Nat × List Nat)) (B : Nat) (w : World) (e : Ending) : Prop :=
  match o with
  | some (x, r) => ∃ ta tn tc ra m rc, e = .returned (.tuple #[.slice ta tn tc, .slice ra m rc, .int .i64 0]) ∧ x.length = tn ∧ w.ownsRow B 5 1 (.slice ta tn tc) tn (u8s x) ∧ r.length = m ∧ Sees w (.slice ra m rc) r ∧ (Value.slice ra m rc).ownBlock = bo
  | none => e = .returned (.tuple #[.slice none 0 0, .slice none 0 0, .int .i64 40])

set_option maxRecDepth 100000 in
set_option maxHeartbeats 2000000 in
theorem takeText_any {w : World} {v : Value} {bs : List Nat} (hs : Sees w v bs) (hl : bs.length ≤ 140737488355328) :
    Calls Try.prog 48 #[v] w fun e w' => OutT v.ownBlock (takeT bs) w.heap.size w' e ∧ Kept [] w w' := by
  have HS := hide hs
  obtain ⟨a, cap, rfl, h1, h2, h3, h4⟩ := hs
  have H3 := hide h3
  have H4 := hide h4
  clear h3 h4
  unfold maxLen at h2
  generalize hL : bs.length = L at h1 hl HS ⊢
  have HL := hide hL
  clear hL
  have HNIL : Hid (w.ownsRow w.heap.size 5 1 (.slice none 0 0) 0 (u8s [])) := own_nil w _
  go_enter Try.func48, Try.ntmps48
  go_wp2_with fail
  go_loopw [5, 6] (fun t i wr => ∃ (k : Nat) (acc : List Nat) (a' : Option Addr) (n' c' : Nat), i = .int .i64 k ∧ t = .slice a' n' c' ∧ k ≤ L ∧ acc.length = n' ∧ n' ≤ k ∧ takeT bs = (takeT (bs.drop k)).map (fun y => (acc ++ y.1, y.2)) ∧ LayS w.heap.size w (.slice none 0 0) wr (.slice a' n' c') acc) (fun _ i _ => L - (intOf i).toNat)
  case atStart => exact ⟨0, [], none, 0, 0, rfl, rfl, by omega, rfl, Nat.le_refl _, by simp, LayS.refl (unhide HNIL)⟩
  case round =>
    obtain ⟨k, acc, a', n', c', rfl, rfl, hk, hn', hnk, htk, hls⟩ := hrel
    have HLS := hide hls
    have HTK := hide htk
    have HN := hide hn'
    clear hls htk hn'
    have hkp : Kept [] w wr := by have := (unhide HLS).kept; simpa [Value.ownBlock] using this
    have HKP := hide hkp
    by_cases hkl : k < L
    · obtain ⟨b, off, rfl, hc0⟩ := at_sees (k := k) (unhide HL) (unhide H4) hkl
      have hb : b < w.heap.size := by
        rcases unhide H4 with h | ⟨b', off', h, h5, _⟩
        · have := unhide HL; rw [h] at this; simp at this; omega
        · cases h; exact h5
      have hc : wr.cell? ⟨b, off + k, none⟩ = some (.int .u8 (bs.getD k 0 : Nat)) := (hkp.cell (p := ⟨b, _, none⟩) hb (by simp)).trans hc0
      have hx := getD_lt (unhide H3) (show k < bs.length by rw [unhide HL]; exact hkl)
      rw [drop_at bs k (by rw [unhide HL]; exact hkl)] at HTK
      clear hc0 hkp
      generalize bs.getD k 0 = x at *
      have t1 : (k : Int) < (L : Int) := by omega
      by_cases hx0 : x = 0
      · have t2 : ((x : Int) == 0) = true := by rw [hx0]; rfl
        by_cases hlast : k + 1 = L
        · -- the text's end, at the bytes' end
          have t3 : ((k : Int) + 1 == (L : Int)) = true := by simp; omega
          have hdr : bs.drop (k + 1) = [] := List.drop_eq_nil_of_le (by rw [unhide HL]; omega)
          rw [hx0, hdr, takeT_end0] at HTK
          simp only [Option.map_some, List.append_nil] at HTK
          have e9 : L - (k + 1) = 0 := by omega
          have HOW : Hid (wr.ownsRow w.heap.size 5 1 (.slice a' n' c') n' (u8s acc)) := by have := (unhide HLS).own; rw [unhide HN] at this; exact this
          clear hx0 hdr
          go_wp2
          go_region
          go_wp2
          all_goals go_ret3
          all_goals exact ⟨by rw [unhide HTK]; exact ⟨a', n', c', _, 0, _, rfl, unhide HN, own_kept (unhide HOW) (Kept.refl [] wr).drew (by simp), rfl, Sees.empty _ _ _ (by omega), rfl⟩, (unhide HKP).drew⟩
        · have t3 : ((k : Int) + 1 == (L : Int)) = false := by simp; omega
          obtain ⟨b2, off2, hb2, hc2⟩ := at_sees (k := k + 1) (unhide HL) (unhide H4) (by omega)
          have hb3 : b2 = b ∧ off2 = off := by cases hb2; exact ⟨rfl, rfl⟩
          obtain ⟨rfl, rfl⟩ := hb3
          have hc3 : wr.cell? ⟨b2, off2 + (k + 1), none⟩ = some (.int .u8 (bs.getD (k + 1) 0 : Nat)) := ((unhide HKP).cell (p := ⟨b2, _, none⟩) hb (by simp)).trans hc2
          have hy := getD_lt (unhide H3) (show k + 1 < bs.length by rw [unhide HL]; omega)
          have hd1 := drop_at bs (k + 1) (by rw [unhide HL]; omega)
          clear hc2 hb2
          by_cases hy2 : bs.getD (k + 1) 0 = 255
          · rw [hd1, hx0, hy2, takeT_esc, map_acc] at HTK
            rw [hy2] at hc3
            obtain ⟨X1, hX1⟩ : ∃ X1, acc ++ [0] = X1 := ⟨_, rfl⟩
            rw [hX1] at HTK
            have HX1 := hide hX1
            have HX1l : Hid (X1.length = n' + 1) := by unfold Hid; rw [← hX1, List.length_append, unhide HN]; rfl
            have HX1b : Hid (acc.length + [0].length ≤ 140737488355328) := by unfold Hid; rw [unhide HN]; simp; omega
            have HLA := hide ((unhide HLS).alloc (.cells #[.int .u8 0] 5))
            have HS1 : Hid (Sees (wr.alloc (.cells #[.int .u8 0] 5)) (.slice (some ⟨wr.heap.size, 0, none⟩) 1 1) [0]) := sees_one wr 0 (by omega)
            have hc4 : wr.cell? ⟨b2, off2 + (k + 1), none⟩ = some (.int .u8 255) := hc3
            clear hx0 hd1 hX1 hc3 hy2
            go_wp2_with (at_builtin; refine wpList_append_lay _ rfl _ _ rfl rfl HLA rfl HS1 HX1b ((unhide HLA).hb (Nat.le_refl _)) (n' + 1) X1 HX1 HX1l ?_)
            intro a2 c2 w2 HL2
            go_wp2
            exact ⟨⟨k + 2, X1, a2, n' + 1, c2, by simp; omega, rfl, by omega, unhide HX1l, by omega, unhide HTK, unhide HL2⟩, by simp [intOf]; omega⟩
          · rw [hd1, hx0, takeT_end _ _ hy2] at HTK
            simp only [Option.map_some, List.append_nil] at HTK
            rw [← hd1] at HTK
            have HSR := hide (fun A C hA hC => (unhide HS).drop' (k + 1) (L - (k + 1)) (by omega) A C hA hC)
            have HSL : Hid ((bs.drop (k + 1)).length = L - (k + 1)) := by unfold Hid; rw [List.length_drop, unhide HL]
            have HOW : Hid (wr.ownsRow w.heap.size 5 1 (.slice a' n' c') n' (u8s acc)) := by have := (unhide HLS).own; rw [unhide HN] at this; exact this
            generalize bs.getD (k + 1) 0 = y at *
            have t4 : ((y : Int) != 255) = true := by simp; omega
            clear hx0 hd1
            go_wp2
            go_region
            go_wp2
            all_goals go_ret3
            all_goals exact ⟨by rw [unhide HTK]; exact ⟨a', n', c', _, L - (k + 1), _, rfl, unhide HN, own_kept (unhide HOW) (Kept.refl [] wr).drew (by simp), unhide HSL, (unhide HSR _ _ (by first | rw [if_neg (by omega)] | rw [if_pos (by omega)] | simp [*]) (by omega)).kept (F := []) (unhide HKP).drew (Or.inr (by simp)), rfl⟩, (unhide HKP).drew⟩
      · rw [takeT_byte _ _ hx0, map_acc] at HTK
        have t2 : ((x : Int) == 0) = false := by simp; omega
        obtain ⟨X1, hX1⟩ : ∃ X1, acc ++ [x] = X1 := ⟨_, rfl⟩
        rw [hX1] at HTK
        have HX1 := hide hX1
        have HX1l : Hid (X1.length = n' + 1) := by unfold Hid; rw [← hX1, List.length_append, unhide HN]; rfl
        have HX1b : Hid (acc.length + [x].length ≤ 140737488355328) := by unfold Hid; rw [unhide HN]; simp; omega
        have HLA := hide ((unhide HLS).alloc (.cells #[.int .u8 (x : Int)] 5))
        have HS1 := hide (sees_one wr x hx)
        clear hX1
        go_wp2_with (at_builtin; refine wpList_append_lay _ rfl _ _ rfl rfl HLA rfl HS1 HX1b ((unhide HLA).hb (Nat.le_refl _)) (n' + 1) X1 HX1 HX1l ?_)
        intro a2 c2 w2 HL2
        go_wp2
        exact ⟨⟨k + 1, X1, a2, n' + 1, c2, by simp, rfl, by omega, unhide HX1l, by omega, unhide HTK, unhide HL2⟩, by simp [intOf]; omega⟩
    · obtain rfl : k = L := by omega
      have hdr : bs.drop k = [] := List.drop_eq_nil_of_le (by rw [unhide HL]; omega)
      rw [hdr] at HTK
      have hnone : takeT bs = none := by rw [unhide HTK]; rfl
      have HNO := hide hnone
      clear hnone hdr
      have t1 : ((k : Int) < (k : Int)) = False := by simp
      go_wp2
      go_ret3
      exact ⟨by rw [unhide HNO]; rfl, unhide HKP⟩
end Go.Proofs.Ytigmofbammofbab
