/- num, can, filled, known. -/
import Derived.Test.YtgiifedljebclaaRAdd
import Derived.Test.YtgiifedljebclaaRAsk
namespace Go.Proofs.Ytgiifedljebclaa
open Go.RowKit

set_option maxRecDepth 100000 in
theorem num_any {w : World} (x : Int) : Calls Try.prog 16 #[.int .i64 x] w fun e w' => e = .returned (.int .i64 x) ∧ w' = w := by
  go_enter Try.func16, Try.ntmps16
  go_wp2
  go_ret
  exact ⟨rfl, rfl⟩
set_option maxRecDepth 100000 in
theorem can_any {w : World} (x : Int) : Calls Try.prog 40 #[.int .i64 x] w fun e w' => e = .returned (.bool (decide (2 ≤ x ∧ x ≤ 1024))) ∧ w' = w := by
  by_cases h1 : 2 ≤ x
  · by_cases h2 : x ≤ 1024
    · rw [decide_eq_true ⟨h1, h2⟩]
      go_enter Try.func40, Try.ntmps40
      go_wp2
      go_ret
      exact ⟨by simp [Array.getD], rfl⟩
    · rw [decide_eq_false (fun h => h2 h.2)]
      go_enter Try.func40, Try.ntmps40
      go_wp2
      go_ret
      exact ⟨by simp [Array.getD], rfl⟩
  · rw [decide_eq_false (fun h => h1 h.1)]
    go_enter Try.func40, Try.ntmps40
    go_wp2
    go_ret
    exact ⟨by simp [Array.getD], rfl⟩
set_option maxRecDepth 100000 in
theorem add_nil {w : World} (x : Value) : Calls Try.prog 17 #[.pointer none, x] w fun e w' => e = .returned (.int .i64 1) ∧ w' = w := by
  go_enter Try.func17, Try.ntmps17
  go_wp2
  go_ret
  exact ⟨rfl, rfl⟩

/-- what filled makes -/
def Filled (w w' : World) (b inv : Nat) (l : List Int) : Prop := ∃ v, Sk w' b inv l.length (foldE gtV inv 0 [] l) v ∧ Kept [] w w' ∧ w.heap.size ≤ b ∧ ∀ k, v.ownBlock = some k → w.heap.size ≤ k

set_option maxHeartbeats 1000000 in
set_option maxRecDepth 100000 in
theorem filled_any {w : World} {v : Value} {l : List Int} {inv : Nat} (hs : SeesI w v l) (h2 : 2 ≤ inv) (hi : inv ≤ 1024) (hl : l.length ≤ 549755813888) :
    Calls Try.prog 39 #[.int .i64 (inv : Int), v] w fun e w' => ∃ b, e = .returned (.pointer (some ⟨b, 0, none⟩)) ∧ Filled w w' b inv l := by
  have HS := hide hs
  obtain ⟨p, pc, rfl, hc1, hc2, -⟩ := hs
  generalize hL : l.length = L at *
  have HL := hide hL
  clear hL
  have HN := hide (new_yes (w := w) h2 hi)
  go_enter Try.func39, Try.ntmps39
  go_wp2_with (first | (go_at_call 9; refine (unhide HN).mono ?_; rintro e w1 ⟨rfl, hs1, hk1⟩; have HS1 := hide hs1; have HK1 := hide hk1; clear hs1 hk1 HN))
  go_loopw [6] (fun s5 wr => ∃ k : Nat, k ≤ L ∧ s5 = .int .i64 k ∧ ∃ v, Sk wr w.heap.size inv k (foldE gtV inv 0 [] (l.take k)) v ∧ Kept [] w wr ∧ ∀ j, v.ownBlock = some j → w.heap.size ≤ j) (fun s5 _ => L - (intOf s5).toNat)
  case atStart => exact ⟨0, by omega, rfl, _, unhide HS1, unhide HK1, by simp [Value.ownBlock]⟩
  case round =>
    obtain ⟨k, hk, rfl, v, hsk, hkp, hown⟩ := hrel
    have HSK := hide hsk
    have HK := hide hkp
    by_cases hkl : k < L
    · have hs1 := (unhide HS).kept (unhide HK) (Or.inr (by simp))
      obtain ⟨a', c', hv, -, -, h4⟩ := hs1
      have hv1 : a' = p := by cases hv; rfl
      subst hv1
      obtain ⟨b, off, hpa, hc⟩ := at_int (k := k) (unhide HL) h4 hkl
      subst hpa
      clear hv h4
      have hfit : Fit gtV k (foldE gtV inv 0 [] (l.take k)) := by
        have := fit_fold behindV (inv := inv) (l.take k) (fit_nil gtV)
        rwa [Nat.zero_add, List.length_take, Nat.min_eq_left (by rw [unhide HL]; exact hk)] at this
      have HA := hide (add_any hsk hfit h2 hi (by omega) (l.getD k 0))
      have HST : Hid (foldE gtV inv 0 [] (l.take (k + 1)) = stepE gtV inv k (foldE gtV inv 0 [] (l.take k)) (l.getD k 0)) := by
        have hkl' : k < l.length := by rw [unhide HL]; exact hkl
        have e : l.take (k + 1) = l.take k ++ [l.getD k 0] := by
          rw [List.take_add_one, List.getElem?_eq_getElem hkl', Option.toList_some]
          simp [List.getD, List.getElem?_eq_getElem hkl']
        have e2 : (l.take k).length = k := by simp; omega
        exact (show _ = _ by rw [e, foldE_snoc, e2, Nat.zero_add])
      have HM := hide (fun w => num_any (w := w) 0)
      have HOW := hide hown
      clear hsk hkp hown hfit
      generalize l.getD k 0 = x at *
      have t1 : ((k : Int) < (L : Int)) = True := by simp; omega
      go_wp2_with (first
        | (go_at_call 17; refine (unhide HA).mono ?_; rintro e w3 ⟨rfl, v3, hs3, hk3, hb3⟩; have HS3 := hide hs3; have HK3 := hide hk3; have HB3 := hide hb3; clear hs3 hk3 hb3 HA)
        | (go_at_call 16; refine (unhide HM _).mono ?_; rintro e w4 ⟨rfl, hq⟩; have hq' := hq.symm; subst hq'))
      refine ⟨⟨k + 1, by omega, by simp, v3, by rw [unhide HST]; exact unhide HS3, (unhide HK).trans (unhide HK3) (fun j hj => ?_), fun j hj => ?_⟩, by simp [intOf]; omega⟩
      · rcases List.mem_cons.1 hj with rfl | hj
        · exact Or.inr (Nat.le_refl _)
        · exact Or.inr (unhide HOW j (by simpa using hj))
      · rcases unhide HB3 with h | ⟨i, h1, h3⟩
        · exact unhide HOW j (by rw [← h]; exact hj)
        · rw [h1] at hj; cases hj
          exact Nat.le_trans (unhide HK).size h3
    · obtain rfl : k = L := by omega
      have he : l.take k = l := List.take_of_length_le (by rw [unhide HL]; omega)
      rw [he] at HSK
      have HOW := hide hown
      clear hsk hkp hown he
      have t1 : ((k : Int) < (k : Int)) = False := by simp
      go_wp2
      go_ret
      exact ⟨_, rfl, v, by rw [unhide HL]; exact unhide HSK, unhide HK, Nat.le_refl _, unhide HOW⟩

set_option maxRecDepth 100000 in
theorem filled_no {w : World} {v : Value} {l : List Int} {inv : Int} (hs : SeesI w v l) (h : inv < 2 ∨ 1024 < inv) :
    Calls Try.prog 39 #[.int .i64 inv, v] w fun e w' => e = .returned (.pointer none) ∧ Kept [] w w' := by
  have HS := hide hs
  obtain ⟨p, pc, rfl, hc1, hc2, h4⟩ := hs
  have HN := hide (new_no (w := w) h)
  clear h
  have HM := hide (fun w => num_any (w := w) 1)
  have HA := hide (fun w x => add_nil (w := w) x)
  by_cases h0 : l = []
  · subst h0
    go_enter Try.func39, Try.ntmps39
    go_wp2_with (first | (go_at_call 9; refine (unhide HN).mono ?_; rintro e w1 ⟨rfl, hq⟩; have hq' := hq.symm; subst hq'))
    go_loopw [6] (fun s5 wr => s5 = .int .i64 0 ∧ wr = w) (fun _ _ => 0)
    case atStart => exact ⟨rfl, rfl⟩
    case round =>
      obtain ⟨rfl, rfl⟩ := hrel
      go_wp2
      go_ret
      exact ⟨rfl, Kept.refl _ _⟩
  · have hpos : 0 < l.length := List.length_pos_iff.2 h0
    obtain ⟨b, off, hpa, hc⟩ := at_int (k := 0) rfl h4 hpos
    subst hpa
    rw [Nat.add_zero] at hc
    clear h4 h0
    generalize l.getD 0 0 = x at *
    generalize l.length = L at *
    have t1 : ((0 : Int) < (L : Int)) = True := by simp; omega
    go_enter Try.func39, Try.ntmps39
    go_wp2_with (first | (go_at_call 9; refine (unhide HN).mono ?_; rintro e w1 ⟨rfl, hq⟩; have hq' := hq.symm; subst hq'))
    go_loopw [6] (fun s5 wr => s5 = .int .i64 0 ∧ wr = w) (fun _ _ => 0)
    case atStart => exact ⟨rfl, rfl⟩
    case round =>
      obtain ⟨rfl, rfl⟩ := hrel
      go_wp2_with (first
        | (go_at_call 17; refine (unhide HA _ _).mono ?_; rintro e w3 ⟨rfl, hq⟩; have hq' := hq.symm; subst hq')
        | (go_at_call 16; refine (unhide HM _).mono ?_; rintro e w4 ⟨rfl, hq⟩; have hq' := hq.symm; subst hq'))
      go_ret
      exact ⟨rfl, Kept.refl _ _⟩
end Go.Proofs.Ytgiifedljebclaa
