/- JumpKeys, walked. -/
import Derived.Test.YtiafnfjgmfnnoaaJHome
namespace Go.Proofs.Ytiafnfjgmfnnoaa
open Go.RowKit

/-- the text is turned, so far -/
def turn (bs : List Nat) (k : Nat) : List Nat := bs.reverse.take k ++ bs.drop k
theorem turn_length {bs : List Nat} {k : Nat} (hk : k ≤ bs.length) : (turn bs k).length = bs.length := by
  simp [turn]; omega
theorem turn_zero (bs : List Nat) : turn bs 0 = bs := by simp [turn]
theorem turn_all (bs : List Nat) : turn bs bs.length = bs.reverse := by
  unfold turn
  rw [List.take_of_length_le (by simp), List.drop_length, List.append_nil]
theorem turn_succ {bs : List Nat} {k : Nat} (hk : k < bs.length) : (turn bs k).set k (bs.getD (bs.length - 1 - k) 0) = turn bs (k + 1) := by
  have hr : k < bs.reverse.length := by simpa using hk
  have e1 : bs.getD (bs.length - 1 - k) 0 = bs.reverse[k] := by
    rw [List.getD, List.getElem?_eq_getElem (by omega), Option.getD_some, List.getElem_reverse]
  have e2 : (bs.reverse.take k).length = k := by simp; omega
  unfold turn
  rw [List.set_append_right _ _ (by omega), e2, Nat.sub_self, List.drop_eq_getElem_cons hk, List.set_cons_zero, e1, List.take_add_one, List.getElem?_eq_getElem hr, Option.toList_some, List.append_assoc]
  rfl

set_option maxRecDepth 100000 in
set_option maxHeartbeats 2000000 in
theorem keys_walk {w : World} {v : Value} {bs : List Nat} (hs : Sees w v bs) (hl : bs.length ≤ 140737488351232) (n x m : Int) :
    Calls Try.prog 4 #[v, .int .i64 n, .int .i64 x, .int .i64 m] w fun e w' => e = .returned (.bool true) ∧ Kept [] w w' := by
  obtain ⟨i0, hi, hz0, hz1, hz2⟩ := info_parts info5p
  have HI := hide (⟨hi, hz0, hz1, hz2⟩ : _ ∧ _ ∧ _ ∧ _)
  clear hi hz0 hz1 hz2
  have HB : Hid (∀ x ∈ bs, x < 256) := by obtain ⟨_, _, _, _, _, h, _⟩ := hs; exact h
  have HLE := hide (lent_any hs hl)
  have HS := hide hs
  obtain ⟨p, pc, hp, -⟩ := hs
  subst hp
  have HHO := hide (fun w => home_any w x m)
  have HRHO := hide (fun w => rhome_any w x m)
  generalize homeOf x m = hm at HHO HRHO
  generalize hA : bs.length = L at *
  have HA := hide hA
  clear hA
  go_enter Try.func4, Try.ntmps4
  go_wp2_with fail
  refine (unhide HLE).mono ?_
  rintro e w1 ⟨g, cap, rfl, hle, hk1⟩
  have HL1 := hide hle
  have HK := hide hk1
  have hgw := hle.caps
  clear HLE hle hk1
  -- the calls on what is lent, and on the key
  have H15 : Hid (∀ wx, Kept [] w wx → Kept [] w1 wx → Calls Try.prog 15 #[.slice (some ⟨g, 0, none⟩) L cap] wx fun e w' => e = .returned (.int .u64 (marks fnv0 bs : Nat)) ∧ Kept [] w w' ∧ Kept [] w1 w') := fun wx h h1 => (hash_any ((unhide HL1).kept h1 (by simp)).sees).mono fun e w' ⟨he, hk⟩ => ⟨he, h.trans hk (by simp), h1.trans hk (by simp)⟩
  have H17 : Hid (∀ wx, Kept [] w wx → Kept [] w1 wx → Calls Try.prog 17 #[.slice (some ⟨g, 0, none⟩) L cap, .int .i64 n] wx fun e w' => e = .returned (.int .i64 (bucketOf (marks fnv0 bs) n)) ∧ Kept [] w w' ∧ Kept [] w1 w') := fun wx h h1 => (shard_any ((unhide HL1).kept h1 (by simp)).sees n).mono fun e w' ⟨he, hk⟩ => ⟨he, h.trans hk (by simp), h1.trans hk (by simp)⟩
  have H16 : Hid (∀ wx, Kept [] w wx → Kept [] w1 wx → Calls Try.prog 16 #[.slice p L pc] wx fun e w' => e = .returned (.int .u64 (marks fnv0 bs : Nat)) ∧ Kept [] w w' ∧ Kept [] w1 w') := fun wx h h1 => (rhash_any ((unhide HS).kept h (Or.inr (by simp)))).mono fun e w' ⟨he, hk⟩ => ⟨he, h.trans hk (by simp), h1.trans hk (by simp)⟩
  have H18 : Hid (∀ wx, Kept [] w wx → Kept [] w1 wx → Calls Try.prog 18 #[.slice p L pc, .int .i64 n] wx fun e w' => e = .returned (.int .i64 (bucketOf (marks fnv0 bs) n)) ∧ Kept [] w w' ∧ Kept [] w1 w') := fun wx h h1 => (rshard_any ((unhide HS).kept h (Or.inr (by simp))) n).mono fun e w' ⟨he, hk⟩ => ⟨he, h.trans hk (by simp), h1.trans hk (by simp)⟩
  have H19 : Hid (∀ wx, Kept [] w wx → Kept [] w1 wx → Calls Try.prog 19 #[.slice (some ⟨g, 0, none⟩) L cap, .slice p L pc] wx fun e w' => e = .returned (.bool true) ∧ Kept [] w w' ∧ Kept [] w1 w') := fun wx h h1 => (kept_any ((unhide HL1).kept h1 (by simp)) ((unhide HS).kept h (Or.inr (by simp)))).mono fun e w' ⟨he, hk⟩ => ⟨he, h.trans hk.kept (by simp), h1.trans hk.kept (by simp)⟩
  have HK1 : Hid (Kept [] w1 w1) := Kept.refl _ _
  generalize hM : marks fnv0 bs = M at H15 H16 H17 H18
  generalize hBu : bucketOf M n = Bu at H17 H18
  clear hM hBu
  go_wp2_with (first
    | (go_at_call 15; refine (unhide H15 _ (unhide HK) (unhide HK1)).mono ?_; clear HK HK1; rintro e w2 ⟨rfl, hk, hk1⟩; have HK := hide hk; have HK1 := hide hk1; clear hk hk1)
    | (go_at_call 16; refine (unhide H16 _ (unhide HK) (unhide HK1)).mono ?_; clear HK HK1; rintro e w3 ⟨rfl, hk, hk1⟩; have HK := hide hk; have HK1 := hide hk1; clear hk hk1)
    | (go_at_call 17; refine (unhide H17 _ (unhide HK) (unhide HK1)).mono ?_; clear HK HK1; rintro e w4 ⟨rfl, hk, hk1⟩; have HK := hide hk; have HK1 := hide hk1; clear hk hk1)
    | (go_at_call 18; refine (unhide H18 _ (unhide HK) (unhide HK1)).mono ?_; clear HK HK1; rintro e w5 ⟨rfl, hk, hk1⟩; have HK := hide hk; have HK1 := hide hk1; clear hk hk1)
    | (go_at_call 19; refine (unhide H19 _ (unhide HK) (unhide HK1)).mono ?_; clear HK HK1; rintro e w6 ⟨rfl, hk, hk1⟩; have HK := hide hk; have HK1 := hide hk1; clear hk hk1))
  clear H15 H16 H17 H18 H19
  go_loopw [10] (fun i wr => ∃ k : Nat, k ≤ L ∧ i = .int .i64 k ∧ Lent wr w.heap.size g cap L (turn bs k) ∧ Kept [] w wr) (fun i _ => L - (intOf i).toNat)
  case atStart => exact ⟨0, by omega, rfl, by rw [turn_zero]; exact (unhide HL1).kept (unhide HK1) (by simp), unhide HK⟩
  case round =>
    obtain ⟨k, hk, rfl, hL, hkw⟩ := hrel
    have HLk := hide hL
    have HKw := hide hkw
    clear hL hkw HK HK1
    by_cases hkl : k < L
    · obtain ⟨a', cap', hv, -, -, -, h4⟩ := (unhide HS).kept (unhide HKw) (Or.inr (by simp))
      have hv1 : a' = p := by cases hv; rfl
      subst hv1
      obtain ⟨b, off, hpa, hc⟩ := at_sees (k := L - 1 - k) (unhide HA) h4 (by omega)
      subst hpa
      have hx := getD_lt (unhide HB) (show L - 1 - k < bs.length by rw [unhide HA]; omega)
      have hcell := (unhide HLk).cell hkl
      have hfr := (unhide HLk).frozen k
      have HN : Hid (Lent (wr.setCell ⟨g, k, none⟩ (.int .u8 (bs.getD (L - 1 - k) 0 : Nat))) w.heap.size g cap L (turn bs (k + 1))) := by
        have h := (unhide HLk).set hkl hx
        rw [← unhide HA, turn_succ (by rw [unhide HA]; exact hkl), unhide HA] at h
        exact h
      have HKn : Hid (Kept [] w (wr.setCell ⟨g, k, none⟩ (.int .u8 (bs.getD (L - 1 - k) 0 : Nat)))) := (unhide HKw).setCell (Or.inr hgw.2.2.1) _
      generalize bs.getD (L - 1 - k) 0 = y at hc HN HKn hx
      generalize (turn bs k).getD k 0 = y0 at hcell
      clear hv h4
      have e1 : ((L : Int) - 1 - (k : Int)).toNat = L - 1 - k := by omega
      have e2 : (0 : Int) ≤ (L : Int) - 1 - (k : Int) := by omega
      have e3 : (L : Int) - 1 - (k : Int) < (L : Int) := by omega
      have e4 : k < L := hkl
      go_wp2
      refine ⟨⟨k + 1, by omega, by simp, unhide HN, unhide HKn⟩, ?_⟩
      simp [intOf]; omega
    · obtain rfl : k = L := by omega
      rw [← unhide HA, turn_all, unhide HA] at HLk
      generalize hT : bs.reverse = T at HLk
      have HT : Hid (T.length = k ∧ ∀ x ∈ T, x < 256) := ⟨(unhide HLk).1, (unhide HLk).2.1⟩
      clear hT
      have HO1 : Hid ((wr.alloc (.cells #[] 5)).ownsRow wr.heap.size 5 1 (.slice (some ⟨wr.heap.size, 0, none⟩) 0 0) ([] : List Nat).length (u8s [])) := own_new_nil wr
      have HLa : Hid (Lent (wr.alloc (.cells #[] 5)) w.heap.size g cap k T) := (unhide HLk).kept ((Kept.refl [] wr).alloc _) (by simp)
      have HKa : Hid (Kept [] w (wr.alloc (.cells #[] 5))) := (unhide HKw).alloc _
      have HLE : Hid (wr.heap.size ≤ (wr.alloc (.cells #[] 5)).heap.size) := by unfold Hid; simp
      go_wp2_with (at_builtin; refine wpList_append_sees _ rfl _ _ 28 rfl wr.heap.size 5 i0 (.int .u8 0) Try.underlying28 (unhide HI).1 (unhide HI).2.1 (unhide HI).2.2.1 (unhide HI).2.2.2 rfl _ [] rfl (unhide HO1) _ T rfl (unhide HLa).sees ?c1 (unhide HLE) ?_)
      case c1 => rw [(unhide HT).1]; simp; omega
      intro v2 w2 ho2 hg2 hat2
      have hgo : ∀ q, v2.ownBlock = some q → wr.heap.size ≤ q := fun q hq => (ho2.lt q hq).1
      have hs2 : Sees w2 v2 T := Sees.of_own (bs := T) ho2 (unhide HT).2
      have hgk : Kept [] wr w2 := ((Kept.refl [] wr).alloc _).grown hg2 (fun q hq => Or.inr ((unhide HO1).lt q hq).1)
      have HS2 := hide hs2
      obtain ⟨a2, c2, hv2, -⟩ := hs2
      rw [(unhide HT).1] at hv2
      subst hv2
      have HL2 : Hid (Lent w2 w.heap.size g cap k T) := (unhide HLk).kept hgk (by simp)
      have HK : Hid (Kept [] w w2) := (unhide HKw).trans hgk (by simp)
      clear ho2 hg2 hat2 hgo hgk HKw HKa HLa HLE HO1 HLk HS
      have H15 : Hid (∀ wx, Kept [] w wx → Kept [] w2 wx → Calls Try.prog 15 #[.slice (some ⟨g, 0, none⟩) k cap] wx fun e w' => e = .returned (.int .u64 (marks fnv0 T : Nat)) ∧ Kept [] w w' ∧ Kept [] w2 w') := fun wx h h1 => (hash_any ((unhide HL2).kept h1 (by simp)).sees).mono fun e w' ⟨he, hk⟩ => ⟨he, h.trans hk (by simp), h1.trans hk (by simp)⟩
      have H17 : Hid (∀ wx, Kept [] w wx → Kept [] w2 wx → Calls Try.prog 17 #[.slice (some ⟨g, 0, none⟩) k cap, .int .i64 n] wx fun e w' => e = .returned (.int .i64 (bucketOf (marks fnv0 T) n)) ∧ Kept [] w w' ∧ Kept [] w2 w') := fun wx h h1 => (shard_any ((unhide HL2).kept h1 (by simp)).sees n).mono fun e w' ⟨he, hk⟩ => ⟨he, h.trans hk (by simp), h1.trans hk (by simp)⟩
      have H16 : Hid (∀ wx, Kept [] w wx → Kept [] w2 wx → Calls Try.prog 16 #[.slice a2 k c2] wx fun e w' => e = .returned (.int .u64 (marks fnv0 T : Nat)) ∧ Kept [] w w' ∧ Kept [] w2 w') := fun wx h h1 => (rhash_any ((unhide HS2).kept h1 (Or.inr (by simp)))).mono fun e w' ⟨he, hk⟩ => ⟨he, h.trans hk (by simp), h1.trans hk (by simp)⟩
      have H18 : Hid (∀ wx, Kept [] w wx → Kept [] w2 wx → Calls Try.prog 18 #[.slice a2 k c2, .int .i64 n] wx fun e w' => e = .returned (.int .i64 (bucketOf (marks fnv0 T) n)) ∧ Kept [] w w' ∧ Kept [] w2 w') := fun wx h h1 => (rshard_any ((unhide HS2).kept h1 (Or.inr (by simp))) n).mono fun e w' ⟨he, hk⟩ => ⟨he, h.trans hk (by simp), h1.trans hk (by simp)⟩
      have H19 : Hid (∀ wx, Kept [] w wx → Kept [] w2 wx → Calls Try.prog 19 #[.slice (some ⟨g, 0, none⟩) k cap, .slice a2 k c2] wx fun e w' => e = .returned (.bool true) ∧ Kept [] w w' ∧ Kept [] w2 w') := fun wx h h1 => (kept_any ((unhide HL2).kept h1 (by simp)) ((unhide HS2).kept h1 (Or.inr (by simp)))).mono fun e w' ⟨he, hk⟩ => ⟨he, h.trans hk.kept (by simp), h1.trans hk.kept (by simp)⟩
      have H20 : Hid (∀ wx, Kept [] w wx → Kept [] w2 wx → Calls Try.prog 20 #[.int .i64 x, .int .i64 m] wx fun e w' => e = .returned (.int .i64 hm) ∧ Kept [] w w' ∧ Kept [] w2 w') := fun wx h h1 => (unhide HHO wx).mono fun e w' ⟨he, hk⟩ => ⟨he, h.trans hk (by simp), h1.trans hk (by simp)⟩
      have H21 : Hid (∀ wx, Kept [] w wx → Kept [] w2 wx → Calls Try.prog 21 #[.int .i64 x, .int .i64 m] wx fun e w' => e = .returned (.int .i64 hm) ∧ Kept [] w w' ∧ Kept [] w2 w') := fun wx h h1 => (unhide HRHO wx).mono fun e w' ⟨he, hk⟩ => ⟨he, h.trans hk (by simp), h1.trans hk (by simp)⟩
      have HK1 : Hid (Kept [] w2 w2) := Kept.refl _ _
      generalize hM : marks fnv0 T = M at H15 H16 H17 H18
      generalize hBu : bucketOf M n = Bu at H17 H18
      clear hM hBu
      go_wp2_with (first
        | (go_at_call 15; refine (unhide H15 _ (unhide HK) (unhide HK1)).mono ?_; clear HK HK1; rintro e w2 ⟨rfl, hk, hk1⟩; have HK := hide hk; have HK1 := hide hk1; clear hk hk1)
        | (go_at_call 16; refine (unhide H16 _ (unhide HK) (unhide HK1)).mono ?_; clear HK HK1; rintro e w3 ⟨rfl, hk, hk1⟩; have HK := hide hk; have HK1 := hide hk1; clear hk hk1)
        | (go_at_call 17; refine (unhide H17 _ (unhide HK) (unhide HK1)).mono ?_; clear HK HK1; rintro e w4 ⟨rfl, hk, hk1⟩; have HK := hide hk; have HK1 := hide hk1; clear hk hk1)
        | (go_at_call 18; refine (unhide H18 _ (unhide HK) (unhide HK1)).mono ?_; clear HK HK1; rintro e w5 ⟨rfl, hk, hk1⟩; have HK := hide hk; have HK1 := hide hk1; clear hk hk1)
        | (go_at_call 19; refine (unhide H19 _ (unhide HK) (unhide HK1)).mono ?_; clear HK HK1; rintro e w6 ⟨rfl, hk, hk1⟩; have HK := hide hk; have HK1 := hide hk1; clear hk hk1)
        | (go_at_call 20; refine (unhide H20 _ (unhide HK) (unhide HK1)).mono ?_; clear HK HK1; rintro e w6 ⟨rfl, hk, hk1⟩; have HK := hide hk; have HK1 := hide hk1; clear hk hk1)
        | (go_at_call 21; refine (unhide H21 _ (unhide HK) (unhide HK1)).mono ?_; clear HK HK1; rintro e w6 ⟨rfl, hk, hk1⟩; have HK := hide hk; have HK1 := hide hk1; clear hk hk1))
      go_ret
      exact ⟨rfl, unhide HK⟩
end Go.Proofs.Ytiafnfjgmfnnoaa
