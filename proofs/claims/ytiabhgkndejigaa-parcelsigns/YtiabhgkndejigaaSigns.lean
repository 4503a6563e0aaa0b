/- The law ParcelSigns, walked. -/
import Derived.Test.YtiabhgkndejigaaPure
namespace Go.Proofs.Ytiabhgkndejigaa
open Go.RowKit

set_option maxRecDepth 100000 in
set_option maxHeartbeats 1000000 in
theorem signs_core (i : Int) (h1 : -9223372036854775808 ≤ i) (h2 : i ≤ 9223372036854775807) (p q : Nat) (t : List Nat) (hp : p < 256) (hq : q < 256)
    (e1 : form (fold i) = p :: t) (e2 : form (fold (-1 - i)) = q :: t) (hx : bits .xor .u8 (q : Int) 1 = (p : Int)) (w : World) :
    Calls Try.prog 6 #[.int .i64 i] w fun e w' => e = .returned (.bool true) ∧ Below w.heap.size w w' := by
  have hlen := form_le10 _ (fold_lt i h1 h2)
  have hf1 := fold_lt i h1 h2
  have hf2 := fold_lt (-1 - i) (by omega) (by omega)
  have hu1 := unfold_fold i
  have hu2 := unfold_fold (-1 - i)
  have ht : ∀ y ∈ t, y < 256 := fun y hy => form_byte (fold i) y (by rw [e1]; simp [hy])
  have hr1 : readNum 0 0 (p :: t ++ q :: t) = .inr (fold i, q :: t) := by rw [← e1]; exact read_form0 _ _ hf1
  have hr2 : readNum 0 0 (q :: t) = .inr (fold (-1 - i), []) := by have := read_form0 (fold (-1 - i)) [] hf2; rwa [List.append_nil, e2] at this
  rw [e1] at hlen
  simp at hlen
  have HE := hide (⟨e1, e2, hu1, hu2, hr1, hr2⟩ : _ ∧ _ ∧ _ ∧ _ ∧ _ ∧ _)
  have HX := hide hx
  have HT := hide ht
  clear e1 e2 hu1 hu2 hr1 hr2 hx ht
  go_enter Try.func6, Try.ntmps6
  go_wp2_with fail
  refine (new_any 20 _ (by omega)).mono ?_
  rintro e w1 ⟨b, rfl, hb, hw1, hk1⟩
  have HW1 := hide hw1
  clear hw1
  go_wp2_with fail
  refine (wint_fits (unhide HW1) rfl _ (by omega) (by omega) (by simp [newWS]) (by rw [(unhide HE).1]; simp [newWS]; omega)).mono ?_
  rintro e w2 ⟨rfl, v2, hw2, hk2, hx2⟩
  rw [(unhide HE).1] at hw2
  have HW2 : Hid (Wr w2 b ⟨20, p :: t, [], 0⟩ v2 nilS) := hw2
  have HK2 := hide hk2
  have HX2 := hide hx2
  clear hw2 hk2 hx2
  go_wp2_with fail
  refine (wlen_ok (unhide HW2) rfl).mono ?_
  rintro e w' ⟨rfl, rfl⟩
  go_wp2_with fail
  refine (wint_fits (unhide HW2) rfl _ (by omega) (by omega) (by simp; omega) (by rw [(unhide HE).2.1]; simp; omega)).mono ?_
  rintro e w3 ⟨rfl, v3, hw3, hk3, hx3⟩
  rw [(unhide HE).2.1] at hw3
  have HW3 : Hid (Wr w3 b ⟨20, p :: t ++ q :: t, [], 0⟩ v3 nilS) := hw3
  have HK3 := hide hk3
  have HX3 := hide hx3
  clear hw3 hk3 hx3
  go_wp2_with fail
  refine (wdone_ok (unhide HW3) rfl rfl).mono ?_
  rintro e w4 ⟨ca, cc, rfl, ho4, hk4⟩
  have HO4 := hide ho4
  have hsee := Sees.of_own ho4
  obtain ⟨cb, co, hca, hc0⟩ := hsee.at 0 (by simp)
  subst hca
  have hcs : w4.cell? ⟨cb, co + (t.length + 1), none⟩ = some (.int .u8 q) := by
    obtain ⟨cb', co', hca, hc1⟩ := hsee.at (t.length + 1) (by simp)
    cases hca
    simpa using hc1
  have HS := hide hsee
  clear ho4 hsee
  simp at hc0
  go_wp2_with fail
  have hcap : t.length + (t.length + 1) + 1 ≤ cc ∧ cc ≤ 9223372036854775807 := by
    rcases (unhide HS) with ⟨h, _⟩ | ⟨_, _, _, h, hc, hm, _⟩
    · cases h
    · cases h; simp at hc; unfold maxLen at hm; omega
  obtain ⟨hcap1, hcap2⟩ := hcap
  have hx := unhide HX
  have d1 : decide ((t.length : Int) + 1 < 1) = false := by simp; omega
  have d2 : ((t.length : Int) + ((t.length : Int) + 1) + 1 != IntKind.i64.wrap (2 * ((t.length : Int) + 1))) = false := by
    rw [IntKind.wrap_i64, bne_eq_false_iff_eq]; omega
  have d3 : IntKind.i64.wrap ((t.length : Int) + 1 + 1) = ((t.length + 2 : Nat) : Int) := by rw [IntKind.wrap_i64]; omega
  have d4 : ((p : Int) != p) = false := by simp
  have d5 : (0 : Int) < (t.length : Int) + ((t.length : Int) + 1) + 1 := by omega
  have d6 : (0 : Int) ≤ (t.length : Int) + 1 := by omega
  have d7 : (t.length : Int) + 1 < (t.length : Int) + ((t.length : Int) + 1) + 1 := by omega
  have d8 : (1 : Int) ≤ (t.length : Int) + 1 := by omega
  have d9 : (t.length : Int) + 1 ≤ (cc : Int) := by omega
  have d10 : (t.length : Int) + 2 ≤ (t.length : Int) + ((t.length : Int) + 1) + 1 := by omega
  have d11 : (0 : Int) ≤ (t.length : Int) + 2 := by omega
  have d12 : ¬ cc = 1 := by omega
  have d13 : ¬ cc - 1 = 0 := by omega
  have hsame : ∀ n, Calls Try.prog 22 #[.slice (some ⟨cb, co + 1, none⟩) t.length (cc - 1), .slice (if cc = ((t.length : Int) + 2).toNat then some ⟨cb, co, none⟩ else some ⟨cb, co + ((t.length : Int) + 2).toNat, none⟩) (t.length + (t.length + 1) + 1 - ((t.length : Int) + 2).toNat) (cc - ((t.length : Int) + 2).toNat)] (w4.drewN n) fun e w'' => e = .returned (.bool true) ∧ ∃ m, w'' = w4.drewN m := by
    intro n
    refine Calls.quiet_of ?_
    have hs0 := (unhide HS)
    have hs1 : Sees (w4.drewN n) (.slice (some ⟨cb, co, none⟩) ({ room := 20, bs := p :: t ++ q :: t, sts := [], fault := 0 } : WS).bs.length cc) (p :: t ++ q :: t) := hs0.kept ((Kept.refl [] _).drewN n) (by simp)
    rw [show ((t.length : Int) + 2).toNat = t.length + 2 by omega, show t.length + (t.length + 1) + 1 - (t.length + 2) = t.length by omega]
    refine same_yes (bs := t) ?_ ?_ (by omega)
    · have := hs1.part 1 t.length (co + 1) (cc - 1) (by simp; omega) (by omega) (by omega) (Or.inl rfl)
      simpa using this
    · by_cases hcc : cc = t.length + 2
      · rw [if_pos hcc]
        have := hs1.part (t.length + 2) t.length co (cc - (t.length + 2)) (by simp; omega) (by omega) (by omega) (Or.inr (by omega))
        simpa using this
      · rw [if_neg hcc]
        have := hs1.part (t.length + 2) t.length (co + (t.length + 2)) (cc - (t.length + 2)) (by simp; omega) (by omega) (by omega) (Or.inl rfl)
        simpa using this
  have HSAME := hide hsame
  clear hsame
  go_quiet ((go_at_call 22; exact unhide HSAME _))
  generalize (if cc = ((t.length : Int) + 2).toNat then some (⟨cb, co, none⟩ : Addr) else some ⟨cb, co + ((t.length : Int) + 2).toNat, none⟩) = ga
  clear HSAME d1 d2 d3 d4 d5 d6 d7 d8 d9 d10 d11 d12 d13 hx hc0 hcs
  have HSD : Hid (∀ wx, Kept [] w4 wx → Sees wx (.slice (some ⟨cb, co, none⟩) (t.length + (t.length + 1) + 1) cc) (p :: t ++ q :: t)) := by
    intro wx hk; have := (unhide HS).kept hk (by simp); simpa using this
  have HB : Hid (∀ y ∈ p :: t ++ q :: t, y < 256) := by
    intro y hy; simp at hy; rcases hy with rfl | hy | rfl | hy
    · exact hp
    · exact unhide HT y hy
    · exact hq
    · exact unhide HT y hy
  have HK : Hid (Kept [] w (w4.drewN nq)) := by
    have k1 := hk1
    have f0 : ∀ x, x ∈ foot b nilS nilS → w.heap.size ≤ x := fun x hx => by simp [foot, nilS, Value.ownBlock] at hx; omega
    have k2 := k1.trans (unhide HK2) (fun x hx => Or.inr (f0 x hx))
    have f2 : ∀ x, x ∈ foot b v2 nilS → w.heap.size ≤ x := fun x hx => by
      rcases unhide HX2 x hx with h | h
      · exact f0 x h
      · have := k1.size; omega
    have k3 := k2.trans (unhide HK3) (fun x hx => Or.inr (f2 x hx))
    exact (k3.trans hk4 (by simp)).drewN nq
  clear HX HW1 HW2 HK2 HX2 HW3 HK3 HX3 HO4 HS HT hk1 hk4 hcap1 hcap2 hb
  have hi : i < 0 ∨ 0 ≤ i := by omega
  go_wp2_with fail
  refine (read_any (bs := p :: t ++ q :: t) (unhide HSD _ ((Kept.refl [] _).drewN nq)) (by simp; omega)).mono ?_
  rintro e w5 ⟨rb, rlv, rfl, hrd5, hrb5, hrl5, hk5⟩
  have HR5 := hide hrd5
  clear hrd5
  go_wp2_with fail
  refine (rnum_ok (unhide HR5) (unhide HB) (unhide HE).2.2.2.2.1).mono ?_
  rintro e w6 ⟨rfl, _, hk6⟩
  rcases hi with hi | hi
  all_goals
    go_wp2_with fail
  all_goals
    refine (read_any (bs := p :: t ++ q :: t) (unhide HSD _ (((Kept.refl [] _).drewN nq).trans hk5 (by simp) |>.trans hk6 (fun x hx => by simp at hx; subst hx; right; exact hrb5))) (by simp; omega)).mono ?_
    rintro e w7 ⟨sb, slv, rfl, hrd7, hrb7, hrl7, hk7⟩
    have HR7 := hide hrd7
    clear hrd7
    go_wp2_with fail
    refine (rint_ok (unhide HR7) (unhide HB) (unhide HE).2.2.2.2.1).mono ?_
    rintro e w8 ⟨rfl, ⟨slv2, hrd8, ho8⟩, hk8⟩
    rw [(unhide HE).2.2.1]
    have HR8 := hide hrd8
    clear hrd8
    go_wp2_with fail
    refine (rint_ok (unhide HR8) (fun y hy => unhide HB y (by simp at hy; rcases hy with h | h <;> simp [h])) (unhide HE).2.2.2.2.2).mono ?_
    rintro e w9 ⟨rfl, ⟨slv3, hrd9, ho9⟩, hk9⟩
    rw [(unhide HE).2.2.2.1]
    have HR9 := hide hrd9
    clear hrd9
  · have g1 : ((fold i : Int) / 2 == -1 - i) = true := by rw [beq_iff_eq]; unfold fold; rw [if_pos hi]; omega
    have g2 : ((fold i : Int) % 2 == 1) = true := by rw [beq_iff_eq]; unfold fold; rw [if_pos hi]; omega
    go_wp2_with fail
    refine (rdone_ok (unhide HR9) 0 rfl).mono ?_
    rintro e w' ⟨rfl, rfl⟩
    go_wp2
    go_ret
    refine ⟨rfl, Kept.below (F := []) ?_ _ (Nat.le_refl _) (by simp)⟩
    have k5 := (unhide HK).trans hk5 (by simp)
    have k6 := k5.trans hk6 (fun x hx => by simp at hx; subst hx; right; exact Nat.le_trans (unhide HK).size hrb5)
    have k7 := k6.trans hk7 (by simp)
    have k8 := k7.trans hk8 (fun x hx => by simp at hx; subst hx; right; exact Nat.le_trans k6.size hrb7)
    exact k8.trans hk9 (fun x hx => by simp at hx; subst hx; right; exact Nat.le_trans k6.size hrb7)
  · have g3 : decide (i < 0) = false := by simp; omega
    have g1 : ((fold i : Int) / 2 == i) = true := by rw [beq_iff_eq]; unfold fold; rw [if_neg (by omega)]; omega
    have g2 : ((fold i : Int) % 2 == 1) = false := by rw [beq_eq_false_iff_ne]; unfold fold; rw [if_neg (by omega)]; omega
    go_wp2_with fail
    refine (rdone_ok (unhide HR9) 0 rfl).mono ?_
    rintro e w' ⟨rfl, rfl⟩
    go_wp2
    go_ret
    refine ⟨rfl, Kept.below (F := []) ?_ _ (Nat.le_refl _) (by simp)⟩
    have k5 := (unhide HK).trans hk5 (by simp)
    have k6 := k5.trans hk6 (fun x hx => by simp at hx; subst hx; right; exact Nat.le_trans (unhide HK).size hrb5)
    have k7 := k6.trans hk7 (by simp)
    have k8 := k7.trans hk8 (fun x hx => by simp at hx; subst hx; right; exact Nat.le_trans k6.size hrb7)
    exact k8.trans hk9 (fun x hx => by simp at hx; subst hx; right; exact Nat.le_trans k6.size hrb7)

theorem signs_walk (i : Int) (h1 : -9223372036854775808 ≤ i) (h2 : i ≤ 9223372036854775807) (w : World) :
    Calls Try.prog 6 #[.int .i64 i] w fun e w' => e = .returned (.bool true) ∧ Below w.heap.size w w' := by
  by_cases h : i < 0
  · obtain ⟨m, rfl⟩ : ∃ m : Nat, i = -1 - (m : Int) := ⟨(-1 - i).toNat, by omega⟩
    obtain ⟨x, t, hx0, hx1, e1, e2⟩ := form_pair m
    have f1 : fold (-1 - (m : Int)) = 2 * m + 1 := by unfold fold; rw [if_pos h]; omega
    have f2 : fold (-1 - (-1 - (m : Int))) = 2 * m := by unfold fold; rw [if_neg (by omega)]; omega
    refine signs_core _ h1 h2 (x + 1) x t (by omega) (by omega) (by rw [f1, e2]) (by rw [f2, e1]) ?_ w
    rw [xor_one x (by omega), if_pos hx0]
  · obtain ⟨m, rfl⟩ := Int.eq_ofNat_of_zero_le (show 0 ≤ i by omega)
    obtain ⟨x, t, hx0, hx1, e1, e2⟩ := form_pair m
    have f1 : fold (m : Int) = 2 * m := by unfold fold; rw [if_neg (by omega)]; omega
    have f2 : fold (-1 - (m : Int)) = 2 * m + 1 := by unfold fold; rw [if_pos (by omega)]; omega
    refine signs_core _ h1 h2 x (x + 1) t (by omega) (by omega) (by rw [f1, e1]) (by rw [f2, e2]) ?_ w
    rw [xor_one (x + 1) (by omega), if_neg (by omega)]; simp
end Go.Proofs.Ytiabhgkndejigaa
