/- Texts laid one behind the other: PQc PQn PQd PQe PQf PQg PQh PQi FJ DFx. -/
import Derived.Test.YtfhfkpgfnlmfhaaGreatDoorPkBG
import Derived.Test.YtfhfkpgfnlmfhaaGreatDoorPkBH
import Derived.Test.YtfhfkpgfnlmfhaaGreatDoorPkO
/- The document's reader: numbers. -/
namespace Go.Proofs.YtfhfkpgfnlmfhaaGreatDoor
open Go.RowKit

theorem leV_drop (l : List Nat) (j : Nat) (hj : j < l.length) : leV (l.drop j) = l.getD j 0 + 256 * leV (l.drop (j + 1)) := by
  rw [List.drop_eq_getElem_cons hj, leV]
  simp [hj]
theorem pow_le7 {n : Nat} (h : n ≤ 7) : 256 ^ n ≤ 72057594037927936 := by
  have : 256 ^ n ≤ 256 ^ 7 := Nat.pow_le_pow_right (by omega) h
  exact this

set_option maxRecDepth 100000 in
set_option maxHeartbeats 400000 in
theorem qvalue_any {w : World} {v : Value} {l : List Nat} (h : Sees w v l) (hb : ∀ x ∈ l, x < 256) (hl : l.length ≤ 8) :
    Calls Tryz.prog 53 #[v] w fun e w' => e = .returned (.int .u64 (leV l : Nat)) ∧ w = w' := by
  have HS := hide h
  have HB := hide hb
  obtain ⟨a, cap, rfl⟩ := sees_len h
  obtain ⟨L, hL⟩ : ∃ L, l.length = L := ⟨_, rfl⟩
  have HL := hide hL
  rw [hL] at hl ⊢
  clear h hb hL
  go_enter Tryz.func53, Tryz.ntmps53
  go_wp2
  go_loop [3, 4] (fun n i => ∃ k : Nat, k ≤ L ∧ i = .int .i64 ((k : Int) - 1) ∧ n = .int .u64 (leV (l.drop k) : Nat)) (fun _ i => (intOf i + 1).toNat)
  case atStart => exact ⟨L, Nat.le_refl _, rfl, by rw [List.drop_eq_nil_of_le (by rw [unhide HL]; exact Nat.le_refl _)]; rfl⟩
  case round =>
    obtain ⟨k, hk, rfl, rfl⟩ := hrel
    by_cases h0 : k = 0
    · subst h0
      go_wp2
      go_ret
      exact ⟨by simp, rfl⟩
    · obtain ⟨j, rfl⟩ : ∃ j, k = j + 1 := ⟨k - 1, by omega⟩
      have hj : j < l.length := by rw [unhide HL]; omega
      obtain ⟨b, off, cap', hv, hc1, hc2, cx⟩ := (unhide HS).spot hj
      rw [unhide HL] at hv hc1
      cases hv
      have HD := hide (leV_drop l j hj)
      have hx : l.getD j 0 < 256 := unhide HB _ (by rw [List.getD, List.getElem?_eq_getElem hj]; exact List.getElem_mem _)
      have hlv : leV (l.drop (j + 1)) < 72057594037927936 := by
        have h1 := leV_lt (l.drop (j + 1)) (fun x hx => unhide HB x (List.mem_of_mem_drop hx))
        have h2 := pow_le7 (n := (l.drop (j + 1)).length) (by simp [unhide HL]; omega)
        omega
      generalize l.getD j 0 = y at *
      generalize leV (l.drop (j + 1)) = n at *
      rw [show (((j + 1 : Nat) : Int) - 1) = (j : Int) by omega]
      have hw1 : IntKind.u64.wrap (256 * (n : Int)) = 256 * (n : Int) := by rw [IntKind.wrap_u64]; omega
      have hw2 : IntKind.u64.wrap (256 * (n : Int) + (y : Int)) = 256 * (n : Int) + (y : Int) := by rw [IntKind.wrap_u64]; omega
      have hjL : j < L := by omega
      have hm : L ≤ 9223372036854775807 := by omega
      clear hc1 hc2 hj hl
      go_wp2
      exact ⟨⟨j, by omega, rfl, by rw [unhide HD]; congr 1; push_cast; try omega⟩, by simp [intOf] <;> omega⟩

end Go.Proofs.YtfhfkpgfnlmfhaaGreatDoor

/- The document's reader: the number whose form comes next. -/
namespace Go.Proofs.YtfhfkpgfnlmfhaaGreatDoor
open Go.RowKit

theorem own1 {w : World} {base : Nat} {a : Option Addr} {cap y : Nat} (h : w.ownsRow base 5 1 (.slice a 1 cap) 1 (u8s [y])) : ∃ g, a = some ⟨g, 0, none⟩ ∧ 1 ≤ cap ∧ cap ≤ 9223372036854775807 ∧ w.cell? ⟨g, 0, none⟩ = some (.int .u8 (y : Int)) := by
  have hs : Sees w (.slice a 1 cap) [y] := Sees.of_own h
  obtain ⟨g, off, cap', hv, h1, h2, hc⟩ := hs.spot (j := 0) (by simp)
  rcases h.2 with ⟨e1, e2⟩ | ⟨g', cap'', cur, e1, _⟩
  · simp at e2
  · cases e1
    cases hv
    unfold maxLen at h2
    exact ⟨_, rfl, by simpa using h1, h2, by simpa using hc⟩

/-- What a number's reading makes of the document's reader. -/
def NumQ (w : World) (c : Nat) (pv ev : Value) (ps : List Nat) (at' : Nat) (es l : List Nat) (e : Ending) (w' : World) : Prop :=
  (∀ n r, readNum 0 0 l = .inr (n, r) → e = .returned (.int .u64 (n : Nat)) ∧ ∃ k, k ≤ l.length ∧ r = l.drop k ∧ Qm w' c pv ev ps (at' + k) es 0) ∧
  (∀ cd, readNum 0 0 l = .inl cd → e = .returned (.int .u64 0) ∧ ∃ at2, Qm w' c pv ev ps at2 es cd) ∧ Kept [c] w w'

set_option maxRecDepth 100000 in
set_option maxHeartbeats 2000000 in
theorem qnumber_any {w : World} {c : Nat} {pv ev : Value} {ps : List Nat} {at' : Nat} {es : List Nat} (h : Qm w c pv ev ps at' es 0) (m x : Nat) (hm : es.length = m + 1) (hx : es[m]? = some x) (hat : at' ≤ x) (hb : ∀ y ∈ ps, y < 256) (l : List Nat) (hl : l = (ps.take x).drop at') :
    Calls Tryz.prog 52 #[.pointer (some ⟨c, 0, none⟩)] w (NumQ w c pv ev ps at' es l) := by
  have HH := hide h
  have HM := hide hm
  have HX := hide hx
  have hxl := h.bes x (List.mem_of_getElem? hx)
  have hll : l.length = x - at' := by rw [hl]; simp; omega
  have HB := hide hb
  have HLL := hide hll
  have HL := hide hl
  clear h hm hx hb hl hll
  go_enter Tryz.func52, Tryz.ntmps52
  go_wp2
  go_loopw [3, 4, 5] (fun n sc i wr => ∃ (k acc : Nat), k ≤ 9 ∧ Hid (k ≤ l.length) ∧ i = .int .i64 k ∧ n = .int .u64 acc ∧ sc = .int .u64 ((128 ^ k : Nat) : Int) ∧ Hid (acc < 128 ^ k) ∧ Hid (readNum k acc (l.drop k) = readNum 0 0 l) ∧ Hid (Qm wr c pv ev ps (at' + k) es 0 ∧ Kept [c] w wr)) (fun _ _ i _ => 10 - (intOf i).toNat)
  case atStart => exact ⟨0, 0, by omega, hide (Nat.zero_le _), rfl, rfl, by simp, hide (by simp), hide rfl, hide ⟨unhide HH, Kept.refl _ _⟩⟩
  case round =>
    obtain ⟨k, acc, hk, HKL, rfl, rfl, rfl, HA, HE, HR⟩ := hrel
    by_cases hkl : k = l.length
    · have HBS := hide (qbytes_short (unhide HR).1 m x (unhide HM) (unhide HX) 1 (by have := unhide HLL; omega))
      have HN : Hid (readNum 0 0 l = .inl 10) := by unfold Hid; rw [← unhide HE, hkl, List.drop_eq_nil_of_le (Nat.le_refl _), readNum]
      have hk10 : (k : Int) < 10 := by omega
      clear hkl
      go_wp2_with (first | (go_at_call 51; refine (unhide HBS).mono ?_; rintro e w1 ⟨rfl, hq, hk1⟩; have HQ1 := hide hq; have HK1 := hide hk1; obtain ⟨d0, d1, d2, d3⟩ := blk4 hq.blk; clear hq hk1 HBS))
      go_ret
      refine ⟨fun n r hr => ?_, fun cd hr => ?_, ?_⟩
      · rw [unhide HN] at hr; cases hr
      · rw [unhide HN] at hr; cases hr
        exact ⟨rfl, _, unhide HQ1⟩
      · exact (unhide HR).2.trans (unhide HK1) (fun y hy => Or.inl hy)
    · have hk2 : k < l.length := by have := unhide HKL; omega
      have hox : at' + k + 1 ≤ x := by have := unhide HLL; omega
      have HBS := hide (qbytes_ok (unhide HR).1 m x (unhide HM) (unhide HX) 1 hox)
      have hee : l.getD k 0 = ps.getD (at' + k) 0 := by
        rw [unhide HL]
        simp [show at' + k < x by omega]
      have hy1 : (ps.drop (at' + k)).take 1 = [l.getD k 0] := by
        rw [hee]
        exact (take_next ps (at' + k) 0 (by omega)).symm
      have hd1 : l.drop k = l.getD k 0 :: l.drop (k + 1) := by rw [List.drop_eq_getElem_cons hk2]; simp [hk2]
      have hy : l.getD k 0 < 256 := by
        have h1 : l.getD k 0 ∈ l := by rw [List.getD, List.getElem?_eq_getElem hk2]; exact List.getElem_mem _
        have h2 : ∀ z ∈ l, z ∈ ps := by
          intro z hz
          rw [unhide HL] at hz
          exact List.mem_of_mem_take (List.mem_of_mem_drop hz)
        exact unhide HB _ (h2 _ h1)
      rw [hy1] at HBS
      rw [hd1] at HE
      have HK2 := hide (show k + 1 ≤ l.length from hk2)
      generalize l.getD k 0 = y at *
      have hS : 128 ^ k ≤ 9223372036854775808 := by
        have : 128 ^ k ≤ 128 ^ 9 := Nat.pow_le_pow_right (by omega) hk
        exact this
      have HS2 : Hid (k ≤ 8 → 128 ^ (k + 1) = 128 * 128 ^ k ∧ 128 ^ k ≤ 72057594037927936) := by
        intro h8
        have : 128 ^ k ≤ 128 ^ 8 := Nat.pow_le_pow_right (by omega) h8
        exact ⟨by rw [Nat.pow_succ]; omega, this⟩
      obtain ⟨S, hSS⟩ : ∃ S, 128 ^ k = S := ⟨_, rfl⟩
      have HSS := hide hSS
      rw [hSS] at HA HS2 hS ⊢
      have hk10 : (k : Int) < 10 := by omega
      clear hkl hk2 hy1 hd1 hox hSS hee
      by_cases hA : k = 9 ∧ 1 < y
      · have b1 : ((k : Int) == 9) = true := by rw [beq_iff_eq]; omega
        have b2 : decide (1 < (y : Int)) = true := by simp; omega
        have HN : Hid (readNum 0 0 l = .inl 11) := by unfold Hid; rw [← unhide HE, readNum, if_pos hA]
        clear hA
        go_wp2_with (first | (go_at_call 51; refine (unhide HBS).mono ?_; rintro e w1 ⟨a, cap, rfl, ho, hq, hk1⟩; obtain ⟨g, hga, hc1, hc2, cx⟩ := own1 ho; subst hga; have HQ1 := hide hq; have HK1 := hide hk1; obtain ⟨d0, d1, d2, d3⟩ := blk4 hq.blk; have f3 := hq.blk.frozen 3; clear ho hq hk1 HBS))
        go_ret
        obtain ⟨g1, g2⟩ := (unhide HQ1).fail 11
        refine ⟨fun n r hr => ?_, fun cd hr => ?_, ?_⟩
        · rw [unhide HN] at hr; cases hr
        · rw [unhide HN] at hr; cases hr
          exact ⟨rfl, _, g1⟩
        · exact ((unhide HR).2.trans (unhide HK1) (fun y hy => Or.inl hy)).trans g2 (fun y hy => Or.inl hy)
      · by_cases h0 : y = 0 ∧ 0 < k
        · have b3 : ((y : Int) == 0) = true := by rw [beq_iff_eq]; omega
          have b4 : decide (0 < k) = true := by simp; omega
          have HN : Hid (readNum 0 0 l = .inl 11) := by unfold Hid; rw [← unhide HE, readNum, if_neg hA, if_pos (by omega), if_pos h0]
          have hB : ((k : Int) == 9) = false ∨ (((k : Int) == 9) = true ∧ decide (1 < (y : Int)) = false) := by
            by_cases h9 : k = 9
            · right; exact ⟨by rw [beq_iff_eq]; omega, by simp; omega⟩
            · left; rw [beq_eq_false_iff_ne]; omega
          clear hA h0
          rcases hB with b1 | ⟨b1, b2⟩
          all_goals
            go_wp2_with (first | (go_at_call 51; refine (unhide HBS).mono ?_; rintro e w1 ⟨a, cap, rfl, ho, hq, hk1⟩; obtain ⟨g, hga, hc1, hc2, cx⟩ := own1 ho; subst hga; have HQ1 := hide hq; have HK1 := hide hk1; obtain ⟨d0, d1, d2, d3⟩ := blk4 hq.blk; have f3 := hq.blk.frozen 3; clear ho hq hk1 HBS))
            go_ret
            obtain ⟨g1, g2⟩ := (unhide HQ1).fail 11
            refine ⟨fun n r hr => ?_, fun cd hr => ?_, ?_⟩
            · rw [unhide HN] at hr; cases hr
            · rw [unhide HN] at hr; cases hr
              exact ⟨rfl, _, g1⟩
            · exact ((unhide HR).2.trans (unhide HK1) (fun y hy => Or.inl hy)).trans g2 (fun y hy => Or.inl hy)
        · have hB : ((k : Int) == 9) = false ∨ (((k : Int) == 9) = true ∧ decide (1 < (y : Int)) = false) := by
            by_cases h9 : k = 9
            · right; exact ⟨by rw [beq_iff_eq]; omega, by simp; omega⟩
            · left; rw [beq_eq_false_iff_ne]; omega
          have hC : ((y : Int) == 0) = false ∨ (((y : Int) == 0) = true ∧ decide (0 < k) = false) := by
            by_cases h9 : y = 0
            · right; exact ⟨by rw [beq_iff_eq]; omega, by simp; omega⟩
            · left; rw [beq_eq_false_iff_ne]; omega
          have hm1 : S * (y % 128) ≤ 9223372036854775808 * 127 ∧ (k = 9 → S * (y % 128) ≤ 9223372036854775808) ∧ (k ≤ 8 → S * (y % 128) ≤ 72057594037927936 * 127) := by
            refine ⟨Nat.mul_le_mul hS (by omega), fun h9 => ?_, fun h8 => ?_⟩
            · have := Nat.mul_le_mul hS (show y % 128 ≤ 1 by omega); omega
            · exact Nat.mul_le_mul (unhide HS2 h8).2 (by omega)
          have ha1 := unhide HA
          have hm2 : S * (y % 128) + acc < 18446744073709551616 := by
            by_cases h9 : k = 9
            · have := hm1.2.1 h9; omega
            · have := hm1.2.2 (by omega); omega
          have hw1 : IntKind.u64.wrap ((S : Int) * ((y : Int) % 128)) = ((S * (y % 128) : Nat) : Int) := by
            rw [show (S : Int) * ((y : Int) % 128) = ((S * (y % 128) : Nat) : Int) by push_cast; rfl]
            generalize S * (y % 128) = q at *
            rw [IntKind.wrap_u64]; omega
          have hw2 : IntKind.u64.wrap ((acc : Int) + ((S * (y % 128) : Nat) : Int)) = ((acc + S * (y % 128) : Nat) : Int) := by
            generalize S * (y % 128) = q at *
            rw [IntKind.wrap_u64]; omega
          have HM1 := hide hm1
          have HM2 := hide hm2
          have HNA := hide hA
          have HN0 := hide h0
          obtain ⟨q, hq0⟩ : ∃ q, S * (y % 128) = q := ⟨_, rfl⟩
          have HQ0 := hide hq0
          rw [hq0] at hw1 hw2
          clear hm1 hm2 ha1 hA h0 hq0
          by_cases hy8 : y < 128
          · have HN : Hid (readNum 0 0 l = .inr (acc + q, l.drop (k + 1))) := by
              unfold Hid; rw [← unhide HE, readNum, if_neg (unhide HNA), if_pos hy8, if_neg (unhide HN0), unhide HSS, ← unhide HQ0, Nat.mod_eq_of_lt hy8, Nat.mul_comm]
            have t8 : ((y : Int) < 128) = True := by simp; omega
            rcases hB with b1 | ⟨b1, b2⟩ <;> rcases hC with b3 | ⟨b3, b4⟩
            all_goals
              go_wp2_with (first | (go_at_call 51; refine (unhide HBS).mono ?_; rintro e w1 ⟨a, cap, rfl, ho, hq, hk1⟩; obtain ⟨g, hga, hc1, hc2, cx⟩ := own1 ho; subst hga; have HQ1 := hide hq; have HK1 := hide hk1; obtain ⟨d0, d1, d2, d3⟩ := blk4 hq.blk; clear ho hq hk1 HBS))
              go_ret
              refine ⟨fun n r hr => ?_, fun cd hr => ?_, ?_⟩
              · rw [unhide HN] at hr; cases hr
                exact ⟨rfl, k + 1, unhide HK2, rfl, unhide HQ1⟩
              · rw [unhide HN] at hr; cases hr
              · exact (unhide HR).2.trans (unhide HK1) (fun y hy => Or.inl hy)
          · have hk8 : k ≤ 8 := by have := unhide HNA; omega
            have b1 : ((k : Int) == 9) = false := by rw [beq_eq_false_iff_ne]; omega
            have b3 : ((y : Int) == 0) = false := by rw [beq_eq_false_iff_ne]; omega
            have t8 : ((y : Int) < 128) = False := by simp; omega
            have hs8 := unhide HS2 hk8
            have hw3 : IntKind.u64.wrap (128 * (S : Int)) = ((128 * S : Nat) : Int) := by have := hs8.2; rw [IntKind.wrap_u64]; omega
            have HS8 := hide hs8
            clear hB hC hs8
            go_wp2_with (first | (go_at_call 51; refine (unhide HBS).mono ?_; rintro e w1 ⟨a, cap, rfl, ho, hq, hk1⟩; obtain ⟨g, hga, hc1, hc2, cx⟩ := own1 ho; subst hga; have HQ1 := hide hq; have HK1 := hide hk1; obtain ⟨d0, d1, d2, d3⟩ := blk4 hq.blk; clear ho hq hk1 HBS))
            refine ⟨⟨k + 1, acc + q, by omega, HK2, by go_num, rfl, (by rw [(unhide HS8).1]; simp), hide ?_, hide ?_, hide ⟨unhide HQ1, (unhide HR).2.trans (unhide HK1) (fun y hy => Or.inl hy)⟩⟩, by simp [intOf]; omega⟩
            · rw [(unhide HS8).1]
              have h1 := unhide HQ0
              have h2 := unhide HA
              have h3 : S * (y % 128) ≤ S * 127 := Nat.mul_le_mul (Nat.le_refl _) (by omega)
              omega
            · rw [← unhide HE, readNum, if_neg (unhide HNA), if_neg hy8, unhide HSS, ← unhide HQ0, Nat.mul_comm]
end Go.Proofs.YtfhfkpgfnlmfhaaGreatDoor

/- The document's reader, whatever its state: every call, in a reader's plain words. -/
namespace Go.Proofs.YtfhfkpgfnlmfhaaGreatDoor
open Go.RowKit

theorem sees_own {w : World} {base : Nat} {a : Option Addr} {n cap : Nat} {l : List Nat} (hl : l.length = n) (h : w.ownsRow base 5 1 (.slice a n cap) n (u8s l)) : Sees w (.slice a n cap) l := by
  subst hl; exact Sees.of_own h
/-- In w the document's reader at block c is in the state s; F: its blocks. -/
def Qs (w : World) (c : Nat) (F : List Nat) (s : RS) : Prop :=
  ∃ pv ev ps at' es, Qm w c pv ev ps at' es s.fault ∧ F = qfoot c pv ev ∧ (∀ x ∈ ps, x < 256) ∧ (s.fault = 0 → Geo ps at' es s.left s.behind) ∧ (s.fault ≠ 0 → s.left = [] ∧ s.behind = [])
/-- Behind a call on it. -/
def QsP (w : World) (c : Nat) (F : List Nat) (s' : RS) (w' : World) : Prop := ∃ F', Qs w' c F' s' ∧ Kept F w w' ∧ ∀ x ∈ F', x ∈ F ∨ w.heap.size ≤ x

theorem Qs.lt {w : World} {c : Nat} {F : List Nat} {s : RS} (h : Qs w c F s) : ∀ x ∈ F, x < w.heap.size := by
  obtain ⟨pv, ev, ps, at', es, h1, rfl, _⟩ := h; exact h1.lt
theorem Qs.mem {w : World} {c : Nat} {F : List Nat} {s : RS} (h : Qs w c F s) : c ∈ F := by
  obtain ⟨pv, ev, ps, at', es, h1, rfl, _⟩ := h; simp [qfoot]
theorem Qs.kept {G : List Nat} {w w' : World} {c : Nat} {F : List Nat} {s : RS} (h : Qs w c F s) (k : Kept G w w') (hF : ∀ x ∈ F, x ∉ G) : Qs w' c F s := by
  obtain ⟨pv, ev, ps, at', es, h1, rfl, h2⟩ := h
  exact ⟨pv, ev, ps, at', es, h1.kept k hF, rfl, h2⟩
theorem QsP.same {w w' : World} {c : Nat} {F : List Nat} {s : RS} (h : Qs w c F s) (k : Kept [] w w') : QsP w c F s w' := ⟨F, h.kept k (by simp), k.mono (by simp), fun _ hx => Or.inl hx⟩
theorem QsP.err {w w' : World} {c : Nat} {pv ev : Value} {ps : List Nat} {at2 : Nat} {es : List Nat} {cd : Nat} (hc : cd ≠ 0) (h : Qm w' c pv ev ps at2 es cd) (hb : ∀ x ∈ ps, x < 256) (k : Kept [c] w w') : QsP w c (qfoot c pv ev) (rF cd) w' :=
  ⟨qfoot c pv ev, ⟨pv, ev, ps, at2, es, h, rfl, hb, fun h0 => absurd h0 hc, fun _ => ⟨rfl, rfl⟩⟩, k.mono (fun x hx => Or.inl (by simp at hx; subst hx; simp [qfoot])), fun _ hx => Or.inl hx⟩
theorem QsP.ok {w w' : World} {c : Nat} {pv ev : Value} {ps : List Nat} {at2 : Nat} {es l : List Nat} {bh : List (List Nat)} (h : Qm w' c pv ev ps at2 es 0) (hb : ∀ x ∈ ps, x < 256) (g : Geo ps at2 es l bh) (k : Kept [c] w w') : QsP w c (qfoot c pv ev) ⟨0, l, bh⟩ w' :=
  ⟨qfoot c pv ev, ⟨pv, ev, ps, at2, es, h, rfl, hb, fun _ => g, fun h0 => absurd rfl h0⟩, k.mono (fun x hx => Or.inl (by simp at hx; subst hx; simp [qfoot])), fun _ hx => Or.inl hx⟩
theorem QsP.from {w W w' : World} {c : Nat} {F : List Nat} {s' : RS} (k : Kept [] w W) (h : QsP W c F s' w') : QsP w c F s' w' := by
  obtain ⟨F', h1, h2, h3⟩ := h
  refine ⟨F', h1, (k.mono (by simp)).trans h2 (fun x hx => Or.inl hx), fun x hx => ?_⟩
  rcases h3 x hx with h | h
  · exact Or.inl h
  · right; have := k.size; omega
theorem QsP.behind {w W w' : World} {c : Nat} {F : List Nat} {s' : RS} (h : QsP w c F s' W) (k : Kept [] W w') : QsP w c F s' w' := by
  obtain ⟨F', h1, h2, h3⟩ := h
  exact ⟨F', h1.kept k (by simp), h2.trans k (by simp), h3⟩

/-- A reader with no fault, opened. -/
theorem Qs.open {w : World} {c : Nat} {F : List Nat} {s : RS} (h : Qs w c F s) (hf : s.fault = 0) :
    ∃ pv ev ps at' es x, Qm w c pv ev ps at' es 0 ∧ F = qfoot c pv ev ∧ (∀ x ∈ ps, x < 256) ∧ Geo ps at' es s.left s.behind ∧ es.length = s.behind.length + 1 ∧ es[s.behind.length]? = some x ∧ s.left.length = x - at' ∧ at' ≤ x ∧ x ≤ ps.length ∧ s.left = (ps.take x).drop at' := by
  obtain ⟨pv, ev, ps, at', es, h1, h2, h3, h4, _⟩ := h
  have g := h4 hf
  obtain ⟨x, g1, g2, g3, g4⟩ := g.at
  rw [hf] at h1
  exact ⟨pv, ev, ps, at', es, x, h1, h2, h3, g, g.len, g1, g2, g3, g4, (g.le g1).2.2.2⟩
theorem Qs.dead {w : World} {c : Nat} {F : List Nat} {s : RS} (h : Qs w c F s) (hf : s.fault ≠ 0) :
    Calls Tryz.prog 50 #[.pointer (some ⟨c, 0, none⟩)] w fun e w' => e = .returned (.bool true) ∧ w = w' := by
  obtain ⟨pv, ev, ps, at', es, h1, _⟩ := h
  exact qdead_yes h1 hf
set_option maxRecDepth 100000 in
set_option maxHeartbeats 1000000 in
theorem qbyte_s {w : World} {c : Nat} {F : List Nat} {s : RS} (h : Qs w c F s) :
    Calls Tryz.prog 21 #[.pointer (some ⟨c, 0, none⟩)] w fun e w' => e = .returned (.int .i64 ((rByte s).2 : Nat)) ∧ QsP w c F (rByte s).1 w' := by
  by_cases hf : s.fault = 0
  · obtain ⟨pv, ev, ps, at', es, x, h1, rfl, hb, g, hm, hx, hl, hat, hxl, hle⟩ := h.open hf
    have HD := hide (qdead_no h1)
    have HG := hide g
    have HBy := hide hb
    cases hs : s.left with
    | nil =>
      have hr : rByte s = (rF 10, 0) := by unfold rByte; rw [if_neg (by omega), hs]
      have HB := hide (qbytes_short h1 _ x hm hx 1 (by rw [hs] at hl; simp at hl; omega))
      rw [hr]
      clear h h1 g hm hx hl hat hxl hle hb
      clear hr hs hf
      go_enter Tryz.func21, Tryz.ntmps21
      go_wp2_with (first | (go_at_call 50; refine (unhide HD).mono ?_; rintro e w1 ⟨rfl, rfl⟩) | (go_at_call 51; refine (unhide HB).mono ?_; rintro e w1 ⟨rfl, hq, hk⟩; have HQ := hide hq; have HK := hide hk; obtain ⟨d0, d1, d2, d3⟩ := blk4 hq.blk; have f3 := hq.blk.frozen 3; clear hq hk HB))
      go_ret
      exact ⟨rfl, QsP.err (by omega) (unhide HQ) (unhide HBy) (unhide HK)⟩
    | cons y l =>
      have hr : rByte s = (⟨0, l, s.behind⟩, y) := by unfold rByte; rw [if_neg (by omega), hs]
      have HB := hide (qbytes_ok h1 _ x hm hx 1 (by rw [hs] at hl; simp at hl; omega))
      have ht : (ps.drop at').take 1 = [y] := by rw [g.take 1 (by rw [hs]; simp), hs]; rfl
      have hy : y < 256 := hb y (by
        have : y ∈ s.left := by rw [hs]; simp
        rw [hle] at this
        exact List.mem_of_mem_take (List.mem_of_mem_drop this))
      have HG1 : Hid (Geo ps (at' + 1) es l s.behind) := by have := g.go 1 (by rw [hs]; simp); rw [hs] at this; exact this
      rw [ht] at HB
      rw [hr]
      clear h h1 g hm hx hl hat hxl hle hb
      clear hr hs hf ht HG
      go_enter Tryz.func21, Tryz.ntmps21
      go_wp2_with (first | (go_at_call 50; refine (unhide HD).mono ?_; rintro e w1 ⟨rfl, rfl⟩) | (go_at_call 51; refine (unhide HB).mono ?_; rintro e w1 ⟨a1, cap1, rfl, ho, hq, hk⟩; obtain ⟨g1, hga, hc1, hc2, cx⟩ := own1 ho; subst hga; have HQ := hide hq; have HK := hide hk; obtain ⟨d0, d1, d2, d3⟩ := blk4 hq.blk; clear ho hq hk HB))
      go_ret
      exact ⟨rfl, QsP.ok (unhide HQ) (unhide HBy) (unhide HG1) (unhide HK)⟩
  · have HD := hide (h.dead hf)
    have HH := hide h
    have hr : rByte s = (s, 0) := by unfold rByte; rw [if_pos hf]
    rw [hr]
    clear hr h hf
    go_enter Tryz.func21, Tryz.ntmps21
    go_wp2_with (first | (go_at_call 50; refine (unhide HD).mono ?_; rintro e w1 ⟨rfl, rfl⟩))
    go_ret
    exact ⟨rfl, QsP.same (unhide HH) (Kept.refl _ _)⟩

set_option maxRecDepth 100000 in
set_option maxHeartbeats 1000000 in
theorem qfixed_s {w : World} {c : Nat} {F : List Nat} {s : RS} (h : Qs w c F s) (size : Int) :
    Calls Tryz.prog 25 #[.pointer (some ⟨c, 0, none⟩), .int .i64 size] w fun e w' => e = .returned (.int .u64 ((rFixed s size).2 : Nat)) ∧ QsP w c F (rFixed s size).1 w' := by
  by_cases hf : s.fault = 0
  · obtain ⟨pv, ev, ps, at', es, x, h1, rfl, hb, g, hm, hx, hl, hat, hxl, hle⟩ := h.open hf
    have HD := hide (qdead_no h1)
    have HBy := hide hb
    by_cases ha : size < 1 ∨ 8 < size
    · have hr : rFixed s size = (rF 2, 0) := by unfold rFixed; rw [if_neg (by omega), if_pos ha]
      rw [hr]
      have HQ := hide h1
      have f3 := h1.blk.frozen 3
      have c3 := (blk4 h1.blk).2.2.2
      clear h h1 g hm hx hl hat hxl hle hb
      clear hr hf
      by_cases hs1 : size < 1
      · have b1 : decide (size < 1) = true := by simpa using hs1
        clear ha hs1
        go_enter Tryz.func25, Tryz.ntmps25
        go_wp2_with (first | (go_at_call 50; refine (unhide HD).mono ?_; rintro e w1 ⟨rfl, rfl⟩))
        go_ret
        obtain ⟨q1, q2⟩ := (unhide HQ).fail 2
        exact ⟨rfl, QsP.err (by omega) q1 (unhide HBy) q2⟩
      · have b1 : decide (size < 1) = false := by simpa using hs1
        have b2 : decide (8 < size) = true := by simp; omega
        clear ha hs1
        go_enter Tryz.func25, Tryz.ntmps25
        go_wp2_with (first | (go_at_call 50; refine (unhide HD).mono ?_; rintro e w1 ⟨rfl, rfl⟩))
        go_ret
        obtain ⟨q1, q2⟩ := (unhide HQ).fail 2
        exact ⟨rfl, QsP.err (by omega) q1 (unhide HBy) q2⟩
    · have b1 : decide (size < 1) = false := by simp; omega
      have b2 : decide (8 < size) = false := by simp; omega
      by_cases hsh : (s.left.length : Int) < size
      · have hr : rFixed s size = (rF 10, 0) := by unfold rFixed; rw [if_neg (by omega), if_neg ha, if_pos hsh]
        have HB := hide (qbytes_short h1 _ x hm hx size (by omega))
        rw [hr]
        have HV := fun W => hide (qvalue_any (w := W) (v := .slice none 0 0) (l := []) (Or.inl ⟨rfl, rfl⟩) (by simp) (by simp))
        clear h h1 g hm hx hl hat hxl hle hb
        clear hr hf ha hsh
        go_enter Tryz.func25, Tryz.ntmps25
        go_wp2_with (first | (go_at_call 50; refine (unhide HD).mono ?_; rintro e w1 ⟨rfl, rfl⟩) | (go_at_call 51; refine (unhide HB).mono ?_; rintro e w1 ⟨rfl, hq, hk⟩; have HQ := hide hq; have HK := hide hk; obtain ⟨d0, d1, d2, d3⟩ := blk4 hq.blk; have f3 := hq.blk.frozen 3; clear hq hk HB) | (go_at_call 53; refine (unhide (HV _)).mono ?_; rintro e w2 ⟨rfl, rfl⟩))
        go_ret
        exact ⟨rfl, QsP.err (by omega) (unhide HQ) (unhide HBy) (unhide HK)⟩
      · obtain ⟨n, rfl⟩ := Int.eq_ofNat_of_zero_le (show 0 ≤ size by omega)
        have hr : rFixed s (n : Int) = (⟨0, s.left.drop n, s.behind⟩, leV (s.left.take n)) := by unfold rFixed; rw [if_neg (by omega), if_neg ha, if_neg hsh]; rfl
        have HB := hide (qbytes_ok h1 _ x hm hx n (by omega))
        have HT := hide (g.take n (by omega))
        have HG1 := hide (g.go n (by omega))
        have HTL : Hid ((s.left.take n).length = n) := by unfold Hid; simp; omega
        have HTB : Hid (∀ x ∈ s.left.take n, x < 256) := by
          intro y hy
          have := List.mem_of_mem_take hy
          rw [hle] at this
          exact hb y (List.mem_of_mem_take (List.mem_of_mem_drop this))
        have hn8 : n ≤ 8 := by omega
        rw [hr]
        clear h h1 g hm hx hl hat hxl hle hb
        clear hr hf ha hsh
        go_enter Tryz.func25, Tryz.ntmps25
        go_wp2_with (first | (go_at_call 50; refine (unhide HD).mono ?_; rintro e w1 ⟨rfl, rfl⟩) | (go_at_call 51; refine (unhide HB).mono ?_; rintro e w1 ⟨a1, cap1, rfl, ho, hq, hk⟩; rw [unhide HT] at ho; have HS1 := hide (sees_own (unhide HTL) ho); have HQ := hide hq; have HK := hide hk; clear ho hq hk HB) | (go_at_call 53; refine (qvalue_any (unhide HS1) (unhide HTB) (by rw [unhide HTL]; exact hn8)).mono ?_; rintro e w2 ⟨rfl, rfl⟩))
        go_ret
        exact ⟨rfl, QsP.ok (unhide HQ) (unhide HBy) (unhide HG1) (unhide HK)⟩
  · have HD := hide (h.dead hf)
    have HH := hide h
    have hr : rFixed s size = (s, 0) := by unfold rFixed; rw [if_pos hf]
    rw [hr]
    clear hr h hf
    go_enter Tryz.func25, Tryz.ntmps25
    go_wp2_with (first | (go_at_call 50; refine (unhide HD).mono ?_; rintro e w1 ⟨rfl, rfl⟩))
    go_ret
    exact ⟨rfl, QsP.same (unhide HH) (Kept.refl _ _)⟩

set_option maxRecDepth 100000 in
set_option maxHeartbeats 1000000 in
theorem qnum_s {w : World} {c : Nat} {F : List Nat} {s : RS} (h : Qs w c F s) :
    Calls Tryz.prog 22 #[.pointer (some ⟨c, 0, none⟩)] w fun e w' => e = .returned (.int .u64 ((rNum s).2 : Nat)) ∧ QsP w c F (rNum s).1 w' := by
  by_cases hf : s.fault = 0
  · obtain ⟨pv, ev, ps, at', es, x, h1, rfl, hb, g, hm, hx, hl, hat, hxl, hle⟩ := h.open hf
    have HD := hide (qdead_no h1)
    have HBy := hide hb
    have HG := hide g
    have HN := hide (qnumber_any h1 _ x hm hx hat hb s.left hle)
    have hlb : ∀ y ∈ s.left, y < 256 := by
      intro y hy
      rw [hle] at hy
      exact hb y (List.mem_of_mem_take (List.mem_of_mem_drop hy))
    cases hrd : readNum 0 0 s.left with
    | inl cd =>
      have hr : rNum s = (rF cd, 0) := by unfold rNum; rw [if_neg (by omega), hrd]
      have HC : Hid (cd ≠ 0) := by rcases readNum_code _ _ _ hrd with rfl | rfl <;> simp [Hid]
      have HRD := hide hrd
      rw [hr]
      clear h h1 g hm hx hl hat hxl hle hb
      clear hr hrd hf hlb
      go_enter Tryz.func22, Tryz.ntmps22
      go_wp2_with (first | (go_at_call 50; refine (unhide HD).mono ?_; rintro e w1 ⟨rfl, rfl⟩) | (go_at_call 52; refine (unhide HN).mono ?_; rintro e w1 ⟨-, hq, hk⟩; obtain ⟨rfl, at2, hq⟩ := hq cd (unhide HRD); have HQ := hide hq; have HK := hide hk; obtain ⟨d0, d1, d2, d3⟩ := blk4 hq.blk; clear hq hk HN))
      go_ret
      exact ⟨rfl, QsP.err (unhide HC) (unhide HQ) (unhide HBy) (unhide HK)⟩
    | inr p =>
      obtain ⟨n, r⟩ := p
      have hr : rNum s = (⟨0, r, s.behind⟩, n) := by unfold rNum; rw [if_neg (by omega), hrd]
      have HRD := hide hrd
      rw [hr]
      clear h h1 g hm hx hl hat hxl hle hb
      clear hr hrd hf hlb
      go_enter Tryz.func22, Tryz.ntmps22
      go_wp2_with (first | (go_at_call 50; refine (unhide HD).mono ?_; rintro e w1 ⟨rfl, rfl⟩) | (go_at_call 52; refine (unhide HN).mono ?_; rintro e w1 ⟨hq, -, hk⟩; obtain ⟨rfl, k, hkl, hrk, hq⟩ := hq n r (unhide HRD); have HQ := hide hq; have HK := hide hk; have HKL := hide hkl; have HRK := hide hrk; obtain ⟨d0, d1, d2, d3⟩ := blk4 hq.blk; have f3 := hq.blk.frozen 3; clear hq hk HN hkl hrk))
      go_ret
      refine ⟨rfl, QsP.ok (unhide HQ) (unhide HBy) ?_ (unhide HK)⟩
      rw [unhide HRK]
      exact (unhide HG).go _ (unhide HKL)
  · have HD := hide (h.dead hf)
    have HH := hide h
    have hr : rNum s = (s, 0) := by unfold rNum; rw [if_pos hf]
    rw [hr]
    clear hr h hf
    go_enter Tryz.func22, Tryz.ntmps22
    go_wp2_with (first | (go_at_call 50; refine (unhide HD).mono ?_; rintro e w1 ⟨rfl, rfl⟩))
    go_ret
    exact ⟨rfl, QsP.same (unhide HH) (Kept.refl _ _)⟩

end Go.Proofs.YtfhfkpgfnlmfhaaGreatDoor

/- The document's reader, whatever its state: Raw, Text, Rest, Done. -/
namespace Go.Proofs.YtfhfkpgfnlmfhaaGreatDoor
open Go.RowKit

set_option maxRecDepth 100000 in
set_option maxHeartbeats 1000000 in
theorem qtext_s {w : World} {c : Nat} {F : List Nat} {s : RS} (h : Qs w c F s) (most : Int) (hm9 : most ≤ 9223372036854775807) :
    Calls Tryz.prog 24 #[.pointer (some ⟨c, 0, none⟩), .int .i64 most] w fun e w' => NewB w (rText s most).2 e w' ∧ QsP w c F (rText s most).1 w' := by
  by_cases hf : s.fault = 0
  · obtain ⟨pv, ev, ps, at', es, x, h1, rfl, hb, g, hm, hx, hl, hat, hxl, hle⟩ := h.open hf
    have HD := hide (qdead_no h1)
    have HBy := hide hb
    have HG := hide g
    have HN := hide (qnumber_any h1 _ x hm hx hat hb s.left hle)
    have hlb : ∀ y ∈ s.left, y < 256 := by
      intro y hy
      rw [hle] at hy
      exact hb y (List.mem_of_mem_take (List.mem_of_mem_drop hy))
    have hmn : most.toNat < 9223372036854775808 := by omega
    obtain ⟨M, hM⟩ : ∃ M : Nat, most.toNat = M := ⟨_, rfl⟩
    have hw0 : (if most < 0 then (0 : Int) else most) = (M : Int) := by rw [← hM]; split <;> omega
    cases hrd : readNum 0 0 s.left with
    | inl cd =>
      have hr : rText s most = (rF cd, []) := by unfold rText; rw [if_neg (by omega), hrd]
      have HC : Hid (cd ≠ 0) := by rcases readNum_code _ _ _ hrd with rfl | rfl <;> simp [Hid]
      have hcd : ((cd : Int) != 0) = true := by have := unhide HC; rw [bne_iff_ne]; omega
      have HRD := hide hrd
      rw [hr]
      clear h h1 g hm hx hl hat hxl hle hb
      clear hr hrd hf hlb hM hw0
      by_cases hs0 : most < 0
      · have t1 : (most < 0) = True := by simpa using hs0
        clear hs0
        go_enter Tryz.func24, Tryz.ntmps24
        go_wp2_with (first | (go_at_call 50; refine (unhide HD).mono ?_; rintro e w1 ⟨rfl, rfl⟩) | (go_at_call 52; refine (unhide HN).mono ?_; rintro e w1 ⟨-, hq, hk⟩; obtain ⟨rfl, at2, hq⟩ := hq _ (unhide HRD); have HQ := hide hq; have HK := hide hk; obtain ⟨d0, d1, d2, d3⟩ := blk4 hq.blk; clear hq hk HN))
        go_ret
        exact ⟨NewB.nil _ _, QsP.err (unhide HC) (unhide HQ) (unhide HBy) (unhide HK)⟩
      · have t1 : (most < 0) = False := by simpa using hs0
        clear hs0
        go_enter Tryz.func24, Tryz.ntmps24
        go_wp2_with (first | (go_at_call 50; refine (unhide HD).mono ?_; rintro e w1 ⟨rfl, rfl⟩) | (go_at_call 52; refine (unhide HN).mono ?_; rintro e w1 ⟨-, hq, hk⟩; obtain ⟨rfl, at2, hq⟩ := hq _ (unhide HRD); have HQ := hide hq; have HK := hide hk; obtain ⟨d0, d1, d2, d3⟩ := blk4 hq.blk; clear hq hk HN))
        go_ret
        exact ⟨NewB.nil _ _, QsP.err (unhide HC) (unhide HQ) (unhide HBy) (unhide HK)⟩
    | inr p =>
      obtain ⟨n, r⟩ := p
      have hn := (readNum_lt _ 0 0 (by omega) (by simp) hlb hrd)
      have hn64 : n < 18446744073709551616 := by omega
      have HRD := hide hrd
      by_cases hbig : M < n
      · have hr : rText s most = (rF 11, []) := by unfold rText; rw [if_neg (by omega), hrd]; simp only; rw [hM, if_pos hbig]
        rw [hr]
        clear h h1 g hm hx hl hat hxl hle hb
        clear hr hrd hf hlb hn
        by_cases hs0 : most < 0
        · have t1 : (most < 0) = True := by simpa using hs0
          obtain rfl : M = 0 := by omega
          have t2 : ((0 : Int) < (n : Int)) = True := by simp; omega
          clear hs0 hM hw0
          go_enter Tryz.func24, Tryz.ntmps24
          go_wp2_with (first | (go_at_call 50; refine (unhide HD).mono ?_; rintro e w1 ⟨rfl, rfl⟩) | (go_at_call 52; refine (unhide HN).mono ?_; rintro e w1 ⟨hq, -, hk⟩; obtain ⟨rfl, k, hkl, hrk, hq⟩ := hq _ _ (unhide HRD); have HQ := hide hq; have HK := hide hk; have HKL := hide hkl; have HRK := hide hrk; obtain ⟨d0, d1, d2, d3⟩ := blk4 hq.blk; have f3 := hq.blk.frozen 3; clear hq hk HN hkl hrk))
          go_ret
          obtain ⟨q1, q2⟩ := (unhide HQ).fail 11
          exact ⟨NewB.nil _ _, QsP.err (by omega) q1 (unhide HBy) ((unhide HK).trans q2 (fun y hy => Or.inl hy))⟩
        · have t1 : (most < 0) = False := by simpa using hs0
          obtain ⟨mm, rfl⟩ := Int.eq_ofNat_of_zero_le (show 0 ≤ most by omega)
          obtain rfl : mm = M := by omega
          have t2 : ((mm : Int) < (n : Int)) = True := by simp; omega
          have t3 : ((mm : Int) < 0) = False := by simp
          have hw5 : IntKind.u64.wrap (mm : Int) = (mm : Int) := by rw [IntKind.wrap_u64]; omega
          clear hs0 hM hw0 t1
          go_enter Tryz.func24, Tryz.ntmps24
          go_wp2_with (first | (go_at_call 50; refine (unhide HD).mono ?_; rintro e w1 ⟨rfl, rfl⟩) | (go_at_call 52; refine (unhide HN).mono ?_; rintro e w1 ⟨hq, -, hk⟩; obtain ⟨rfl, k, hkl, hrk, hq⟩ := hq _ _ (unhide HRD); have HQ := hide hq; have HK := hide hk; have HKL := hide hkl; have HRK := hide hrk; obtain ⟨d0, d1, d2, d3⟩ := blk4 hq.blk; have f3 := hq.blk.frozen 3; clear hq hk HN hkl hrk))
          go_ret
          obtain ⟨q1, q2⟩ := (unhide HQ).fail 11
          exact ⟨NewB.nil _ _, QsP.err (by omega) q1 (unhide HBy) ((unhide HK).trans q2 (fun y hy => Or.inl hy))⟩
      · have hwn : IntKind.i64.wrap (n : Int) = (n : Int) := by rw [IntKind.wrap_i64]; omega
        have HPS := hide hxl
        have HAT := hide hat
        have HM := hide hm
        have HX := hide hx
        by_cases hsh : r.length < n
        · have hr : rText s most = (rF 10, []) := by unfold rText; rw [if_neg (by omega), hrd]; simp only; rw [hM, if_neg hbig, if_pos hsh]
          rw [hr]
          have HLL := hide hl
          have HSH := hide hsh
          clear h h1 g hm hx hl hat hxl hle hb
          clear hr hrd hf hlb hn
          by_cases hs0 : most < 0
          · exfalso; omega
          · obtain ⟨mm, rfl⟩ := Int.eq_ofNat_of_zero_le (show 0 ≤ most by omega)
            obtain rfl : mm = M := by omega
            have t2 : ((mm : Int) < (n : Int)) = False := by simp; omega
            have t3 : ((mm : Int) < 0) = False := by simp
            have hw5 : IntKind.u64.wrap (mm : Int) = (mm : Int) := by rw [IntKind.wrap_u64]; omega
            clear hs0 hM hw0
            go_enter Tryz.func24, Tryz.ntmps24
            go_wp2_with (first | (go_at_call 50; refine (unhide HD).mono ?_; rintro e w1 ⟨rfl, rfl⟩) | (go_at_call 52; refine (unhide HN).mono ?_; rintro e w1 ⟨hq, -, hk⟩; obtain ⟨rfl, k, hkl, hrk, hq⟩ := hq _ _ (unhide HRD); have HQ := hide hq; have HK := hide hk; have HKL := hide hkl; have HRK := hide hrk; obtain ⟨d0, d1, d2, d3⟩ := blk4 hq.blk; have f3 := hq.blk.frozen 3; clear hq hk HN hkl hrk) | (go_at_call 51; refine (qbytes_short (unhide HQ) _ x (unhide HM) (unhide HX) (n : Int) (by have h1 := unhide HLL; have h2 := unhide HSH; have h3 := unhide HKL; have h4 := congrArg List.length (unhide HRK); simp only [List.length_drop] at h4; omega)).mono ?_; rintro e w3 ⟨rfl, hq, hk⟩; have HQ3 := hide hq; have HK3 := hide hk; clear hq hk))
            go_ret
            exact ⟨NewB.nil _ _, QsP.err (by omega) (unhide HQ3) (unhide HBy) ((unhide HK).trans (unhide HK3) (fun y hy => Or.inl hy))⟩
        · have hr : rText s most = (⟨0, r.drop n, s.behind⟩, r.take n) := by unfold rText; rw [if_neg (by omega), hrd]; simp only; rw [hM, if_neg hbig, if_neg hsh]
          rw [hr]
          have HLL := hide hl
          have HSH := hide hsh
          have HTL : Hid ((r.take n).length = n) := by unfold Hid; simp; omega
          clear h h1 g hm hx hl hat hxl hle hb
          clear hr hrd hf hlb hn
          by_cases hs0 : most < 0
          · have t1 : (most < 0) = True := by simpa using hs0
            obtain rfl : M = 0 := by omega
            obtain rfl : n = 0 := by omega
            clear hs0 hM hw0
            go_enter Tryz.func24, Tryz.ntmps24
            go_wp2_with (first | (go_at_call 50; refine (unhide HD).mono ?_; rintro e w1 ⟨rfl, rfl⟩) | (go_at_call 52; refine (unhide HN).mono ?_; rintro e w1 ⟨hq, -, hk⟩; obtain ⟨rfl, k, hkl, hrk, hq⟩ := hq _ _ (unhide HRD); have HQ := hide hq; have HK := hide hk; have HKL := hide hkl; have HRK := hide hrk; obtain ⟨d0, d1, d2, d3⟩ := blk4 hq.blk; have f3 := hq.blk.frozen 3; clear hq hk HN hkl hrk) | (go_at_call 51; refine (qbytes_ok (unhide HQ) _ x (unhide HM) (unhide HX) 0 (by have h1 := unhide HLL; have h2 := unhide HKL; have h5 := unhide HAT; omega)).mono ?_; rintro e w3 ⟨a3, cap3, rfl, ho, hq, hk⟩; have HO3 := hide ho; have HQ3 := hide hq; have HK3 := hide hk; clear ho hq hk))
            go_ret
            refine ⟨⟨a3, cap3, rfl, own_base (unhide HO3) (fun q hq => by have := ((unhide HO3).lt q hq).1; have := (unhide HK).size; omega)⟩, QsP.ok (unhide HQ3) (unhide HBy) ?_ ((unhide HK).trans (unhide HK3) (fun y hy => Or.inl hy))⟩
            rw [List.drop_zero, unhide HRK]
            exact (unhide HG).go _ (unhide HKL)
          · obtain ⟨mm, rfl⟩ := Int.eq_ofNat_of_zero_le (show 0 ≤ most by omega)
            obtain rfl : mm = M := by omega
            have t2 : ((mm : Int) < (n : Int)) = False := by simp; omega
            have t3 : ((mm : Int) < 0) = False := by simp
            have hw5 : IntKind.u64.wrap (mm : Int) = (mm : Int) := by rw [IntKind.wrap_u64]; omega
            clear hs0 hM hw0
            go_enter Tryz.func24, Tryz.ntmps24
            go_wp2_with (first | (go_at_call 50; refine (unhide HD).mono ?_; rintro e w1 ⟨rfl, rfl⟩) | (go_at_call 52; refine (unhide HN).mono ?_; rintro e w1 ⟨hq, -, hk⟩; obtain ⟨rfl, k, hkl, hrk, hq⟩ := hq _ _ (unhide HRD); have HQ := hide hq; have HK := hide hk; have HKL := hide hkl; have HRK := hide hrk; obtain ⟨d0, d1, d2, d3⟩ := blk4 hq.blk; have f3 := hq.blk.frozen 3; clear hq hk HN hkl hrk) | (go_at_call 51; refine (qbytes_ok (unhide HQ) _ x (unhide HM) (unhide HX) n (by have h5 := unhide HAT; have h1 := unhide HLL; have h2 := unhide HSH; have h3 := unhide HKL; have h4 := congrArg List.length (unhide HRK); simp only [List.length_drop] at h4; omega)).mono ?_; rintro e w3 ⟨a3, cap3, rfl, ho, hq, hk⟩; have HO3 := hide ho; have HQ3 := hide hq; have HK3 := hide hk; clear ho hq hk))
            go_ret
            have gk := (unhide HG).go _ (unhide HKL)
            rw [← unhide HRK] at gk
            have hnl : n ≤ r.length := by have := unhide HSH; omega
            refine ⟨⟨a3, cap3, ?_, ?_⟩, QsP.ok (unhide HQ3) (unhide HBy) (gk.go n hnl) ((unhide HK).trans (unhide HK3) (fun y hy => Or.inl hy))⟩
            · show Ending.returned (.slice a3 n cap3) = .returned (.slice a3 (r.take n).length cap3)
              rw [unhide HTL]
            · show w3.ownsRow w.heap.size 5 1 (.slice a3 (r.take n).length cap3) (r.take n).length (u8s (r.take n))
              rw [unhide HTL]
              have ho := unhide HO3
              rw [gk.take n hnl] at ho
              exact own_base ho (fun q hq => by have := (ho.lt q hq).1; have := (unhide HK).size; omega)
  · have HD := hide (h.dead hf)
    have HH := hide h
    have hr : rText s most = (s, []) := by unfold rText; rw [if_pos hf]
    rw [hr]
    clear hr h hf
    go_enter Tryz.func24, Tryz.ntmps24
    go_wp2_with (first | (go_at_call 50; refine (unhide HD).mono ?_; rintro e w1 ⟨rfl, rfl⟩))
    go_ret
    exact ⟨NewB.nil _ _, QsP.same (unhide HH) (Kept.refl _ _)⟩

end Go.Proofs.YtfhfkpgfnlmfhaaGreatDoor

/- The document's reader, whatever its state: Real. -/
namespace Go.Proofs.YtfhfkpgfnlmfhaaGreatDoor
open Go.RowKit

theorem infoI : (Tryz.prog.info? 3).map (fun i => (i.zero, i.size, i.bytes)) = some (some (.int .i64 0), 1, 8) := by kernel_rfl
/-- one more number behind numbers of its own -/
theorem app_int {w : World} {a : Option Addr} {k cap : Nat} {xs : List Nat} (h : w.ownsRow 0 3 1 (.slice a k cap) k (i64s xs)) (hk : xs.length = k) (x : Nat) (hl : k ≤ 1000000) (ty : TypeId) :
    ∃ a' cap' w', (Builtin.append_ #[82, 82] ty #[.slice a k cap, .slice (some ⟨w.heap.size, 0, none⟩) 1 1]).run Tryz.prog (w.alloc (.cells #[.int .i64 (x : Int)] 3)).drew = .ok (.slice a' (k + 1) cap') w' ∧ w'.ownsRow 0 3 1 (.slice a' (k + 1) cap') (k + 1) (i64s (xs ++ [x])) ∧ Kept (Value.slice a k cap).ownBlock.toList w w' ∧ ((Value.slice a' (k + 1) cap').ownBlock = (Value.slice a k cap).ownBlock ∨ ∀ q, (Value.slice a' (k + 1) cap').ownBlock = some q → w.heap.size ≤ q) := by
  obtain ⟨i0, hi, hz0, hz1, hz2⟩ := info_parts infoI
  have k1 : Kept [] w (w.alloc (.cells #[.int .i64 (x : Int)] 3)).drew := ((Kept.refl [] w).alloc _).drew
  obtain ⟨v', w', h1, h2, h3, _, h5⟩ := run_append_own_at (P := Tryz.prog) (w.alloc (.cells #[.int .i64 (x : Int)] 3)).drew 0 82 ty 3 i0 (.int .i64 0) 1 8 Tryz.underlying82 hi hz0 hz1 hz2 rfl (by decide) (.slice a k cap) k (i64s xs) (own_kept h k1 (by simp)) ⟨w.heap.size, 0, none⟩ 1 1 [.int .i64 (x : Int)] rfl (news_i64 w x) (by intro u hu; simp at hu; subst hu; rfl) (by unfold maxLen; omega) (by omega) (by simp)
  obtain ⟨a', cap', rfl⟩ := own_len h2
  have hl1 : i64s (xs ++ [x]) = i64s xs ++ [.int .i64 (x : Int)] := by simp [i64s]
  refine ⟨a', cap', w', h1, by rw [hl1]; exact h2, (k1.mono (by simp)).grown h3 (fun q hq => Or.inl (by simp [hq])), ?_⟩
  rcases h5 with h5 | h5
  · exact Or.inl h5
  · right; intro q hq; rw [h5] at hq; simp at hq; omega

/-- The ends are written anew. -/
theorem Qm.ends {w w1 : World} {c : Nat} {pv ev ev' : Value} {ps : List Nat} {at' : Nat} {es : List Nat} {fa : Nat} (h : Qm w c pv ev ps at' es fa) (ts : List Nat)
    (hown : w1.ownsRow 0 3 1 ev' ts.length (i64s ts)) (hk : Kept ev.ownBlock.toList w w1) (hat : ev'.ownBlock = ev.ownBlock ∨ ∀ x, ev'.ownBlock = some x → w.heap.size ≤ x)
    (hl : ts.length ≤ 17) (ht : ∀ x ∈ ts, x ≤ ps.length) :
    Qm (w1.setCell ⟨c, 2, none⟩ ev') c pv ev' ps at' ts fa ∧ Kept (qfoot c pv ev) w (w1.setCell ⟨c, 2, none⟩ ev') ∧ ∀ x, x ∈ qfoot c pv ev' → x ∈ qfoot c pv ev ∨ w.heap.size ≤ x := by
  have hb := h.blk.lt
  have k2 : Kept (qfoot c pv ev) w (w1.setCell ⟨c, 2, none⟩ ev') := (hk.mono (fun x hx => Or.inl (by simp [qfoot]; simp at hx; simp [hx]))).setCell (Or.inl (by simp [qfoot])) ev'
  have n2' : ev'.ownBlock ≠ some c := by
    rcases hat with e | e
    · rw [e]; exact h.n2
    · intro hx; have := e c hx; omega
  have n3' : ∀ k, pv.ownBlock = some k → ev'.ownBlock ≠ some k := by
    intro k hk' hs
    rcases hat with e | e
    · exact h.n3 k hk' (by rw [← e]; exact hs)
    · have := e k hs; have := h.see.lt hk'; omega
  refine ⟨⟨?_, ?_, ?_, h.n1, n2', n3', h.bl, hl, h.bat, ht⟩, k2, ?_⟩
  · have b1 := h.blk.kept hk (by simp; exact h.n2)
    simpa using b1.set 2 ev'
  · have o1 := h.see.kept hk (fun k hk' => by simp; exact h.n3 k hk')
    exact o1.kept ((Kept.refl [c] _).setCell (Or.inl (by simp)) ev') (fun k hk' => by simp; intro e; exact h.n1 (by rw [hk', e]))
  · exact own_kept hown ((Kept.refl [c] _).setCell (Or.inl (by simp)) ev') (fun k hk' => by simp; intro e; exact n2' (by rw [hk', e]))
  · intro x hx
    simp [qfoot] at hx ⊢
    rcases hx with hx | hx | hx
    · exact Or.inl (Or.inl hx)
    · exact Or.inl (Or.inr (Or.inl hx))
    · rcases hat with e | e
      · exact Or.inl (Or.inr (Or.inr (by rw [← e]; exact hx)))
      · exact Or.inr (e x hx)

theorem of8_64 (l : List Nat) (h : ∀ x ∈ l, x < 256) (hl : l.length = 8) : of8 l < 18446744073709551616 := by
  rw [← leV_of8]
  have := leV_lt l.reverse (fun x hx => h x (by simpa using hx))
  rw [List.length_reverse, hl] at this
  exact this

end Go.Proofs.YtfhfkpgfnlmfhaaGreatDoor

/- The document's reader, whatever its state: Enter. -/
namespace Go.Proofs.YtfhfkpgfnlmfhaaGreatDoor
open Go.RowKit

end Go.Proofs.YtfhfkpgfnlmfhaaGreatDoor

/- The document's reader: Leave; every call on none at all. -/
namespace Go.Proofs.YtfhfkpgfnlmfhaaGreatDoor
open Go.RowKit

set_option maxRecDepth 100000 in
set_option maxHeartbeats 1000000 in
theorem qbyte_nil (w : World) : Calls Tryz.prog 21 #[.pointer none] w fun e w' => e = .returned (.int .i64 0) ∧ w = w' := by
  have HD := hide (qdead_nil w)
  go_enter Tryz.func21, Tryz.ntmps21
  go_wp2_with (first | (go_at_call 50; refine (unhide HD).mono ?_; rintro e w1 ⟨rfl, rfl⟩))
  go_ret
  exact ⟨rfl, rfl⟩

set_option maxRecDepth 100000 in
set_option maxHeartbeats 1000000 in
theorem qfixed_nil (w : World) (n : Int) : Calls Tryz.prog 25 #[.pointer none, .int .i64 n] w fun e w' => e = .returned (.int .u64 0) ∧ w = w' := by
  have HD := hide (qdead_nil w)
  go_enter Tryz.func25, Tryz.ntmps25
  go_wp2_with (first | (go_at_call 50; refine (unhide HD).mono ?_; rintro e w1 ⟨rfl, rfl⟩))
  go_ret
  exact ⟨rfl, rfl⟩

set_option maxRecDepth 100000 in
set_option maxHeartbeats 1000000 in
theorem qnum_nil (w : World) : Calls Tryz.prog 22 #[.pointer none] w fun e w' => e = .returned (.int .u64 0) ∧ w = w' := by
  have HD := hide (qdead_nil w)
  go_enter Tryz.func22, Tryz.ntmps22
  go_wp2_with (first | (go_at_call 50; refine (unhide HD).mono ?_; rintro e w1 ⟨rfl, rfl⟩))
  go_ret
  exact ⟨rfl, rfl⟩

set_option maxRecDepth 100000 in
set_option maxHeartbeats 1000000 in
theorem qtext_nil (w : World) (n : Int) : Calls Tryz.prog 24 #[.pointer none, .int .i64 n] w fun e w' => e = .returned (.slice none 0 0) ∧ w = w' := by
  have HD := hide (qdead_nil w)
  go_enter Tryz.func24, Tryz.ntmps24
  go_wp2_with (first | (go_at_call 50; refine (unhide HD).mono ?_; rintro e w1 ⟨rfl, rfl⟩))
  go_ret
  exact ⟨rfl, rfl⟩

end Go.Proofs.YtfhfkpgfnlmfhaaGreatDoor

/- The document's reader is made: Read. -/
namespace Go.Proofs.YtfhfkpgfnlmfhaaGreatDoor
open Go.RowKit

/-- one more byte behind bytes of its own: what is kept -/
theorem app_byteK {w : World} {base : Nat} {a : Option Addr} {k cap : Nat} {xs : List Nat} (h : w.ownsRow base 5 1 (.slice a k cap) k (u8s xs)) (hk : xs.length = k) (x : Nat) (hl : k + 1 ≤ 140737488355328) (hb : base ≤ w.heap.size) (ty : TypeId) :
    ∃ a' cap' w', (Builtin.append_ #[22, 22] ty #[.slice a k cap, .slice (some ⟨w.heap.size, 0, none⟩) 1 1]).run Tryz.prog (w.alloc (.cells #[.int .u8 (x : Int)] 5)).drew = .ok (.slice a' (k + 1) cap') w' ∧ w'.ownsRow base 5 1 (.slice a' (k + 1) cap') (k + 1) (u8s (xs ++ [x])) ∧ Kept (Value.slice a k cap).ownBlock.toList w w' ∧ ((Value.slice a' (k + 1) cap').ownBlock = (Value.slice a k cap).ownBlock ∨ ∀ q, (Value.slice a' (k + 1) cap').ownBlock = some q → w.heap.size ≤ q) := by
  obtain ⟨i0, hi, hz0, hz1, hz2⟩ := info_parts Tryz.info5
  subst hk
  have k1 : Kept [] w (w.alloc (.cells #[.int .u8 (x : Int)] 5)).drew := ((Kept.refl [] w).alloc _).drew
  have s1 : Sees (w.alloc (.cells #[.int .u8 (x : Int)] 5)).drew (.slice (some ⟨w.heap.size, 0, none⟩) 1 1) [x] := (news_one w x).kept (F := []) (Kept.refl [] _).drew (by simp)
  obtain ⟨v', w', h1, h2, h3, h4⟩ := run_append_sees (P := Tryz.prog) (w.alloc (.cells #[.int .u8 (x : Int)] 5)).drew base 22 ty 5 i0 (.int .u8 0) Tryz.underlying22 hi hz0 hz1 hz2 rfl _ xs (own_kept h k1 (by simp)) _ [x] s1 (by simp; omega) (by simp; omega)
  obtain ⟨a', cap', rfl⟩ := own_len h2
  have hl1 : (xs ++ [x]).length = xs.length + 1 := by simp
  rw [hl1] at h1 h2 h4
  refine ⟨a', cap', w', h1, h2, (k1.mono (by simp)).grown h3 (fun q hq => Or.inl (by simp [hq])), ?_⟩
  rcases h4 with h5 | h5
  · exact Or.inl h5
  · right; intro q hq; rw [h5] at hq; simp at hq; omega

theorem take_snoc (ps : List Nat) (k : Nat) (h : k < ps.length) : ps.take k ++ [ps.getD k 0] = ps.take (k + 1) := by
  have := take_next ps 0 k (by omega)
  simpa using this

set_option maxRecDepth 100000 in
set_option maxHeartbeats 1000000 in
theorem qread_any {w : World} {v : Value} {ps : List Nat} (h : Wide w v ps) (hb : ∀ x ∈ ps, x < 256) (hl : ps.length ≤ 140737488355328) :
    Calls Tryz.prog 20 #[v] w fun e w' => ∃ c F, e = .returned (.pointer (some ⟨c, 0, none⟩)) ∧ Qs w' c F ⟨0, ps, []⟩ ∧ (∀ x ∈ F, w.heap.size ≤ x) ∧ Kept [] w w' := by
  have HW := hide h
  have HB := hide hb
  obtain ⟨va, vc, rfl⟩ := wide_len h
  obtain ⟨L, hL⟩ : ∃ L, ps.length = L := ⟨_, rfl⟩
  have HL := hide hL
  rw [hL] at hl ⊢
  clear h hb hL
  go_enter Tryz.func20, Tryz.ntmps20
  go_wp2
  go_loopw [4] (fun i wr => ∃ (k : Nat) (a : Option Addr) (cap : Nat), k ≤ L ∧ i = .int .i64 (k : Int) ∧ Hid (Blk wr (w.heap.size + 1) #[.slice a k cap, .int .i64 0, .slice (some ⟨w.heap.size, 0, none⟩) 1 1, .int .i64 0] 84 ∧ wr.ownsRow (w.heap.size + 2) 5 1 (.slice a k cap) k (u8s (ps.take k)) ∧ wr.ownsRow 0 3 1 (.slice (some ⟨w.heap.size, 0, none⟩) 1 1) 1 (i64s [L]) ∧ Kept [] w wr ∧ w.heap.size + 2 ≤ wr.heap.size)) (fun i _ => L - (intOf i).toNat)
  case atStart =>
    refine ⟨0, none, 0, by omega, rfl, hide ⟨?_, ?_, ?_, ?_, ?_⟩⟩
    · have := Blk.new (w.alloc (.cells #[.int .i64 (L : Int)] 3)) #[.slice none 0 0, .int .i64 0, .slice (some ⟨w.heap.size, 0, none⟩) 1 1, .int .i64 0] 84
      simpa using this
    · exact World.ownsRow_nil _ _ _ _
    · refine ⟨rfl, Or.inr ⟨w.heap.size, 1, #[.int .i64 (L : Int)], rfl, Nat.zero_le _, ?_, by omega, by unfold maxLen; omega, rfl, rfl⟩⟩
      exact (Blk.new w #[.int .i64 (L : Int)] 3).alloc _
    · exact ((Kept.refl [] w).alloc _).alloc _
    · simp
  case round =>
    obtain ⟨k, a, cap, hk, rfl, HR⟩ := hrel
    obtain ⟨hbk, hro, hre, hkp, hsz⟩ := unhide HR
    by_cases hlt : k < L
    · have hi : k < ps.length := by rw [unhide HL]; exact hlt
      obtain ⟨b, off, hva, cx⟩ := ((unhide HW).kept hkp).at k hi
      subst hva
      obtain ⟨c0, c1, c2, c3⟩ := blk4 hbk
      have HT := hide (take_snoc ps k hi)
      have hlen : (ps.take k).length = k := by simp; omega
      obtain ⟨a2, d2, w2, hap, ho2, hk2, hat2⟩ := app_byteK hro hlen (ps.getD k 0) (by omega) hsz 22
      generalize ps.getD k 0 = y at *
      have HAP := hide hap
      have HAP2 : Hid ((Builtin.append_ #[22, 22] 22 #[.slice a k cap, .slice (some ⟨wr.heap.size, 0, none⟩) 1 1]).run Tryz.prog (wr.drew.alloc (.cells #[.int .u8 (y : Int)] 5)) = .ok (.slice a2 (k + 1) d2) w2) := hap
      have hcA : (wr.alloc (.cells #[.int .u8 (y : Int)] 5)).cell? ⟨w.heap.size + 1, 0, none⟩ = some (.slice a k cap) := (blk4 (hbk.alloc _)).1
      have hnb : ∀ q, q < w.heap.size + 2 → q ∉ (Value.slice a k cap).ownBlock.toList := fun q hq hm => by have := (hro.lt q (Option.mem_toList.1 hm)).1; omega
      have hb2 := hbk.kept hk2 (hnb _ (by omega))
      have he2 := own_kept hre hk2 (fun q hq => hnb q (by have e0 : (some w.heap.size : Option Nat) = some q := hq; simp at e0; omega))
      have g0 : w2.cell? ⟨w.heap.size + 1, 0, none⟩ = some (.slice a k cap) := (blk4 hb2).1
      have f0 := hb2.frozen 0
      have HFIN : Hid (Blk (w2.setCell ⟨w.heap.size + 1, 0, none⟩ (.slice a2 (k + 1) d2)) (w.heap.size + 1) #[.slice a2 (k + 1) d2, .int .i64 0, .slice (some ⟨w.heap.size, 0, none⟩) 1 1, .int .i64 0] 84 ∧ (w2.setCell ⟨w.heap.size + 1, 0, none⟩ (.slice a2 (k + 1) d2)).ownsRow (w.heap.size + 2) 5 1 (.slice a2 (k + 1) d2) (k + 1) (u8s (ps.take (k + 1))) ∧ (w2.setCell ⟨w.heap.size + 1, 0, none⟩ (.slice a2 (k + 1) d2)).ownsRow 0 3 1 (.slice (some ⟨w.heap.size, 0, none⟩) 1 1) 1 (i64s [L]) ∧ Kept [] w (w2.setCell ⟨w.heap.size + 1, 0, none⟩ (.slice a2 (k + 1) d2)) ∧ w.heap.size + 2 ≤ (w2.setCell ⟨w.heap.size + 1, 0, none⟩ (.slice a2 (k + 1) d2)).heap.size) := by
        have ks : Kept [w.heap.size + 1] w2 (w2.setCell ⟨w.heap.size + 1, 0, none⟩ (.slice a2 (k + 1) d2)) := (Kept.refl _ _).setCell (Or.inl (by simp)) _
        refine hide ⟨by simpa using hb2.set 0 (.slice a2 (k + 1) d2), ?_, ?_, ?_, ?_⟩
        · rw [← unhide HT]
          exact own_kept ho2 ks (fun q hq => by have := (ho2.lt q hq).1; simp; omega)
        · exact own_kept he2 ks (fun q hq => by have e0 : (some w.heap.size : Option Nat) = some q := hq; simp at e0; simp; omega)
        · exact (hkp.trans hk2 (fun q hq => Or.inr (by have := (hro.lt q (Option.mem_toList.1 hq)).1; omega))).setCell (Or.inr (by simp)) _
        · have := hk2.size; have := ks.size; omega
      have hw7 : IntKind.i64.wrap ((k : Int) + 1) = (k : Int) + 1 := by rw [IntKind.wrap_i64]; omega
      have hm : L ≤ 9223372036854775807 := by omega
      have HHL := hide hl
      clear hap ho2 hk2 hat2 hlen hbk hro hre hkp hsz hnb hb2 he2 hi hl HR
      go_upto_region 5 with fail
      go_region_law (first | (refine step_append_runE (by rfl) _ _ 22 22 (by rfl) _ _ (by rfl) (by rfl) (unhide HAP) ?_) | (refine step_append_runE (by rfl) _ _ 22 22 (by rfl) _ _ (by rfl) (by rfl) (unhide HAP2) ?_))
      all_goals
        clear c0 c1 c2 c3 cx HAP HAP2 hcA g0 f0
        go_wp2
        exact ⟨⟨k + 1, a2, d2, by omega, by go_num, HFIN⟩, by simp [intOf]; omega⟩
    · obtain rfl : k = L := by omega
      clear hbk hro hre hkp hsz
      go_wp2
      go_ret
      obtain ⟨hbk, hro, hre, hkp, hsz⟩ := unhide HR
      have hlp := unhide HL
      subst hlp
      rw [List.take_length] at hro
      refine ⟨w.heap.size + 1, _, rfl, ⟨.slice a ps.length cap, .slice (some ⟨w.heap.size, 0, none⟩) 1 1, ps, 0, [ps.length], ⟨hbk, Sees.of_own hro, hre, ?_, ?_, ?_, hl, by simp, by omega, by simp⟩, rfl, unhide HB, fun _ => Geo.new ps, fun h0 => absurd rfl h0⟩, ?_, hkp⟩
      · intro e; have := (hro.lt _ e).1; omega
      · intro e; have e0 : (some w.heap.size : Option Nat) = some (w.heap.size + 1) := e; simp at e0
      · intro q hq e; have e0 : (some w.heap.size : Option Nat) = some q := e; simp at e0; have := (hro.lt _ hq).1; omega
      · intro q hq
        simp only [qfoot, List.mem_cons, List.mem_append, Option.mem_toList] at hq
        rcases hq with rfl | hq | hq
        · omega
        · have := (hro.lt _ hq).1; omega
        · have e0 : (some w.heap.size : Option Nat) = some q := hq; simp at e0; omega
end Go.Proofs.YtfhfkpgfnlmfhaaGreatDoor

/- The document's reader: its blocks stay within what they were. -/
namespace Go.Proofs.YtfhfkpgfnlmfhaaGreatDoor
open Go.RowKit

def QsQ (w : World) (c : Nat) (F : List Nat) (s' : RS) (w' : World) : Prop := Qs w' c F s' ∧ Kept F w w'
theorem QsQ.same {w w' : World} {c : Nat} {F : List Nat} {s : RS} (h : Qs w c F s) (k : Kept [] w w') : QsQ w c F s w' := ⟨h.kept k (by simp), k.mono (by simp)⟩
theorem QsQ.err {w w' : World} {c : Nat} {pv ev : Value} {ps : List Nat} {at2 : Nat} {es : List Nat} {cd : Nat} (hc : cd ≠ 0) (h : Qm w' c pv ev ps at2 es cd) (hb : ∀ x ∈ ps, x < 256) (k : Kept [c] w w') : QsQ w c (qfoot c pv ev) (rF cd) w' :=
  ⟨⟨pv, ev, ps, at2, es, h, rfl, hb, fun h0 => absurd h0 hc, fun _ => ⟨rfl, rfl⟩⟩, k.mono (fun x hx => Or.inl (by simp at hx; subst hx; simp [qfoot]))⟩
theorem QsQ.ok {w w' : World} {c : Nat} {pv ev : Value} {ps : List Nat} {at2 : Nat} {es l : List Nat} {bh : List (List Nat)} (h : Qm w' c pv ev ps at2 es 0) (hb : ∀ x ∈ ps, x < 256) (g : Geo ps at2 es l bh) (k : Kept [c] w w') : QsQ w c (qfoot c pv ev) ⟨0, l, bh⟩ w' :=
  ⟨⟨pv, ev, ps, at2, es, h, rfl, hb, fun _ => g, fun h0 => absurd rfl h0⟩, k.mono (fun x hx => Or.inl (by simp at hx; subst hx; simp [qfoot]))⟩
set_option maxRecDepth 100000 in
set_option maxHeartbeats 1000000 in
theorem qbyte_q {w : World} {c : Nat} {F : List Nat} {s : RS} (h : Qs w c F s) :
    Calls Tryz.prog 21 #[.pointer (some ⟨c, 0, none⟩)] w fun e w' => e = .returned (.int .i64 ((rByte s).2 : Nat)) ∧ QsQ w c F (rByte s).1 w' := by
  by_cases hf : s.fault = 0
  · obtain ⟨pv, ev, ps, at', es, x, h1, rfl, hb, g, hm, hx, hl, hat, hxl, hle⟩ := h.open hf
    have HD := hide (qdead_no h1)
    have HG := hide g
    have HBy := hide hb
    cases hs : s.left with
    | nil =>
      have hr : rByte s = (rF 10, 0) := by unfold rByte; rw [if_neg (by omega), hs]
      have HB := hide (qbytes_short h1 _ x hm hx 1 (by rw [hs] at hl; simp at hl; omega))
      rw [hr]
      clear h h1 g hm hx hl hat hxl hle hb
      clear hr hs hf
      go_enter Tryz.func21, Tryz.ntmps21
      go_wp2_with (first | (go_at_call 50; refine (unhide HD).mono ?_; rintro e w1 ⟨rfl, rfl⟩) | (go_at_call 51; refine (unhide HB).mono ?_; rintro e w1 ⟨rfl, hq, hk⟩; have HQ := hide hq; have HK := hide hk; obtain ⟨d0, d1, d2, d3⟩ := blk4 hq.blk; have f3 := hq.blk.frozen 3; clear hq hk HB))
      go_ret
      exact ⟨rfl, QsQ.err (by omega) (unhide HQ) (unhide HBy) (unhide HK)⟩
    | cons y l =>
      have hr : rByte s = (⟨0, l, s.behind⟩, y) := by unfold rByte; rw [if_neg (by omega), hs]
      have HB := hide (qbytes_ok h1 _ x hm hx 1 (by rw [hs] at hl; simp at hl; omega))
      have ht : (ps.drop at').take 1 = [y] := by rw [g.take 1 (by rw [hs]; simp), hs]; rfl
      have hy : y < 256 := hb y (by
        have : y ∈ s.left := by rw [hs]; simp
        rw [hle] at this
        exact List.mem_of_mem_take (List.mem_of_mem_drop this))
      have HG1 : Hid (Geo ps (at' + 1) es l s.behind) := by have := g.go 1 (by rw [hs]; simp); rw [hs] at this; exact this
      rw [ht] at HB
      rw [hr]
      clear h h1 g hm hx hl hat hxl hle hb
      clear hr hs hf ht HG
      go_enter Tryz.func21, Tryz.ntmps21
      go_wp2_with (first | (go_at_call 50; refine (unhide HD).mono ?_; rintro e w1 ⟨rfl, rfl⟩) | (go_at_call 51; refine (unhide HB).mono ?_; rintro e w1 ⟨a1, cap1, rfl, ho, hq, hk⟩; obtain ⟨g1, hga, hc1, hc2, cx⟩ := own1 ho; subst hga; have HQ := hide hq; have HK := hide hk; obtain ⟨d0, d1, d2, d3⟩ := blk4 hq.blk; clear ho hq hk HB))
      go_ret
      exact ⟨rfl, QsQ.ok (unhide HQ) (unhide HBy) (unhide HG1) (unhide HK)⟩
  · have HD := hide (h.dead hf)
    have HH := hide h
    have hr : rByte s = (s, 0) := by unfold rByte; rw [if_pos hf]
    rw [hr]
    clear hr h hf
    go_enter Tryz.func21, Tryz.ntmps21
    go_wp2_with (first | (go_at_call 50; refine (unhide HD).mono ?_; rintro e w1 ⟨rfl, rfl⟩))
    go_ret
    exact ⟨rfl, QsQ.same (unhide HH) (Kept.refl _ _)⟩


set_option maxRecDepth 100000 in
set_option maxHeartbeats 1000000 in
theorem qnum_q {w : World} {c : Nat} {F : List Nat} {s : RS} (h : Qs w c F s) :
    Calls Tryz.prog 22 #[.pointer (some ⟨c, 0, none⟩)] w fun e w' => e = .returned (.int .u64 ((rNum s).2 : Nat)) ∧ QsQ w c F (rNum s).1 w' := by
  by_cases hf : s.fault = 0
  · obtain ⟨pv, ev, ps, at', es, x, h1, rfl, hb, g, hm, hx, hl, hat, hxl, hle⟩ := h.open hf
    have HD := hide (qdead_no h1)
    have HBy := hide hb
    have HG := hide g
    have HN := hide (qnumber_any h1 _ x hm hx hat hb s.left hle)
    have hlb : ∀ y ∈ s.left, y < 256 := by
      intro y hy
      rw [hle] at hy
      exact hb y (List.mem_of_mem_take (List.mem_of_mem_drop hy))
    cases hrd : readNum 0 0 s.left with
    | inl cd =>
      have hr : rNum s = (rF cd, 0) := by unfold rNum; rw [if_neg (by omega), hrd]
      have HC : Hid (cd ≠ 0) := by rcases readNum_code _ _ _ hrd with rfl | rfl <;> simp [Hid]
      have HRD := hide hrd
      rw [hr]
      clear h h1 g hm hx hl hat hxl hle hb
      clear hr hrd hf hlb
      go_enter Tryz.func22, Tryz.ntmps22
      go_wp2_with (first | (go_at_call 50; refine (unhide HD).mono ?_; rintro e w1 ⟨rfl, rfl⟩) | (go_at_call 52; refine (unhide HN).mono ?_; rintro e w1 ⟨-, hq, hk⟩; obtain ⟨rfl, at2, hq⟩ := hq cd (unhide HRD); have HQ := hide hq; have HK := hide hk; obtain ⟨d0, d1, d2, d3⟩ := blk4 hq.blk; clear hq hk HN))
      go_ret
      exact ⟨rfl, QsQ.err (unhide HC) (unhide HQ) (unhide HBy) (unhide HK)⟩
    | inr p =>
      obtain ⟨n, r⟩ := p
      have hr : rNum s = (⟨0, r, s.behind⟩, n) := by unfold rNum; rw [if_neg (by omega), hrd]
      have HRD := hide hrd
      rw [hr]
      clear h h1 g hm hx hl hat hxl hle hb
      clear hr hrd hf hlb
      go_enter Tryz.func22, Tryz.ntmps22
      go_wp2_with (first | (go_at_call 50; refine (unhide HD).mono ?_; rintro e w1 ⟨rfl, rfl⟩) | (go_at_call 52; refine (unhide HN).mono ?_; rintro e w1 ⟨hq, -, hk⟩; obtain ⟨rfl, k, hkl, hrk, hq⟩ := hq n r (unhide HRD); have HQ := hide hq; have HK := hide hk; have HKL := hide hkl; have HRK := hide hrk; obtain ⟨d0, d1, d2, d3⟩ := blk4 hq.blk; have f3 := hq.blk.frozen 3; clear hq hk HN hkl hrk))
      go_ret
      refine ⟨rfl, QsQ.ok (unhide HQ) (unhide HBy) ?_ (unhide HK)⟩
      rw [unhide HRK]
      exact (unhide HG).go _ (unhide HKL)
  · have HD := hide (h.dead hf)
    have HH := hide h
    have hr : rNum s = (s, 0) := by unfold rNum; rw [if_pos hf]
    rw [hr]
    clear hr h hf
    go_enter Tryz.func22, Tryz.ntmps22
    go_wp2_with (first | (go_at_call 50; refine (unhide HD).mono ?_; rintro e w1 ⟨rfl, rfl⟩))
    go_ret
    exact ⟨rfl, QsQ.same (unhide HH) (Kept.refl _ _)⟩


set_option maxRecDepth 100000 in
set_option maxHeartbeats 1000000 in
theorem qtext_q {w : World} {c : Nat} {F : List Nat} {s : RS} (h : Qs w c F s) (most : Int) (hm9 : most ≤ 9223372036854775807) :
    Calls Tryz.prog 24 #[.pointer (some ⟨c, 0, none⟩), .int .i64 most] w fun e w' => NewB w (rText s most).2 e w' ∧ QsQ w c F (rText s most).1 w' := by
  by_cases hf : s.fault = 0
  · obtain ⟨pv, ev, ps, at', es, x, h1, rfl, hb, g, hm, hx, hl, hat, hxl, hle⟩ := h.open hf
    have HD := hide (qdead_no h1)
    have HBy := hide hb
    have HG := hide g
    have HN := hide (qnumber_any h1 _ x hm hx hat hb s.left hle)
    have hlb : ∀ y ∈ s.left, y < 256 := by
      intro y hy
      rw [hle] at hy
      exact hb y (List.mem_of_mem_take (List.mem_of_mem_drop hy))
    have hmn : most.toNat < 9223372036854775808 := by omega
    obtain ⟨M, hM⟩ : ∃ M : Nat, most.toNat = M := ⟨_, rfl⟩
    have hw0 : (if most < 0 then (0 : Int) else most) = (M : Int) := by rw [← hM]; split <;> omega
    cases hrd : readNum 0 0 s.left with
    | inl cd =>
      have hr : rText s most = (rF cd, []) := by unfold rText; rw [if_neg (by omega), hrd]
      have HC : Hid (cd ≠ 0) := by rcases readNum_code _ _ _ hrd with rfl | rfl <;> simp [Hid]
      have hcd : ((cd : Int) != 0) = true := by have := unhide HC; rw [bne_iff_ne]; omega
      have HRD := hide hrd
      rw [hr]
      clear h h1 g hm hx hl hat hxl hle hb
      clear hr hrd hf hlb hM hw0
      by_cases hs0 : most < 0
      · have t1 : (most < 0) = True := by simpa using hs0
        clear hs0
        go_enter Tryz.func24, Tryz.ntmps24
        go_wp2_with (first | (go_at_call 50; refine (unhide HD).mono ?_; rintro e w1 ⟨rfl, rfl⟩) | (go_at_call 52; refine (unhide HN).mono ?_; rintro e w1 ⟨-, hq, hk⟩; obtain ⟨rfl, at2, hq⟩ := hq _ (unhide HRD); have HQ := hide hq; have HK := hide hk; obtain ⟨d0, d1, d2, d3⟩ := blk4 hq.blk; clear hq hk HN))
        go_ret
        exact ⟨NewB.nil _ _, QsQ.err (unhide HC) (unhide HQ) (unhide HBy) (unhide HK)⟩
      · have t1 : (most < 0) = False := by simpa using hs0
        clear hs0
        go_enter Tryz.func24, Tryz.ntmps24
        go_wp2_with (first | (go_at_call 50; refine (unhide HD).mono ?_; rintro e w1 ⟨rfl, rfl⟩) | (go_at_call 52; refine (unhide HN).mono ?_; rintro e w1 ⟨-, hq, hk⟩; obtain ⟨rfl, at2, hq⟩ := hq _ (unhide HRD); have HQ := hide hq; have HK := hide hk; obtain ⟨d0, d1, d2, d3⟩ := blk4 hq.blk; clear hq hk HN))
        go_ret
        exact ⟨NewB.nil _ _, QsQ.err (unhide HC) (unhide HQ) (unhide HBy) (unhide HK)⟩
    | inr p =>
      obtain ⟨n, r⟩ := p
      have hn := (readNum_lt _ 0 0 (by omega) (by simp) hlb hrd)
      have hn64 : n < 18446744073709551616 := by omega
      have HRD := hide hrd
      by_cases hbig : M < n
      · have hr : rText s most = (rF 11, []) := by unfold rText; rw [if_neg (by omega), hrd]; simp only; rw [hM, if_pos hbig]
        rw [hr]
        clear h h1 g hm hx hl hat hxl hle hb
        clear hr hrd hf hlb hn
        by_cases hs0 : most < 0
        · have t1 : (most < 0) = True := by simpa using hs0
          obtain rfl : M = 0 := by omega
          have t2 : ((0 : Int) < (n : Int)) = True := by simp; omega
          clear hs0 hM hw0
          go_enter Tryz.func24, Tryz.ntmps24
          go_wp2_with (first | (go_at_call 50; refine (unhide HD).mono ?_; rintro e w1 ⟨rfl, rfl⟩) | (go_at_call 52; refine (unhide HN).mono ?_; rintro e w1 ⟨hq, -, hk⟩; obtain ⟨rfl, k, hkl, hrk, hq⟩ := hq _ _ (unhide HRD); have HQ := hide hq; have HK := hide hk; have HKL := hide hkl; have HRK := hide hrk; obtain ⟨d0, d1, d2, d3⟩ := blk4 hq.blk; have f3 := hq.blk.frozen 3; clear hq hk HN hkl hrk))
          go_ret
          obtain ⟨q1, q2⟩ := (unhide HQ).fail 11
          exact ⟨NewB.nil _ _, QsQ.err (by omega) q1 (unhide HBy) ((unhide HK).trans q2 (fun y hy => Or.inl hy))⟩
        · have t1 : (most < 0) = False := by simpa using hs0
          obtain ⟨mm, rfl⟩ := Int.eq_ofNat_of_zero_le (show 0 ≤ most by omega)
          obtain rfl : mm = M := by omega
          have t2 : ((mm : Int) < (n : Int)) = True := by simp; omega
          have t3 : ((mm : Int) < 0) = False := by simp
          have hw5 : IntKind.u64.wrap (mm : Int) = (mm : Int) := by rw [IntKind.wrap_u64]; omega
          clear hs0 hM hw0 t1
          go_enter Tryz.func24, Tryz.ntmps24
          go_wp2_with (first | (go_at_call 50; refine (unhide HD).mono ?_; rintro e w1 ⟨rfl, rfl⟩) | (go_at_call 52; refine (unhide HN).mono ?_; rintro e w1 ⟨hq, -, hk⟩; obtain ⟨rfl, k, hkl, hrk, hq⟩ := hq _ _ (unhide HRD); have HQ := hide hq; have HK := hide hk; have HKL := hide hkl; have HRK := hide hrk; obtain ⟨d0, d1, d2, d3⟩ := blk4 hq.blk; have f3 := hq.blk.frozen 3; clear hq hk HN hkl hrk))
          go_ret
          obtain ⟨q1, q2⟩ := (unhide HQ).fail 11
          exact ⟨NewB.nil _ _, QsQ.err (by omega) q1 (unhide HBy) ((unhide HK).trans q2 (fun y hy => Or.inl hy))⟩
      · have hwn : IntKind.i64.wrap (n : Int) = (n : Int) := by rw [IntKind.wrap_i64]; omega
        have HPS := hide hxl
        have HAT := hide hat
        have HM := hide hm
        have HX := hide hx
        by_cases hsh : r.length < n
        · have hr : rText s most = (rF 10, []) := by unfold rText; rw [if_neg (by omega), hrd]; simp only; rw [hM, if_neg hbig, if_pos hsh]
          rw [hr]
          have HLL := hide hl
          have HSH := hide hsh
          clear h h1 g hm hx hl hat hxl hle hb
          clear hr hrd hf hlb hn
          by_cases hs0 : most < 0
          · exfalso; omega
          · obtain ⟨mm, rfl⟩ := Int.eq_ofNat_of_zero_le (show 0 ≤ most by omega)
            obtain rfl : mm = M := by omega
            have t2 : ((mm : Int) < (n : Int)) = False := by simp; omega
            have t3 : ((mm : Int) < 0) = False := by simp
            have hw5 : IntKind.u64.wrap (mm : Int) = (mm : Int) := by rw [IntKind.wrap_u64]; omega
            clear hs0 hM hw0
            go_enter Tryz.func24, Tryz.ntmps24
            go_wp2_with (first | (go_at_call 50; refine (unhide HD).mono ?_; rintro e w1 ⟨rfl, rfl⟩) | (go_at_call 52; refine (unhide HN).mono ?_; rintro e w1 ⟨hq, -, hk⟩; obtain ⟨rfl, k, hkl, hrk, hq⟩ := hq _ _ (unhide HRD); have HQ := hide hq; have HK := hide hk; have HKL := hide hkl; have HRK := hide hrk; obtain ⟨d0, d1, d2, d3⟩ := blk4 hq.blk; have f3 := hq.blk.frozen 3; clear hq hk HN hkl hrk) | (go_at_call 51; refine (qbytes_short (unhide HQ) _ x (unhide HM) (unhide HX) (n : Int) (by have h1 := unhide HLL; have h2 := unhide HSH; have h3 := unhide HKL; have h4 := congrArg List.length (unhide HRK); simp only [List.length_drop] at h4; omega)).mono ?_; rintro e w3 ⟨rfl, hq, hk⟩; have HQ3 := hide hq; have HK3 := hide hk; clear hq hk))
            go_ret
            exact ⟨NewB.nil _ _, QsQ.err (by omega) (unhide HQ3) (unhide HBy) ((unhide HK).trans (unhide HK3) (fun y hy => Or.inl hy))⟩
        · have hr : rText s most = (⟨0, r.drop n, s.behind⟩, r.take n) := by unfold rText; rw [if_neg (by omega), hrd]; simp only; rw [hM, if_neg hbig, if_neg hsh]
          rw [hr]
          have HLL := hide hl
          have HSH := hide hsh
          have HTL : Hid ((r.take n).length = n) := by unfold Hid; simp; omega
          clear h h1 g hm hx hl hat hxl hle hb
          clear hr hrd hf hlb hn
          by_cases hs0 : most < 0
          · have t1 : (most < 0) = True := by simpa using hs0
            obtain rfl : M = 0 := by omega
            obtain rfl : n = 0 := by omega
            clear hs0 hM hw0
            go_enter Tryz.func24, Tryz.ntmps24
            go_wp2_with (first | (go_at_call 50; refine (unhide HD).mono ?_; rintro e w1 ⟨rfl, rfl⟩) | (go_at_call 52; refine (unhide HN).mono ?_; rintro e w1 ⟨hq, -, hk⟩; obtain ⟨rfl, k, hkl, hrk, hq⟩ := hq _ _ (unhide HRD); have HQ := hide hq; have HK := hide hk; have HKL := hide hkl; have HRK := hide hrk; obtain ⟨d0, d1, d2, d3⟩ := blk4 hq.blk; have f3 := hq.blk.frozen 3; clear hq hk HN hkl hrk) | (go_at_call 51; refine (qbytes_ok (unhide HQ) _ x (unhide HM) (unhide HX) 0 (by have h1 := unhide HLL; have h2 := unhide HKL; have h5 := unhide HAT; omega)).mono ?_; rintro e w3 ⟨a3, cap3, rfl, ho, hq, hk⟩; have HO3 := hide ho; have HQ3 := hide hq; have HK3 := hide hk; clear ho hq hk))
            go_ret
            refine ⟨⟨a3, cap3, rfl, own_base (unhide HO3) (fun q hq => by have := ((unhide HO3).lt q hq).1; have := (unhide HK).size; omega)⟩, QsQ.ok (unhide HQ3) (unhide HBy) ?_ ((unhide HK).trans (unhide HK3) (fun y hy => Or.inl hy))⟩
            rw [List.drop_zero, unhide HRK]
            exact (unhide HG).go _ (unhide HKL)
          · obtain ⟨mm, rfl⟩ := Int.eq_ofNat_of_zero_le (show 0 ≤ most by omega)
            obtain rfl : mm = M := by omega
            have t2 : ((mm : Int) < (n : Int)) = False := by simp; omega
            have t3 : ((mm : Int) < 0) = False := by simp
            have hw5 : IntKind.u64.wrap (mm : Int) = (mm : Int) := by rw [IntKind.wrap_u64]; omega
            clear hs0 hM hw0
            go_enter Tryz.func24, Tryz.ntmps24
            go_wp2_with (first | (go_at_call 50; refine (unhide HD).mono ?_; rintro e w1 ⟨rfl, rfl⟩) | (go_at_call 52; refine (unhide HN).mono ?_; rintro e w1 ⟨hq, -, hk⟩; obtain ⟨rfl, k, hkl, hrk, hq⟩ := hq _ _ (unhide HRD); have HQ := hide hq; have HK := hide hk; have HKL := hide hkl; have HRK := hide hrk; obtain ⟨d0, d1, d2, d3⟩ := blk4 hq.blk; have f3 := hq.blk.frozen 3; clear hq hk HN hkl hrk) | (go_at_call 51; refine (qbytes_ok (unhide HQ) _ x (unhide HM) (unhide HX) n (by have h5 := unhide HAT; have h1 := unhide HLL; have h2 := unhide HSH; have h3 := unhide HKL; have h4 := congrArg List.length (unhide HRK); simp only [List.length_drop] at h4; omega)).mono ?_; rintro e w3 ⟨a3, cap3, rfl, ho, hq, hk⟩; have HO3 := hide ho; have HQ3 := hide hq; have HK3 := hide hk; clear ho hq hk))
            go_ret
            have gk := (unhide HG).go _ (unhide HKL)
            rw [← unhide HRK] at gk
            have hnl : n ≤ r.length := by have := unhide HSH; omega
            refine ⟨⟨a3, cap3, ?_, ?_⟩, QsQ.ok (unhide HQ3) (unhide HBy) (gk.go n hnl) ((unhide HK).trans (unhide HK3) (fun y hy => Or.inl hy))⟩
            · show Ending.returned (.slice a3 n cap3) = .returned (.slice a3 (r.take n).length cap3)
              rw [unhide HTL]
            · show w3.ownsRow w.heap.size 5 1 (.slice a3 (r.take n).length cap3) (r.take n).length (u8s (r.take n))
              rw [unhide HTL]
              have ho := unhide HO3
              rw [gk.take n hnl] at ho
              exact own_base ho (fun q hq => by have := (ho.lt q hq).1; have := (unhide HK).size; omega)
  · have HD := hide (h.dead hf)
    have HH := hide h
    have hr : rText s most = (s, []) := by unfold rText; rw [if_pos hf]
    rw [hr]
    clear hr h hf
    go_enter Tryz.func24, Tryz.ntmps24
    go_wp2_with (first | (go_at_call 50; refine (unhide HD).mono ?_; rintro e w1 ⟨rfl, rfl⟩))
    go_ret
    exact ⟨NewB.nil _ _, QsQ.same (unhide HH) (Kept.refl _ _)⟩


end Go.Proofs.YtfhfkpgfnlmfhaaGreatDoor

/- The document's reader: a fixed number; its blocks stay within what they were (PQd's, turned). -/
namespace Go.Proofs.YtfhfkpgfnlmfhaaGreatDoor
open Go.RowKit

set_option maxRecDepth 100000 in
set_option maxHeartbeats 1000000 in
theorem qfixed_q {w : World} {c : Nat} {F : List Nat} {s : RS} (h : Qs w c F s) (size : Int) :
    Calls Tryz.prog 25 #[.pointer (some ⟨c, 0, none⟩), .int .i64 size] w fun e w' => e = .returned (.int .u64 ((rFixed s size).2 : Nat)) ∧ QsQ w c F (rFixed s size).1 w' := by
  by_cases hf : s.fault = 0
  · obtain ⟨pv, ev, ps, at', es, x, h1, rfl, hb, g, hm, hx, hl, hat, hxl, hle⟩ := h.open hf
    have HD := hide (qdead_no h1)
    have HBy := hide hb
    by_cases ha : size < 1 ∨ 8 < size
    · have hr : rFixed s size = (rF 2, 0) := by unfold rFixed; rw [if_neg (by omega), if_pos ha]
      rw [hr]
      have HQ := hide h1
      have f3 := h1.blk.frozen 3
      have c3 := (blk4 h1.blk).2.2.2
      clear h h1 g hm hx hl hat hxl hle hb
      clear hr hf
      by_cases hs1 : size < 1
      · have b1 : decide (size < 1) = true := by simpa using hs1
        clear ha hs1
        go_enter Tryz.func25, Tryz.ntmps25
        go_wp2_with (first | (go_at_call 50; refine (unhide HD).mono ?_; rintro e w1 ⟨rfl, rfl⟩))
        go_ret
        obtain ⟨q1, q2⟩ := (unhide HQ).fail 2
        exact ⟨rfl, QsQ.err (by omega) q1 (unhide HBy) q2⟩
      · have b1 : decide (size < 1) = false := by simpa using hs1
        have b2 : decide (8 < size) = true := by simp; omega
        clear ha hs1
        go_enter Tryz.func25, Tryz.ntmps25
        go_wp2_with (first | (go_at_call 50; refine (unhide HD).mono ?_; rintro e w1 ⟨rfl, rfl⟩))
        go_ret
        obtain ⟨q1, q2⟩ := (unhide HQ).fail 2
        exact ⟨rfl, QsQ.err (by omega) q1 (unhide HBy) q2⟩
    · have b1 : decide (size < 1) = false := by simp; omega
      have b2 : decide (8 < size) = false := by simp; omega
      by_cases hsh : (s.left.length : Int) < size
      · have hr : rFixed s size = (rF 10, 0) := by unfold rFixed; rw [if_neg (by omega), if_neg ha, if_pos hsh]
        have HB := hide (qbytes_short h1 _ x hm hx size (by omega))
        rw [hr]
        have HV := fun W => hide (qvalue_any (w := W) (v := .slice none 0 0) (l := []) (Or.inl ⟨rfl, rfl⟩) (by simp) (by simp))
        clear h h1 g hm hx hl hat hxl hle hb
        clear hr hf ha hsh
        go_enter Tryz.func25, Tryz.ntmps25
        go_wp2_with (first | (go_at_call 50; refine (unhide HD).mono ?_; rintro e w1 ⟨rfl, rfl⟩) | (go_at_call 51; refine (unhide HB).mono ?_; rintro e w1 ⟨rfl, hq, hk⟩; have HQ := hide hq; have HK := hide hk; obtain ⟨d0, d1, d2, d3⟩ := blk4 hq.blk; have f3 := hq.blk.frozen 3; clear hq hk HB) | (go_at_call 53; refine (unhide (HV _)).mono ?_; rintro e w2 ⟨rfl, rfl⟩))
        go_ret
        exact ⟨rfl, QsQ.err (by omega) (unhide HQ) (unhide HBy) (unhide HK)⟩
      · obtain ⟨n, rfl⟩ := Int.eq_ofNat_of_zero_le (show 0 ≤ size by omega)
        have hr : rFixed s (n : Int) = (⟨0, s.left.drop n, s.behind⟩, leV (s.left.take n)) := by unfold rFixed; rw [if_neg (by omega), if_neg ha, if_neg hsh]; rfl
        have HB := hide (qbytes_ok h1 _ x hm hx n (by omega))
        have HT := hide (g.take n (by omega))
        have HG1 := hide (g.go n (by omega))
        have HTL : Hid ((s.left.take n).length = n) := by unfold Hid; simp; omega
        have HTB : Hid (∀ x ∈ s.left.take n, x < 256) := by
          intro y hy
          have := List.mem_of_mem_take hy
          rw [hle] at this
          exact hb y (List.mem_of_mem_take (List.mem_of_mem_drop this))
        have hn8 : n ≤ 8 := by omega
        rw [hr]
        clear h h1 g hm hx hl hat hxl hle hb
        clear hr hf ha hsh
        go_enter Tryz.func25, Tryz.ntmps25
        go_wp2_with (first | (go_at_call 50; refine (unhide HD).mono ?_; rintro e w1 ⟨rfl, rfl⟩) | (go_at_call 51; refine (unhide HB).mono ?_; rintro e w1 ⟨a1, cap1, rfl, ho, hq, hk⟩; rw [unhide HT] at ho; have HS1 := hide (sees_own (unhide HTL) ho); have HQ := hide hq; have HK := hide hk; clear ho hq hk HB) | (go_at_call 53; refine (qvalue_any (unhide HS1) (unhide HTB) (by rw [unhide HTL]; exact hn8)).mono ?_; rintro e w2 ⟨rfl, rfl⟩))
        go_ret
        exact ⟨rfl, QsQ.ok (unhide HQ) (unhide HBy) (unhide HG1) (unhide HK)⟩
  · have HD := hide (h.dead hf)
    have HH := hide h
    have hr : rFixed s size = (s, 0) := by unfold rFixed; rw [if_pos hf]
    rw [hr]
    clear hr h hf
    go_enter Tryz.func25, Tryz.ntmps25
    go_wp2_with (first | (go_at_call 50; refine (unhide HD).mono ?_; rintro e w1 ⟨rfl, rfl⟩))
    go_ret
    exact ⟨rfl, QsQ.same (unhide HH) (Kept.refl _ _)⟩
end Go.Proofs.YtfhfkpgfnlmfhaaGreatDoor
