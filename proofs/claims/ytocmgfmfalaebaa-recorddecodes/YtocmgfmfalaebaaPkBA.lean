/- Texts laid one behind the other: PQc PQn PQd PQe PQf PQg PQh PQi PVa PVb PVc PVd. -/
import Derived.Test.YtocmgfmfalaebaaPkY
import Derived.Test.YtocmgfmfalaebaaPkZ
import Derived.Test.YtocmgfmfalaebaaPkO
import Derived.Test.YtocmgfmfalaebaaPkT
/- The document's reader: numbers. -/
namespace Go.Proofs.Ytocmgfmfalaebaa
open Go.RowKit

theorem leV_drop (l : List Nat) (j : Nat) (hj : j < l.length) : leV (l.drop j) = l.getD j 0 + 256 * leV (l.drop (j + 1)) := by
  rw [List.drop_eq_getElem_cons hj, leV]
  simp [hj]
theorem pow_le7 {n : Nat} (h : n ≤ 7) : 256 ^ n ≤ 72057594037927936 := by
  have : 256 ^ n ≤ 256 ^ 7 := Nat.pow_le_pow_right (by omega) h
  exact this

end Go.Proofs.Ytocmgfmfalaebaa

/- The document's reader: the number whose form comes next. -/
namespace Go.Proofs.Ytocmgfmfalaebaa
open Go.RowKit

theorem own1 {w : World} {base : Nat} {a : Option Addr} {cap y : Nat} (h : w.ownsRow base 5 1 (.slice a 1 cap) 1 (u8s [y])) : ∃ g, a = some ⟨g, 0, none⟩ ∧ 1 ≤ cap ∧ cap ≤ 9223372036854775807 ∧ w.cell? ⟨g, 0, none⟩ = some (.int .u8 (y : Int)) := by
  have hs : Sees w (.slice a 1 cap) [y] := Sees.of_own h
  obtain ⟨g, off, cap', hv, h1, h2, hc⟩ := hs.spot (j := 0) (by simp)
  rcases h.2 with ⟨e1, e2⟩ | ⟨g', cap'', cur, e1, _⟩
  · simp at e2
  · cases e1
    cases hv
    unfold maxLen at h2
    exact ⟨_, rfl, by simpa using h1, h2, by simpa using hc⟩

/-- What a number's reading makes of the document's reader. -/
def NumQ (w : World) (c : Nat) (pv ev : Value) (ps : List Nat) (at' : Nat) (es l : List Nat) (e : Ending) (w' : World) : Prop :=
  (∀ n r, readNum 0 0 l = .inr (n, r) → e = .returned (.int .u64 (n : Nat)) ∧ ∃ k, k ≤ l.length ∧ r = l.drop k ∧ Qm w' c pv ev ps (at' + k) es 0) ∧
  (∀ cd, readNum 0 0 l = .inl cd → e = .returned (.int .u64 0) ∧ ∃ at2, Qm w' c pv ev ps at2 es cd) ∧ Kept [c] w w'

set_option maxRecDepth 100000 in
set_option maxHeartbeats 2000000 in
theorem qnumber_any {w : World} {c : Nat} {pv ev : Value} {ps : List Nat} {at' : Nat} {es : List Nat} (h : Qm w c pv ev ps at' es 0) (m x : Nat) (hm : es.length = m + 1) (hx : es[m]? = some x) (hat : at' ≤ x) (hb : ∀ y ∈ ps, y < 256) (l : List Nat) (hl : l = (ps.take x).drop at') :
    Calls Try.prog 52 #[.pointer (some ⟨c, 0, none⟩)] w (NumQ w c pv ev ps at' es l) := by
  have HH := hide h
  have HM := hide hm
  have HX := hide hx
  have hxl := h.bes x (List.mem_of_getElem? hx)
  have hll : l.length = x - at' := by rw [hl]; simp; omega
  have HB := hide hb
  have HLL := hide hll
  have HL := hide hl
  clear h hm hx hb hl hll
  go_enter Try.func52, Try.ntmps52
  go_wp2
  go_loopw [3, 4, 5] (fun n sc i wr => ∃ (k acc : Nat), k ≤ 9 ∧ Hid (k ≤ l.length) ∧ i = .int .i64 k ∧ n = .int .u64 acc ∧ sc = .int .u64 ((128 ^ k : Nat) : Int) ∧ Hid (acc < 128 ^ k) ∧ Hid (readNum k acc (l.drop k) = readNum 0 0 l) ∧ Hid (Qm wr c pv ev ps (at' + k) es 0 ∧ Kept [c] w wr)) (fun _ _ i _ => 10 - (intOf i).toNat)
  case atStart => exact ⟨0, 0, by omega, hide (Nat.zero_le _), rfl, rfl, by simp, hide (by simp), hide rfl, hide ⟨unhide HH, Kept.refl _ _⟩⟩
  case round =>
    obtain ⟨k, acc, hk, HKL, rfl, rfl, rfl, HA, HE, HR⟩ := hrel
    by_cases hkl : k = l.length
    · have HBS := hide (qbytes_short (unhide HR).1 m x (unhide HM) (unhide HX) 1 (by have := unhide HLL; omega))
      have HN : Hid (readNum 0 0 l = .inl 10) := by unfold Hid; rw [← unhide HE, hkl, List.drop_eq_nil_of_le (Nat.le_refl _), readNum]
      have hk10 : (k : Int) < 10 := by omega
      clear hkl
      go_wp2_with (first | (go_at_call 51; refine (unhide HBS).mono ?_; rintro e w1 ⟨rfl, hq, hk1⟩; have HQ1 := hide hq; have HK1 := hide hk1; obtain ⟨d0, d1, d2, d3⟩ := blk4 hq.blk; clear hq hk1 HBS))
      go_ret
      refine ⟨fun n r hr => ?_, fun cd hr => ?_, ?_⟩
      · rw [unhide HN] at hr; cases hr
      · rw [unhide HN] at hr; cases hr
        exact ⟨rfl, _, unhide HQ1⟩
      · exact (unhide HR).2.trans (unhide HK1) (fun y hy => Or.inl hy)
    · have hk2 : k < l.length := by have := unhide HKL; omega
      have hox : at' + k + 1 ≤ x := by have := unhide HLL; omega
      have HBS := hide (qbytes_ok (unhide HR).1 m x (unhide HM) (unhide HX) 1 hox)
      have hee : l.getD k 0 = ps.getD (at' + k) 0 := by
        rw [unhide HL]
        simp [show at' + k < x by omega]
      have hy1 : (ps.drop (at' + k)).take 1 = [l.getD k 0] := by
        rw [hee]
        exact (take_next ps (at' + k) 0 (by omega)).symm
      have hd1 : l.drop k = l.getD k 0 :: l.drop (k + 1) := by rw [List.drop_eq_getElem_cons hk2]; simp [hk2]
      have hy : l.getD k 0 < 256 := by
        have h1 : l.getD k 0 ∈ l := by rw [List.getD, List.getElem?_eq_getElem hk2]; exact List.getElem_mem _
        have h2 : ∀ z ∈ l, z ∈ ps := by
          intro z hz
          rw [unhide HL] at hz
          exact List.mem_of_mem_take (List.mem_of_mem_drop hz)
        exact unhide HB _ (h2 _ h1)
      rw [hy1] at HBS
      rw [hd1] at HE
      have HK2 := hide (show k + 1 ≤ l.length from hk2)
      generalize l.getD k 0 = y at *
      have hS : 128 ^ k ≤ 9223372036854775808 := by
        have : 128 ^ k ≤ 128 ^ 9 := Nat.pow_le_pow_right (by omega) hk
        exact this
      have HS2 : Hid (k ≤ 8 → 128 ^ (k + 1) = 128 * 128 ^ k ∧ 128 ^ k ≤ 72057594037927936) := by
        intro h8
        have : 128 ^ k ≤ 128 ^ 8 := Nat.pow_le_pow_right (by omega) h8
        exact ⟨by rw [Nat.pow_succ]; omega, this⟩
      obtain ⟨S, hSS⟩ : ∃ S, 128 ^ k = S := ⟨_, rfl⟩
      have HSS := hide hSS
      rw [hSS] at HA HS2 hS ⊢
      have hk10 : (k : Int) < 10 := by omega
      clear hkl hk2 hy1 hd1 hox hSS hee
      by_cases hA : k = 9 ∧ 1 < y
      · have b1 : ((k : Int) == 9) = true := by rw [beq_iff_eq]; omega
        have b2 : decide (1 < (y : Int)) = true := by simp; omega
        have HN : Hid (readNum 0 0 l = .inl 11) := by unfold Hid; rw [← unhide HE, readNum, if_pos hA]
        clear hA
        go_wp2_with (first | (go_at_call 51; refine (unhide HBS).mono ?_; rintro e w1 ⟨a, cap, rfl, ho, hq, hk1⟩; obtain ⟨g, hga, hc1, hc2, cx⟩ := own1 ho; subst hga; have HQ1 := hide hq; have HK1 := hide hk1; obtain ⟨d0, d1, d2, d3⟩ := blk4 hq.blk; have f3 := hq.blk.frozen 3; clear ho hq hk1 HBS))
        go_ret
        obtain ⟨g1, g2⟩ := (unhide HQ1).fail 11
        refine ⟨fun n r hr => ?_, fun cd hr => ?_, ?_⟩
        · rw [unhide HN] at hr; cases hr
        · rw [unhide HN] at hr; cases hr
          exact ⟨rfl, _, g1⟩
        · exact ((unhide HR).2.trans (unhide HK1) (fun y hy => Or.inl hy)).trans g2 (fun y hy => Or.inl hy)
      · by_cases h0 : y = 0 ∧ 0 < k
        · have b3 : ((y : Int) == 0) = true := by rw [beq_iff_eq]; omega
          have b4 : decide (0 < k) = true := by simp; omega
          have HN : Hid (readNum 0 0 l = .inl 11) := by unfold Hid; rw [← unhide HE, readNum, if_neg hA, if_pos (by omega), if_pos h0]
          have hB : ((k : Int) == 9) = false ∨ (((k : Int) == 9) = true ∧ decide (1 < (y : Int)) = false) := by
            by_cases h9 : k = 9
            · right; exact ⟨by rw [beq_iff_eq]; omega, by simp; omega⟩
            · left; rw [beq_eq_false_iff_ne]; omega
          clear hA h0
          rcases hB with b1 | ⟨b1, b2⟩
          all_goals
            go_wp2_with (first | (go_at_call 51; refine (unhide HBS).mono ?_; rintro e w1 ⟨a, cap, rfl, ho, hq, hk1⟩; obtain ⟨g, hga, hc1, hc2, cx⟩ := own1 ho; subst hga; have HQ1 := hide hq; have HK1 := hide hk1; obtain ⟨d0, d1, d2, d3⟩ := blk4 hq.blk; have f3 := hq.blk.frozen 3; clear ho hq hk1 HBS))
            go_ret
            obtain ⟨g1, g2⟩ := (unhide HQ1).fail 11
            refine ⟨fun n r hr => ?_, fun cd hr => ?_, ?_⟩
            · rw [unhide HN] at hr; cases hr
            · rw [unhide HN] at hr; cases hr
              exact ⟨rfl, _, g1⟩
            · exact ((unhide HR).2.trans (unhide HK1) (fun y hy => Or.inl hy)).trans g2 (fun y hy => Or.inl hy)
        · have hB : ((k : Int) == 9) = false ∨ (((k : Int) == 9) = true ∧ decide (1 < (y : Int)) = false) := by
            by_cases h9 : k = 9
            · right; exact ⟨by rw [beq_iff_eq]; omega, by simp; omega⟩
            · left; rw [beq_eq_false_iff_ne]; omega
          have hC : ((y : Int) == 0) = false ∨ (((y : Int) == 0) = true ∧ decide (0 < k) = false) := by
            by_cases h9 : y = 0
            · right; exact ⟨by rw [beq_iff_eq]; omega, by simp; omega⟩
            · left; rw [beq_eq_false_iff_ne]; omega
          have hm1 : S * (y % 128) ≤ 9223372036854775808 * 127 ∧ (k = 9 → S * (y % 128) ≤ 9223372036854775808) ∧ (k ≤ 8 → S * (y % 128) ≤ 72057594037927936 * 127) := by
            refine ⟨Nat.mul_le_mul hS (by omega), fun h9 => ?_, fun h8 => ?_⟩
            · have := Nat.mul_le_mul hS (show y % 128 ≤ 1 by omega); omega
            · exact Nat.mul_le_mul (unhide HS2 h8).2 (by omega)
          have ha1 := unhide HA
          have hm2 : S * (y % 128) + acc < 18446744073709551616 := by
            by_cases h9 : k = 9
            · have := hm1.2.1 h9; omega
            · have := hm1.2.2 (by omega); omega
          have hw1 : IntKind.u64.wrap ((S : Int) * ((y : Int) % 128)) = ((S * (y % 128) : Nat) : Int) := by
            rw [show (S : Int) * ((y : Int) % 128) = ((S * (y % 128) : Nat) : Int) by push_cast; rfl]
            generalize S * (y % 128) = q at *
            rw [IntKind.wrap_u64]; omega
          have hw2 : IntKind.u64.wrap ((acc : Int) + ((S * (y % 128) : Nat) : Int)) = ((acc + S * (y % 128) : Nat) : Int) := by
            generalize S * (y % 128) = q at *
            rw [IntKind.wrap_u64]; omega
          have HM1 := hide hm1
          have HM2 := hide hm2
          have HNA := hide hA
          have HN0 := hide h0
          obtain ⟨q, hq0⟩ : ∃ q, S * (y % 128) = q := ⟨_, rfl⟩
          have HQ0 := hide hq0
          rw [hq0] at hw1 hw2
          clear hm1 hm2 ha1 hA h0 hq0
          by_cases hy8 : y < 128
          · have HN : Hid (readNum 0 0 l = .inr (acc + q, l.drop (k + 1))) := by
              unfold Hid; rw [← unhide HE, readNum, if_neg (unhide HNA), if_pos hy8, if_neg (unhide HN0), unhide HSS, ← unhide HQ0, Nat.mod_eq_of_lt hy8, Nat.mul_comm]
            have t8 : ((y : Int) < 128) = True := by simp; omega
            rcases hB with b1 | ⟨b1, b2⟩ <;> rcases hC with b3 | ⟨b3, b4⟩
            all_goals
              go_wp2_with (first | (go_at_call 51; refine (unhide HBS).mono ?_; rintro e w1 ⟨a, cap, rfl, ho, hq, hk1⟩; obtain ⟨g, hga, hc1, hc2, cx⟩ := own1 ho; subst hga; have HQ1 := hide hq; have HK1 := hide hk1; obtain ⟨d0, d1, d2, d3⟩ := blk4 hq.blk; clear ho hq hk1 HBS))
              go_ret
              refine ⟨fun n r hr => ?_, fun cd hr => ?_, ?_⟩
              · rw [unhide HN] at hr; cases hr
                exact ⟨rfl, k + 1, unhide HK2, rfl, unhide HQ1⟩
              · rw [unhide HN] at hr; cases hr
              · exact (unhide HR).2.trans (unhide HK1) (fun y hy => Or.inl hy)
          · have hk8 : k ≤ 8 := by have := unhide HNA; omega
            have b1 : ((k : Int) == 9) = false := by rw [beq_eq_false_iff_ne]; omega
            have b3 : ((y : Int) == 0) = false := by rw [beq_eq_false_iff_ne]; omega
            have t8 : ((y : Int) < 128) = False := by simp; omega
            have hs8 := unhide HS2 hk8
            have hw3 : IntKind.u64.wrap (128 * (S : Int)) = ((128 * S : Nat) : Int) := by have := hs8.2; rw [IntKind.wrap_u64]; omega
            have HS8 := hide hs8
            clear hB hC hs8
            go_wp2_with (first | (go_at_call 51; refine (unhide HBS).mono ?_; rintro e w1 ⟨a, cap, rfl, ho, hq, hk1⟩; obtain ⟨g, hga, hc1, hc2, cx⟩ := own1 ho; subst hga; have HQ1 := hide hq; have HK1 := hide hk1; obtain ⟨d0, d1, d2, d3⟩ := blk4 hq.blk; clear ho hq hk1 HBS))
            refine ⟨⟨k + 1, acc + q, by omega, HK2, by go_num, rfl, (by rw [(unhide HS8).1]; simp), hide ?_, hide ?_, hide ⟨unhide HQ1, (unhide HR).2.trans (unhide HK1) (fun y hy => Or.inl hy)⟩⟩, by simp [intOf]; omega⟩
            · rw [(unhide HS8).1]
              have h1 := unhide HQ0
              have h2 := unhide HA
              have h3 : S * (y % 128) ≤ S * 127 := Nat.mul_le_mul (Nat.le_refl _) (by omega)
              omega
            · rw [← unhide HE, readNum, if_neg (unhide HNA), if_neg hy8, unhide HSS, ← unhide HQ0, Nat.mul_comm]
end Go.Proofs.Ytocmgfmfalaebaa

/- The document's reader, whatever its state: every call, in a reader's plain words. -/
namespace Go.Proofs.Ytocmgfmfalaebaa
open Go.RowKit

theorem sees_own {w : World} {base : Nat} {a : Option Addr} {n cap : Nat} {l : List Nat} (hl : l.length = n) (h : w.ownsRow base 5 1 (.slice a n cap) n (u8s l)) : Sees w (.slice a n cap) l := by
  subst hl; exact Sees.of_own h
/-- In w the document's reader at block c is in the state s; F: its blocks. -/
def Qs (w : World) (c : Nat) (F : List Nat) (s : RS) : Prop :=
  ∃ pv ev ps at' es, Qm w c pv ev ps at' es s.fault ∧ F = qfoot c pv ev ∧ (∀ x ∈ ps, x < 256) ∧ (s.fault = 0 → Geo ps at' es s.left s.behind) ∧ (s.fault ≠ 0 → s.left = [] ∧ s.behind = [])
/-- Behind a call on it. -/
def QsP (w : World) (c : Nat) (F : List Nat) (s' : RS) (w' : World) : Prop := ∃ F', Qs w' c F' s' ∧ Kept F w w' ∧ ∀ x ∈ F', x ∈ F ∨ w.heap.size ≤ x

theorem Qs.lt {w : World} {c : Nat} {F : List Nat} {s : RS} (h : Qs w c F s) : ∀ x ∈ F, x < w.heap.size := by
  obtain ⟨pv, ev, ps, at', es, h1, rfl, _⟩ := h; exact h1.lt
theorem Qs.mem {w : World} {c : Nat} {F : List Nat} {s : RS} (h : Qs w c F s) : c ∈ F := by
  obtain ⟨pv, ev, ps, at', es, h1, rfl, _⟩ := h; simp [qfoot]
theorem Qs.kept {G : List Nat} {w w' : World} {c : Nat} {F : List Nat} {s : RS} (h : Qs w c F s) (k : Kept G w w') (hF : ∀ x ∈ F, x ∉ G) : Qs w' c F s := by
  obtain ⟨pv, ev, ps, at', es, h1, rfl, h2⟩ := h
  exact ⟨pv, ev, ps, at', es, h1.kept k hF, rfl, h2⟩
theorem QsP.same {w w' : World} {c : Nat} {F : List Nat} {s : RS} (h : Qs w c F s) (k : Kept [] w w') : QsP w c F s w' := ⟨F, h.kept k (by simp), k.mono (by simp), fun _ hx => Or.inl hx⟩
theorem QsP.err {w w' : World} {c : Nat} {pv ev : Value} {ps : List Nat} {at2 : Nat} {es : List Nat} {cd : Nat} (hc : cd ≠ 0) (h : Qm w' c pv ev ps at2 es cd) (hb : ∀ x ∈ ps, x < 256) (k : Kept [c] w w') : QsP w c (qfoot c pv ev) (rF cd) w' :=
  ⟨qfoot c pv ev, ⟨pv, ev, ps, at2, es, h, rfl, hb, fun h0 => absurd h0 hc, fun _ => ⟨rfl, rfl⟩⟩, k.mono (fun x hx => Or.inl (by simp at hx; subst hx; simp [qfoot])), fun _ hx => Or.inl hx⟩
theorem QsP.ok {w w' : World} {c : Nat} {pv ev : Value} {ps : List Nat} {at2 : Nat} {es l : List Nat} {bh : List (List Nat)} (h : Qm w' c pv ev ps at2 es 0) (hb : ∀ x ∈ ps, x < 256) (g : Geo ps at2 es l bh) (k : Kept [c] w w') : QsP w c (qfoot c pv ev) ⟨0, l, bh⟩ w' :=
  ⟨qfoot c pv ev, ⟨pv, ev, ps, at2, es, h, rfl, hb, fun _ => g, fun h0 => absurd rfl h0⟩, k.mono (fun x hx => Or.inl (by simp at hx; subst hx; simp [qfoot])), fun _ hx => Or.inl hx⟩
theorem QsP.from {w W w' : World} {c : Nat} {F : List Nat} {s' : RS} (k : Kept [] w W) (h : QsP W c F s' w') : QsP w c F s' w' := by
  obtain ⟨F', h1, h2, h3⟩ := h
  refine ⟨F', h1, (k.mono (by simp)).trans h2 (fun x hx => Or.inl hx), fun x hx => ?_⟩
  rcases h3 x hx with h | h
  · exact Or.inl h
  · right; have := k.size; omega
theorem QsP.behind {w W w' : World} {c : Nat} {F : List Nat} {s' : RS} (h : QsP w c F s' W) (k : Kept [] W w') : QsP w c F s' w' := by
  obtain ⟨F', h1, h2, h3⟩ := h
  exact ⟨F', h1.kept k (by simp), h2.trans k (by simp), h3⟩

/-- A reader with no fault, opened. -/
theorem Qs.open {w : World} {c : Nat} {F : List Nat} {s : RS} (h : Qs w c F s) (hf : s.fault = 0) :
    ∃ pv ev ps at' es x, Qm w c pv ev ps at' es 0 ∧ F = qfoot c pv ev ∧ (∀ x ∈ ps, x < 256) ∧ Geo ps at' es s.left s.behind ∧ es.length = s.behind.length + 1 ∧ es[s.behind.length]? = some x ∧ s.left.length = x - at' ∧ at' ≤ x ∧ x ≤ ps.length ∧ s.left = (ps.take x).drop at' := by
  obtain ⟨pv, ev, ps, at', es, h1, h2, h3, h4, _⟩ := h
  have g := h4 hf
  obtain ⟨x, g1, g2, g3, g4⟩ := g.at
  rw [hf] at h1
  exact ⟨pv, ev, ps, at', es, x, h1, h2, h3, g, g.len, g1, g2, g3, g4, (g.le g1).2.2.2⟩
theorem Qs.dead {w : World} {c : Nat} {F : List Nat} {s : RS} (h : Qs w c F s) (hf : s.fault ≠ 0) :
    Calls Try.prog 50 #[.pointer (some ⟨c, 0, none⟩)] w fun e w' => e = .returned (.bool true) ∧ w = w' := by
  obtain ⟨pv, ev, ps, at', es, h1, _⟩ := h
  exact qdead_yes h1 hf
set_option maxRecDepth 100000 in
set_option maxHeartbeats 1000000 in
theorem qbyte_s {w : World} {c : Nat} {F : List Nat} {s : RS} (h : Qs w c F s) :
    Calls Try.prog 33 #[.pointer (some ⟨c, 0, none⟩)] w fun e w' => e = .returned (.int .i64 ((rByte s).2 : Nat)) ∧ QsP w c F (rByte s).1 w' := by
  by_cases hf : s.fault = 0
  · obtain ⟨pv, ev, ps, at', es, x, h1, rfl, hb, g, hm, hx, hl, hat, hxl, hle⟩ := h.open hf
    have HD := hide (qdead_no h1)
    have HG := hide g
    have HBy := hide hb
    cases hs : s.left with
    | nil =>
      have hr : rByte s = (rF 10, 0) := by unfold rByte; rw [if_neg (by omega), hs]
      have HB := hide (qbytes_short h1 _ x hm hx 1 (by rw [hs] at hl; simp at hl; omega))
      rw [hr]
      clear h h1 g hm hx hl hat hxl hle hb
      clear hr hs hf
      go_enter Try.func33, Try.ntmps33
      go_wp2_with (first | (go_at_call 50; refine (unhide HD).mono ?_; rintro e w1 ⟨rfl, rfl⟩) | (go_at_call 51; refine (unhide HB).mono ?_; rintro e w1 ⟨rfl, hq, hk⟩; have HQ := hide hq; have HK := hide hk; obtain ⟨d0, d1, d2, d3⟩ := blk4 hq.blk; have f3 := hq.blk.frozen 3; clear hq hk HB))
      go_ret
      exact ⟨rfl, QsP.err (by omega) (unhide HQ) (unhide HBy) (unhide HK)⟩
    | cons y l =>
      have hr : rByte s = (⟨0, l, s.behind⟩, y) := by unfold rByte; rw [if_neg (by omega), hs]
      have HB := hide (qbytes_ok h1 _ x hm hx 1 (by rw [hs] at hl; simp at hl; omega))
      have ht : (ps.drop at').take 1 = [y] := by rw [g.take 1 (by rw [hs]; simp), hs]; rfl
      have hy : y < 256 := hb y (by
        have : y ∈ s.left := by rw [hs]; simp
        rw [hle] at this
        exact List.mem_of_mem_take (List.mem_of_mem_drop this))
      have HG1 : Hid (Geo ps (at' + 1) es l s.behind) := by have := g.go 1 (by rw [hs]; simp); rw [hs] at this; exact this
      rw [ht] at HB
      rw [hr]
      clear h h1 g hm hx hl hat hxl hle hb
      clear hr hs hf ht HG
      go_enter Try.func33, Try.ntmps33
      go_wp2_with (first | (go_at_call 50; refine (unhide HD).mono ?_; rintro e w1 ⟨rfl, rfl⟩) | (go_at_call 51; refine (unhide HB).mono ?_; rintro e w1 ⟨a1, cap1, rfl, ho, hq, hk⟩; obtain ⟨g1, hga, hc1, hc2, cx⟩ := own1 ho; subst hga; have HQ := hide hq; have HK := hide hk; obtain ⟨d0, d1, d2, d3⟩ := blk4 hq.blk; clear ho hq hk HB))
      go_ret
      exact ⟨rfl, QsP.ok (unhide HQ) (unhide HBy) (unhide HG1) (unhide HK)⟩
  · have HD := hide (h.dead hf)
    have HH := hide h
    have hr : rByte s = (s, 0) := by unfold rByte; rw [if_pos hf]
    rw [hr]
    clear hr h hf
    go_enter Try.func33, Try.ntmps33
    go_wp2_with (first | (go_at_call 50; refine (unhide HD).mono ?_; rintro e w1 ⟨rfl, rfl⟩))
    go_ret
    exact ⟨rfl, QsP.same (unhide HH) (Kept.refl _ _)⟩

set_option maxRecDepth 100000 in
set_option maxHeartbeats 1000000 in
theorem qnum_s {w : World} {c : Nat} {F : List Nat} {s : RS} (h : Qs w c F s) :
    Calls Try.prog 34 #[.pointer (some ⟨c, 0, none⟩)] w fun e w' => e = .returned (.int .u64 ((rNum s).2 : Nat)) ∧ QsP w c F (rNum s).1 w' := by
  by_cases hf : s.fault = 0
  · obtain ⟨pv, ev, ps, at', es, x, h1, rfl, hb, g, hm, hx, hl, hat, hxl, hle⟩ := h.open hf
    have HD := hide (qdead_no h1)
    have HBy := hide hb
    have HG := hide g
    have HN := hide (qnumber_any h1 _ x hm hx hat hb s.left hle)
    have hlb : ∀ y ∈ s.left, y < 256 := by
      intro y hy
      rw [hle] at hy
      exact hb y (List.mem_of_mem_take (List.mem_of_mem_drop hy))
    cases hrd : readNum 0 0 s.left with
    | inl cd =>
      have hr : rNum s = (rF cd, 0) := by unfold rNum; rw [if_neg (by omega), hrd]
      have HC : Hid (cd ≠ 0) := by rcases readNum_code _ _ _ hrd with rfl | rfl <;> simp [Hid]
      have HRD := hide hrd
      rw [hr]
      clear h h1 g hm hx hl hat hxl hle hb
      clear hr hrd hf hlb
      go_enter Try.func34, Try.ntmps34
      go_wp2_with (first | (go_at_call 50; refine (unhide HD).mono ?_; rintro e w1 ⟨rfl, rfl⟩) | (go_at_call 52; refine (unhide HN).mono ?_; rintro e w1 ⟨-, hq, hk⟩; obtain ⟨rfl, at2, hq⟩ := hq cd (unhide HRD); have HQ := hide hq; have HK := hide hk; obtain ⟨d0, d1, d2, d3⟩ := blk4 hq.blk; clear hq hk HN))
      go_ret
      exact ⟨rfl, QsP.err (unhide HC) (unhide HQ) (unhide HBy) (unhide HK)⟩
    | inr p =>
      obtain ⟨n, r⟩ := p
      have hr : rNum s = (⟨0, r, s.behind⟩, n) := by unfold rNum; rw [if_neg (by omega), hrd]
      have HRD := hide hrd
      rw [hr]
      clear h h1 g hm hx hl hat hxl hle hb
      clear hr hrd hf hlb
      go_enter Try.func34, Try.ntmps34
      go_wp2_with (first | (go_at_call 50; refine (unhide HD).mono ?_; rintro e w1 ⟨rfl, rfl⟩) | (go_at_call 52; refine (unhide HN).mono ?_; rintro e w1 ⟨hq, -, hk⟩; obtain ⟨rfl, k, hkl, hrk, hq⟩ := hq n r (unhide HRD); have HQ := hide hq; have HK := hide hk; have HKL := hide hkl; have HRK := hide hrk; obtain ⟨d0, d1, d2, d3⟩ := blk4 hq.blk; have f3 := hq.blk.frozen 3; clear hq hk HN hkl hrk))
      go_ret
      refine ⟨rfl, QsP.ok (unhide HQ) (unhide HBy) ?_ (unhide HK)⟩
      rw [unhide HRK]
      exact (unhide HG).go _ (unhide HKL)
  · have HD := hide (h.dead hf)
    have HH := hide h
    have hr : rNum s = (s, 0) := by unfold rNum; rw [if_pos hf]
    rw [hr]
    clear hr h hf
    go_enter Try.func34, Try.ntmps34
    go_wp2_with (first | (go_at_call 50; refine (unhide HD).mono ?_; rintro e w1 ⟨rfl, rfl⟩))
    go_ret
    exact ⟨rfl, QsP.same (unhide HH) (Kept.refl _ _)⟩

end Go.Proofs.Ytocmgfmfalaebaa

/- The document's reader, whatever its state: Raw, Text, Rest, Done. -/
namespace Go.Proofs.Ytocmgfmfalaebaa
open Go.RowKit

set_option maxRecDepth 100000 in
set_option maxHeartbeats 1000000 in
theorem qtext_s {w : World} {c : Nat} {F : List Nat} {s : RS} (h : Qs w c F s) (most : Int) (hm9 : most ≤ 9223372036854775807) :
    Calls Try.prog 35 #[.pointer (some ⟨c, 0, none⟩), .int .i64 most] w fun e w' => NewB w (rText s most).2 e w' ∧ QsP w c F (rText s most).1 w' := by
  by_cases hf : s.fault = 0
  · obtain ⟨pv, ev, ps, at', es, x, h1, rfl, hb, g, hm, hx, hl, hat, hxl, hle⟩ := h.open hf
    have HD := hide (qdead_no h1)
    have HBy := hide hb
    have HG := hide g
    have HN := hide (qnumber_any h1 _ x hm hx hat hb s.left hle)
    have hlb : ∀ y ∈ s.left, y < 256 := by
      intro y hy
      rw [hle] at hy
      exact hb y (List.mem_of_mem_take (List.mem_of_mem_drop hy))
    have hmn : most.toNat < 9223372036854775808 := by omega
    obtain ⟨M, hM⟩ : ∃ M : Nat, most.toNat = M := ⟨_, rfl⟩
    have hw0 : (if most < 0 then (0 : Int) else most) = (M : Int) := by rw [← hM]; split <;> omega
    cases hrd : readNum 0 0 s.left with
    | inl cd =>
      have hr : rText s most = (rF cd, []) := by unfold rText; rw [if_neg (by omega), hrd]
      have HC : Hid (cd ≠ 0) := by rcases readNum_code _ _ _ hrd with rfl | rfl <;> simp [Hid]
      have hcd : ((cd : Int) != 0) = true := by have := unhide HC; rw [bne_iff_ne]; omega
      have HRD := hide hrd
      rw [hr]
      clear h h1 g hm hx hl hat hxl hle hb
      clear hr hrd hf hlb hM hw0
      by_cases hs0 : most < 0
      · have t1 : (most < 0) = True := by simpa using hs0
        clear hs0
        go_enter Try.func35, Try.ntmps35
        go_wp2_with (first | (go_at_call 50; refine (unhide HD).mono ?_; rintro e w1 ⟨rfl, rfl⟩) | (go_at_call 52; refine (unhide HN).mono ?_; rintro e w1 ⟨-, hq, hk⟩; obtain ⟨rfl, at2, hq⟩ := hq _ (unhide HRD); have HQ := hide hq; have HK := hide hk; obtain ⟨d0, d1, d2, d3⟩ := blk4 hq.blk; clear hq hk HN))
        go_ret
        exact ⟨NewB.nil _ _, QsP.err (unhide HC) (unhide HQ) (unhide HBy) (unhide HK)⟩
      · have t1 : (most < 0) = False := by simpa using hs0
        clear hs0
        go_enter Try.func35, Try.ntmps35
        go_wp2_with (first | (go_at_call 50; refine (unhide HD).mono ?_; rintro e w1 ⟨rfl, rfl⟩) | (go_at_call 52; refine (unhide HN).mono ?_; rintro e w1 ⟨-, hq, hk⟩; obtain ⟨rfl, at2, hq⟩ := hq _ (unhide HRD); have HQ := hide hq; have HK := hide hk; obtain ⟨d0, d1, d2, d3⟩ := blk4 hq.blk; clear hq hk HN))
        go_ret
        exact ⟨NewB.nil _ _, QsP.err (unhide HC) (unhide HQ) (unhide HBy) (unhide HK)⟩
    | inr p =>
      obtain ⟨n, r⟩ := p
      have hn := (readNum_lt _ 0 0 (by omega) (by simp) hlb hrd)
      have hn64 : n < 18446744073709551616 := by omega
      have HRD := hide hrd
      by_cases hbig : M < n
      · have hr : rText s most = (rF 11, []) := by unfold rText; rw [if_neg (by omega), hrd]; simp only; rw [hM, if_pos hbig]
        rw [hr]
        clear h h1 g hm hx hl hat hxl hle hb
        clear hr hrd hf hlb hn
        by_cases hs0 : most < 0
        · have t1 : (most < 0) = True := by simpa using hs0
          obtain rfl : M = 0 := by omega
          have t2 : ((0 : Int) < (n : Int)) = True := by simp; omega
          clear hs0 hM hw0
          go_enter Try.func35, Try.ntmps35
          go_wp2_with (first | (go_at_call 50; refine (unhide HD).mono ?_; rintro e w1 ⟨rfl, rfl⟩) | (go_at_call 52; refine (unhide HN).mono ?_; rintro e w1 ⟨hq, -, hk⟩; obtain ⟨rfl, k, hkl, hrk, hq⟩ := hq _ _ (unhide HRD); have HQ := hide hq; have HK := hide hk; have HKL := hide hkl; have HRK := hide hrk; obtain ⟨d0, d1, d2, d3⟩ := blk4 hq.blk; have f3 := hq.blk.frozen 3; clear hq hk HN hkl hrk))
          go_ret
          obtain ⟨q1, q2⟩ := (unhide HQ).fail 11
          exact ⟨NewB.nil _ _, QsP.err (by omega) q1 (unhide HBy) ((unhide HK).trans q2 (fun y hy => Or.inl hy))⟩
        · have t1 : (most < 0) = False := by simpa using hs0
          obtain ⟨mm, rfl⟩ := Int.eq_ofNat_of_zero_le (show 0 ≤ most by omega)
          obtain rfl : mm = M := by omega
          have t2 : ((mm : Int) < (n : Int)) = True := by simp; omega
          have t3 : ((mm : Int) < 0) = False := by simp
          have hw5 : IntKind.u64.wrap (mm : Int) = (mm : Int) := by rw [IntKind.wrap_u64]; omega
          clear hs0 hM hw0 t1
          go_enter Try.func35, Try.ntmps35
          go_wp2_with (first | (go_at_call 50; refine (unhide HD).mono ?_; rintro e w1 ⟨rfl, rfl⟩) | (go_at_call 52; refine (unhide HN).mono ?_; rintro e w1 ⟨hq, -, hk⟩; obtain ⟨rfl, k, hkl, hrk, hq⟩ := hq _ _ (unhide HRD); have HQ := hide hq; have HK := hide hk; have HKL := hide hkl; have HRK := hide hrk; obtain ⟨d0, d1, d2, d3⟩ := blk4 hq.blk; have f3 := hq.blk.frozen 3; clear hq hk HN hkl hrk))
          go_ret
          obtain ⟨q1, q2⟩ := (unhide HQ).fail 11
          exact ⟨NewB.nil _ _, QsP.err (by omega) q1 (unhide HBy) ((unhide HK).trans q2 (fun y hy => Or.inl hy))⟩
      · have hwn : IntKind.i64.wrap (n : Int) = (n : Int) := by rw [IntKind.wrap_i64]; omega
        have HPS := hide hxl
        have HAT := hide hat
        have HM := hide hm
        have HX := hide hx
        by_cases hsh : r.length < n
        · have hr : rText s most = (rF 10, []) := by unfold rText; rw [if_neg (by omega), hrd]; simp only; rw [hM, if_neg hbig, if_pos hsh]
          rw [hr]
          have HLL := hide hl
          have HSH := hide hsh
          clear h h1 g hm hx hl hat hxl hle hb
          clear hr hrd hf hlb hn
          by_cases hs0 : most < 0
          · exfalso; omega
          · obtain ⟨mm, rfl⟩ := Int.eq_ofNat_of_zero_le (show 0 ≤ most by omega)
            obtain rfl : mm = M := by omega
            have t2 : ((mm : Int) < (n : Int)) = False := by simp; omega
            have t3 : ((mm : Int) < 0) = False := by simp
            have hw5 : IntKind.u64.wrap (mm : Int) = (mm : Int) := by rw [IntKind.wrap_u64]; omega
            clear hs0 hM hw0
            go_enter Try.func35, Try.ntmps35
            go_wp2_with (first | (go_at_call 50; refine (unhide HD).mono ?_; rintro e w1 ⟨rfl, rfl⟩) | (go_at_call 52; refine (unhide HN).mono ?_; rintro e w1 ⟨hq, -, hk⟩; obtain ⟨rfl, k, hkl, hrk, hq⟩ := hq _ _ (unhide HRD); have HQ := hide hq; have HK := hide hk; have HKL := hide hkl; have HRK := hide hrk; obtain ⟨d0, d1, d2, d3⟩ := blk4 hq.blk; have f3 := hq.blk.frozen 3; clear hq hk HN hkl hrk) | (go_at_call 51; refine (qbytes_short (unhide HQ) _ x (unhide HM) (unhide HX) (n : Int) (by have h1 := unhide HLL; have h2 := unhide HSH; have h3 := unhide HKL; have h4 := congrArg List.length (unhide HRK); simp only [List.length_drop] at h4; omega)).mono ?_; rintro e w3 ⟨rfl, hq, hk⟩; have HQ3 := hide hq; have HK3 := hide hk; clear hq hk))
            go_ret
            exact ⟨NewB.nil _ _, QsP.err (by omega) (unhide HQ3) (unhide HBy) ((unhide HK).trans (unhide HK3) (fun y hy => Or.inl hy))⟩
        · have hr : rText s most = (⟨0, r.drop n, s.behind⟩, r.take n) := by unfold rText; rw [if_neg (by omega), hrd]; simp only; rw [hM, if_neg hbig, if_neg hsh]
          rw [hr]
          have HLL := hide hl
          have HSH := hide hsh
          have HTL : Hid ((r.take n).length = n) := by unfold Hid; simp; omega
          clear h h1 g hm hx hl hat hxl hle hb
          clear hr hrd hf hlb hn
          by_cases hs0 : most < 0
          · have t1 : (most < 0) = True := by simpa using hs0
            obtain rfl : M = 0 := by omega
            obtain rfl : n = 0 := by omega
            clear hs0 hM hw0
            go_enter Try.func35, Try.ntmps35
            go_wp2_with (first | (go_at_call 50; refine (unhide HD).mono ?_; rintro e w1 ⟨rfl, rfl⟩) | (go_at_call 52; refine (unhide HN).mono ?_; rintro e w1 ⟨hq, -, hk⟩; obtain ⟨rfl, k, hkl, hrk, hq⟩ := hq _ _ (unhide HRD); have HQ := hide hq; have HK := hide hk; have HKL := hide hkl; have HRK := hide hrk; obtain ⟨d0, d1, d2, d3⟩ := blk4 hq.blk; have f3 := hq.blk.frozen 3; clear hq hk HN hkl hrk) | (go_at_call 51; refine (qbytes_ok (unhide HQ) _ x (unhide HM) (unhide HX) 0 (by have h1 := unhide HLL; have h2 := unhide HKL; have h5 := unhide HAT; omega)).mono ?_; rintro e w3 ⟨a3, cap3, rfl, ho, hq, hk⟩; have HO3 := hide ho; have HQ3 := hide hq; have HK3 := hide hk; clear ho hq hk))
            go_ret
            refine ⟨⟨a3, cap3, rfl, own_base (unhide HO3) (fun q hq => by have := ((unhide HO3).lt q hq).1; have := (unhide HK).size; omega)⟩, QsP.ok (unhide HQ3) (unhide HBy) ?_ ((unhide HK).trans (unhide HK3) (fun y hy => Or.inl hy))⟩
            rw [List.drop_zero, unhide HRK]
            exact (unhide HG).go _ (unhide HKL)
          · obtain ⟨mm, rfl⟩ := Int.eq_ofNat_of_zero_le (show 0 ≤ most by omega)
            obtain rfl : mm = M := by omega
            have t2 : ((mm : Int) < (n : Int)) = False := by simp; omega
            have t3 : ((mm : Int) < 0) = False := by simp
            have hw5 : IntKind.u64.wrap (mm : Int) = (mm : Int) := by rw [IntKind.wrap_u64]; omega
            clear hs0 hM hw0
            go_enter Try.func35, Try.ntmps35
            go_wp2_with (first | (go_at_call 50; refine (unhide HD).mono ?_; rintro e w1 ⟨rfl, rfl⟩) | (go_at_call 52; refine (unhide HN).mono ?_; rintro e w1 ⟨hq, -, hk⟩; obtain ⟨rfl, k, hkl, hrk, hq⟩ := hq _ _ (unhide HRD); have HQ := hide hq; have HK := hide hk; have HKL := hide hkl; have HRK := hide hrk; obtain ⟨d0, d1, d2, d3⟩ := blk4 hq.blk; have f3 := hq.blk.frozen 3; clear hq hk HN hkl hrk) | (go_at_call 51; refine (qbytes_ok (unhide HQ) _ x (unhide HM) (unhide HX) n (by have h5 := unhide HAT; have h1 := unhide HLL; have h2 := unhide HSH; have h3 := unhide HKL; have h4 := congrArg List.length (unhide HRK); simp only [List.length_drop] at h4; omega)).mono ?_; rintro e w3 ⟨a3, cap3, rfl, ho, hq, hk⟩; have HO3 := hide ho; have HQ3 := hide hq; have HK3 := hide hk; clear ho hq hk))
            go_ret
            have gk := (unhide HG).go _ (unhide HKL)
            rw [← unhide HRK] at gk
            have hnl : n ≤ r.length := by have := unhide HSH; omega
            refine ⟨⟨a3, cap3, ?_, ?_⟩, QsP.ok (unhide HQ3) (unhide HBy) (gk.go n hnl) ((unhide HK).trans (unhide HK3) (fun y hy => Or.inl hy))⟩
            · show Ending.returned (.slice a3 n cap3) = .returned (.slice a3 (r.take n).length cap3)
              rw [unhide HTL]
            · show w3.ownsRow w.heap.size 5 1 (.slice a3 (r.take n).length cap3) (r.take n).length (u8s (r.take n))
              rw [unhide HTL]
              have ho := unhide HO3
              rw [gk.take n hnl] at ho
              exact own_base ho (fun q hq => by have := (ho.lt q hq).1; have := (unhide HK).size; omega)
  · have HD := hide (h.dead hf)
    have HH := hide h
    have hr : rText s most = (s, []) := by unfold rText; rw [if_pos hf]
    rw [hr]
    clear hr h hf
    go_enter Try.func35, Try.ntmps35
    go_wp2_with (first | (go_at_call 50; refine (unhide HD).mono ?_; rintro e w1 ⟨rfl, rfl⟩))
    go_ret
    exact ⟨NewB.nil _ _, QsP.same (unhide HH) (Kept.refl _ _)⟩

end Go.Proofs.Ytocmgfmfalaebaa

/- The document's reader, whatever its state: Real. -/
namespace Go.Proofs.Ytocmgfmfalaebaa
open Go.RowKit

theorem infoI : (Try.prog.info? 3).map (fun i => (i.zero, i.size, i.bytes)) = some (some (.int .i64 0), 1, 8) := by kernel_rfl
/-- one more number behind numbers of its own -/
theorem app_int {w : World} {a : Option Addr} {k cap : Nat} {xs : List Nat} (h : w.ownsRow 0 3 1 (.slice a k cap) k (i64s xs)) (hk : xs.length = k) (x : Nat) (hl : k ≤ 1000000) (ty : TypeId) :
    ∃ a' cap' w', (Builtin.append_ #[42, 42] ty #[.slice a k cap, .slice (some ⟨w.heap.size, 0, none⟩) 1 1]).run Try.prog (w.alloc (.cells #[.int .i64 (x : Int)] 3)).drew = .ok (.slice a' (k + 1) cap') w' ∧ w'.ownsRow 0 3 1 (.slice a' (k + 1) cap') (k + 1) (i64s (xs ++ [x])) ∧ Kept (Value.slice a k cap).ownBlock.toList w w' ∧ ((Value.slice a' (k + 1) cap').ownBlock = (Value.slice a k cap).ownBlock ∨ ∀ q, (Value.slice a' (k + 1) cap').ownBlock = some q → w.heap.size ≤ q) := by
  obtain ⟨i0, hi, hz0, hz1, hz2⟩ := info_parts infoI
  have k1 : Kept [] w (w.alloc (.cells #[.int .i64 (x : Int)] 3)).drew := ((Kept.refl [] w).alloc _).drew
  obtain ⟨v', w', h1, h2, h3, _, h5⟩ := run_append_own_at (P := Try.prog) (w.alloc (.cells #[.int .i64 (x : Int)] 3)).drew 0 42 ty 3 i0 (.int .i64 0) 1 8 Try.underlying42 hi hz0 hz1 hz2 rfl (by decide) (.slice a k cap) k (i64s xs) (own_kept h k1 (by simp)) ⟨w.heap.size, 0, none⟩ 1 1 [.int .i64 (x : Int)] rfl (news_i64 w x) (by intro u hu; simp at hu; subst hu; rfl) (by unfold maxLen; omega) (by omega) (by simp)
  obtain ⟨a', cap', rfl⟩ := own_len h2
  have hl1 : i64s (xs ++ [x]) = i64s xs ++ [.int .i64 (x : Int)] := by simp [i64s]
  refine ⟨a', cap', w', h1, by rw [hl1]; exact h2, (k1.mono (by simp)).grown h3 (fun q hq => Or.inl (by simp [hq])), ?_⟩
  rcases h5 with h5 | h5
  · exact Or.inl h5
  · right; intro q hq; rw [h5] at hq; simp at hq; omega

/-- The ends are written anew. -/
theorem Qm.ends {w w1 : World} {c : Nat} {pv ev ev' : Value} {ps : List Nat} {at' : Nat} {es : List Nat} {fa : Nat} (h : Qm w c pv ev ps at' es fa) (ts : List Nat)
    (hown : w1.ownsRow 0 3 1 ev' ts.length (i64s ts)) (hk : Kept ev.ownBlock.toList w w1) (hat : ev'.ownBlock = ev.ownBlock ∨ ∀ x, ev'.ownBlock = some x → w.heap.size ≤ x)
    (hl : ts.length ≤ 17) (ht : ∀ x ∈ ts, x ≤ ps.length) :
    Qm (w1.setCell ⟨c, 2, none⟩ ev') c pv ev' ps at' ts fa ∧ Kept (qfoot c pv ev) w (w1.setCell ⟨c, 2, none⟩ ev') ∧ ∀ x, x ∈ qfoot c pv ev' → x ∈ qfoot c pv ev ∨ w.heap.size ≤ x := by
  have hb := h.blk.lt
  have k2 : Kept (qfoot c pv ev) w (w1.setCell ⟨c, 2, none⟩ ev') := (hk.mono (fun x hx => Or.inl (by simp [qfoot]; simp at hx; simp [hx]))).setCell (Or.inl (by simp [qfoot])) ev'
  have n2' : ev'.ownBlock ≠ some c := by
    rcases hat with e | e
    · rw [e]; exact h.n2
    · intro hx; have := e c hx; omega
  have n3' : ∀ k, pv.ownBlock = some k → ev'.ownBlock ≠ some k := by
    intro k hk' hs
    rcases hat with e | e
    · exact h.n3 k hk' (by rw [← e]; exact hs)
    · have := e k hs; have := h.see.lt hk'; omega
  refine ⟨⟨?_, ?_, ?_, h.n1, n2', n3', h.bl, hl, h.bat, ht⟩, k2, ?_⟩
  · have b1 := h.blk.kept hk (by simp; exact h.n2)
    simpa using b1.set 2 ev'
  · have o1 := h.see.kept hk (fun k hk' => by simp; exact h.n3 k hk')
    exact o1.kept ((Kept.refl [c] _).setCell (Or.inl (by simp)) ev') (fun k hk' => by simp; intro e; exact h.n1 (by rw [hk', e]))
  · exact own_kept hown ((Kept.refl [c] _).setCell (Or.inl (by simp)) ev') (fun k hk' => by simp; intro e; exact n2' (by rw [hk', e]))
  · intro x hx
    simp [qfoot] at hx ⊢
    rcases hx with hx | hx | hx
    · exact Or.inl (Or.inl hx)
    · exact Or.inl (Or.inr (Or.inl hx))
    · rcases hat with e | e
      · exact Or.inl (Or.inr (Or.inr (by rw [← e]; exact hx)))
      · exact Or.inr (e x hx)

theorem of8_64 (l : List Nat) (h : ∀ x ∈ l, x < 256) (hl : l.length = 8) : of8 l < 18446744073709551616 := by
  rw [← leV_of8]
  have := leV_lt l.reverse (fun x hx => h x (by simpa using hx))
  rw [List.length_reverse, hl] at this
  exact this

end Go.Proofs.Ytocmgfmfalaebaa

/- The document's reader, whatever its state: Enter. -/
namespace Go.Proofs.Ytocmgfmfalaebaa
open Go.RowKit

end Go.Proofs.Ytocmgfmfalaebaa

/- The document's reader: Leave; every call on none at all. -/
namespace Go.Proofs.Ytocmgfmfalaebaa
open Go.RowKit

set_option maxRecDepth 100000 in
set_option maxHeartbeats 1000000 in
theorem qbyte_nil (w : World) : Calls Try.prog 33 #[.pointer none] w fun e w' => e = .returned (.int .i64 0) ∧ w = w' := by
  have HD := hide (qdead_nil w)
  go_enter Try.func33, Try.ntmps33
  go_wp2_with (first | (go_at_call 50; refine (unhide HD).mono ?_; rintro e w1 ⟨rfl, rfl⟩))
  go_ret
  exact ⟨rfl, rfl⟩

set_option maxRecDepth 100000 in
set_option maxHeartbeats 1000000 in
theorem qnum_nil (w : World) : Calls Try.prog 34 #[.pointer none] w fun e w' => e = .returned (.int .u64 0) ∧ w = w' := by
  have HD := hide (qdead_nil w)
  go_enter Try.func34, Try.ntmps34
  go_wp2_with (first | (go_at_call 50; refine (unhide HD).mono ?_; rintro e w1 ⟨rfl, rfl⟩))
  go_ret
  exact ⟨rfl, rfl⟩

set_option maxRecDepth 100000 in
set_option maxHeartbeats 1000000 in
theorem qtext_nil (w : World) (n : Int) : Calls Try.prog 35 #[.pointer none, .int .i64 n] w fun e w' => e = .returned (.slice none 0 0) ∧ w = w' := by
  have HD := hide (qdead_nil w)
  go_enter Try.func35, Try.ntmps35
  go_wp2_with (first | (go_at_call 50; refine (unhide HD).mono ?_; rintro e w1 ⟨rfl, rfl⟩))
  go_ret
  exact ⟨rfl, rfl⟩

end Go.Proofs.Ytocmgfmfalaebaa

/- The document's reader is made: Read. -/
namespace Go.Proofs.Ytocmgfmfalaebaa
open Go.RowKit

/-- one more byte behind bytes of its own: what is kept -/
theorem app_byteK {w : World} {base : Nat} {a : Option Addr} {k cap : Nat} {xs : List Nat} (h : w.ownsRow base 5 1 (.slice a k cap) k (u8s xs)) (hk : xs.length = k) (x : Nat) (hl : k + 1 ≤ 140737488355328) (hb : base ≤ w.heap.size) (ty : TypeId) :
    ∃ a' cap' w', (Builtin.append_ #[22, 22] ty #[.slice a k cap, .slice (some ⟨w.heap.size, 0, none⟩) 1 1]).run Try.prog (w.alloc (.cells #[.int .u8 (x : Int)] 5)).drew = .ok (.slice a' (k + 1) cap') w' ∧ w'.ownsRow base 5 1 (.slice a' (k + 1) cap') (k + 1) (u8s (xs ++ [x])) ∧ Kept (Value.slice a k cap).ownBlock.toList w w' ∧ ((Value.slice a' (k + 1) cap').ownBlock = (Value.slice a k cap).ownBlock ∨ ∀ q, (Value.slice a' (k + 1) cap').ownBlock = some q → w.heap.size ≤ q) := by
  obtain ⟨i0, hi, hz0, hz1, hz2⟩ := info_parts Try.info5
  subst hk
  have k1 : Kept [] w (w.alloc (.cells #[.int .u8 (x : Int)] 5)).drew := ((Kept.refl [] w).alloc _).drew
  have s1 : Sees (w.alloc (.cells #[.int .u8 (x : Int)] 5)).drew (.slice (some ⟨w.heap.size, 0, none⟩) 1 1) [x] := (news_one w x).kept (F := []) (Kept.refl [] _).drew (by simp)
  obtain ⟨v', w', h1, h2, h3, h4⟩ := run_append_sees (P := Try.prog) (w.alloc (.cells #[.int .u8 (x : Int)] 5)).drew base 22 ty 5 i0 (.int .u8 0) Try.underlying22 hi hz0 hz1 hz2 rfl _ xs (own_kept h k1 (by simp)) _ [x] s1 (by simp; omega) (by simp; omega)
  obtain ⟨a', cap', rfl⟩ := own_len h2
  have hl1 : (xs ++ [x]).length = xs.length + 1 := by simp
  rw [hl1] at h1 h2 h4
  refine ⟨a', cap', w', h1, h2, (k1.mono (by simp)).grown h3 (fun q hq => Or.inl (by simp [hq])), ?_⟩
  rcases h4 with h5 | h5
  · exact Or.inl h5
  · right; intro q hq; rw [h5] at hq; simp at hq; omega

theorem take_snoc (ps : List Nat) (k : Nat) (h : k < ps.length) : ps.take k ++ [ps.getD k 0] = ps.take (k + 1) := by
  have := take_next ps 0 k (by omega)
  simpa using this

set_option maxRecDepth 100000 in
set_option maxHeartbeats 1000000 in
theorem qread_any {w : World} {v : Value} {ps : List Nat} (h : Wide w v ps) (hb : ∀ x ∈ ps, x < 256) (hl : ps.length ≤ 140737488355328) :
    Calls Try.prog 32 #[v] w fun e w' => ∃ c F, e = .returned (.pointer (some ⟨c, 0, none⟩)) ∧ Qs w' c F ⟨0, ps, []⟩ ∧ (∀ x ∈ F, w.heap.size ≤ x) ∧ Kept [] w w' := by
  have HW := hide h
  have HB := hide hb
  obtain ⟨va, vc, rfl⟩ := wide_len h
  obtain ⟨L, hL⟩ : ∃ L, ps.length = L := ⟨_, rfl⟩
  have HL := hide hL
  rw [hL] at hl ⊢
  clear h hb hL
  go_enter Try.func32, Try.ntmps32
  go_wp2
  go_loopw [4] (fun i wr => ∃ (k : Nat) (a : Option Addr) (cap : Nat), k ≤ L ∧ i = .int .i64 (k : Int) ∧ Hid (Blk wr (w.heap.size + 1) #[.slice a k cap, .int .i64 0, .slice (some ⟨w.heap.size, 0, none⟩) 1 1, .int .i64 0] 80 ∧ wr.ownsRow (w.heap.size + 2) 5 1 (.slice a k cap) k (u8s (ps.take k)) ∧ wr.ownsRow 0 3 1 (.slice (some ⟨w.heap.size, 0, none⟩) 1 1) 1 (i64s [L]) ∧ Kept [] w wr ∧ w.heap.size + 2 ≤ wr.heap.size)) (fun i _ => L - (intOf i).toNat)
  case atStart =>
    refine ⟨0, none, 0, by omega, rfl, hide ⟨?_, ?_, ?_, ?_, ?_⟩⟩
    · have := Blk.new (w.alloc (.cells #[.int .i64 (L : Int)] 3)) #[.slice none 0 0, .int .i64 0, .slice (some ⟨w.heap.size, 0, none⟩) 1 1, .int .i64 0] 80
      simpa using this
    · exact World.ownsRow_nil _ _ _ _
    · refine ⟨rfl, Or.inr ⟨w.heap.size, 1, #[.int .i64 (L : Int)], rfl, Nat.zero_le _, ?_, by omega, by unfold maxLen; omega, rfl, rfl⟩⟩
      exact (Blk.new w #[.int .i64 (L : Int)] 3).alloc _
    · exact ((Kept.refl [] w).alloc _).alloc _
    · simp
  case round =>
    obtain ⟨k, a, cap, hk, rfl, HR⟩ := hrel
    obtain ⟨hbk, hro, hre, hkp, hsz⟩ := unhide HR
    by_cases hlt : k < L
    · have hi : k < ps.length := by rw [unhide HL]; exact hlt
      obtain ⟨b, off, hva, cx⟩ := ((unhide HW).kept hkp).at k hi
      subst hva
      obtain ⟨c0, c1, c2, c3⟩ := blk4 hbk
      have HT := hide (take_snoc ps k hi)
      have hlen : (ps.take k).length = k := by simp; omega
      obtain ⟨a2, d2, w2, hap, ho2, hk2, hat2⟩ := app_byteK hro hlen (ps.getD k 0) (by omega) hsz 22
      generalize ps.getD k 0 = y at *
      have HAP := hide hap
      have HAP2 : Hid ((Builtin.append_ #[22, 22] 22 #[.slice a k cap, .slice (some ⟨wr.heap.size, 0, none⟩) 1 1]).run Try.prog (wr.drew.alloc (.cells #[.int .u8 (y : Int)] 5)) = .ok (.slice a2 (k + 1) d2) w2) := hap
      have hcA : (wr.alloc (.cells #[.int .u8 (y : Int)] 5)).cell? ⟨w.heap.size + 1, 0, none⟩ = some (.slice a k cap) := (blk4 (hbk.alloc _)).1
      have hnb : ∀ q, q < w.heap.size + 2 → q ∉ (Value.slice a k cap).ownBlock.toList := fun q hq hm => by have := (hro.lt q (Option.mem_toList.1 hm)).1; omega
      have hb2 := hbk.kept hk2 (hnb _ (by omega))
      have he2 := own_kept hre hk2 (fun q hq => hnb q (by have e0 : (some w.heap.size : Option Nat) = some q := hq; simp at e0; omega))
      have g0 : w2.cell? ⟨w.heap.size + 1, 0, none⟩ = some (.slice a k cap) := (blk4 hb2).1
      have f0 := hb2.frozen 0
      have HFIN : Hid (Blk (w2.setCell ⟨w.heap.size + 1, 0, none⟩ (.slice a2 (k + 1) d2)) (w.heap.size + 1) #[.slice a2 (k + 1) d2, .int .i64 0, .slice (some ⟨w.heap.size, 0, none⟩) 1 1, .int .i64 0] 80 ∧ (w2.setCell ⟨w.heap.size + 1, 0, none⟩ (.slice a2 (k + 1) d2)).ownsRow (w.heap.size + 2) 5 1 (.slice a2 (k + 1) d2) (k + 1) (u8s (ps.take (k + 1))) ∧ (w2.setCell ⟨w.heap.size + 1, 0, none⟩ (.slice a2 (k + 1) d2)).ownsRow 0 3 1 (.slice (some ⟨w.heap.size, 0, none⟩) 1 1) 1 (i64s [L]) ∧ Kept [] w (w2.setCell ⟨w.heap.size + 1, 0, none⟩ (.slice a2 (k + 1) d2)) ∧ w.heap.size + 2 ≤ (w2.setCell ⟨w.heap.size + 1, 0, none⟩ (.slice a2 (k + 1) d2)).heap.size) := by
        have ks : Kept [w.heap.size + 1] w2 (w2.setCell ⟨w.heap.size + 1, 0, none⟩ (.slice a2 (k + 1) d2)) := (Kept.refl _ _).setCell (Or.inl (by simp)) _
        refine hide ⟨by simpa using hb2.set 0 (.slice a2 (k + 1) d2), ?_, ?_, ?_, ?_⟩
        · rw [← unhide HT]
          exact own_kept ho2 ks (fun q hq => by have := (ho2.lt q hq).1; simp; omega)
        · exact own_kept he2 ks (fun q hq => by have e0 : (some w.heap.size : Option Nat) = some q := hq; simp at e0; simp; omega)
        · exact (hkp.trans hk2 (fun q hq => Or.inr (by have := (hro.lt q (Option.mem_toList.1 hq)).1; omega))).setCell (Or.inr (by simp)) _
        · have := hk2.size; have := ks.size; omega
      have hw7 : IntKind.i64.wrap ((k : Int) + 1) = (k : Int) + 1 := by rw [IntKind.wrap_i64]; omega
      have hm : L ≤ 9223372036854775807 := by omega
      have HHL := hide hl
      clear hap ho2 hk2 hat2 hlen hbk hro hre hkp hsz hnb hb2 he2 hi hl HR
      go_upto_region 5 with fail
      go_region_law (first | (refine step_append_runE (by rfl) _ _ 22 22 (by rfl) _ _ (by rfl) (by rfl) (unhide HAP) ?_) | (refine step_append_runE (by rfl) _ _ 22 22 (by rfl) _ _ (by rfl) (by rfl) (unhide HAP2) ?_))
      all_goals
        clear c0 c1 c2 c3 cx HAP HAP2 hcA g0 f0
        go_wp2
        exact ⟨⟨k + 1, a2, d2, by omega, by go_num, HFIN⟩, by simp [intOf]; omega⟩
    · obtain rfl : k = L := by omega
      clear hbk hro hre hkp hsz
      go_wp2
      go_ret
      obtain ⟨hbk, hro, hre, hkp, hsz⟩ := unhide HR
      have hlp := unhide HL
      subst hlp
      rw [List.take_length] at hro
      refine ⟨w.heap.size + 1, _, rfl, ⟨.slice a ps.length cap, .slice (some ⟨w.heap.size, 0, none⟩) 1 1, ps, 0, [ps.length], ⟨hbk, Sees.of_own hro, hre, ?_, ?_, ?_, hl, by simp, by omega, by simp⟩, rfl, unhide HB, fun _ => Geo.new ps, fun h0 => absurd rfl h0⟩, ?_, hkp⟩
      · intro e; have := (hro.lt _ e).1; omega
      · intro e; have e0 : (some w.heap.size : Option Nat) = some (w.heap.size + 1) := e; simp at e0
      · intro q hq e; have e0 : (some w.heap.size : Option Nat) = some q := e; simp at e0; have := (hro.lt _ hq).1; omega
      · intro q hq
        simp only [qfoot, List.mem_cons, List.mem_append, Option.mem_toList] at hq
        rcases hq with rfl | hq | hq
        · omega
        · have := (hro.lt _ hq).1; omega
        · have e0 : (some w.heap.size : Option Nat) = some q := hq; simp at e0; omega
end Go.Proofs.Ytocmgfmfalaebaa

/- The document's writer: its state in memory, and its small calls. -/
namespace Go.Proofs.Ytocmgfmfalaebaa
open Go.RowKit

/-- In w there is a writer at block b, in the state s; F: the blocks of its bytes and its starts. -/
structure Vr (w : World) (b : Nat) (s : WS) (v sv : Value) : Prop where
  blk : Blk w b #[.int .i64 (s.room : Int), v, sv, .int .i64 (s.fault : Int)] 87
  own : w.ownsRow 0 5 1 v s.bs.length (u8s s.bs)
  sown : w.ownsRow 0 3 1 sv s.sts.length (i64s s.sts)
  n1 : v.ownBlock ≠ some b
  n2 : sv.ownBlock ≠ some b
  n3 : ∀ k, v.ownBlock = some k → sv.ownBlock ≠ some k
  broom : s.room < 9223372036854775808
  bbs : s.bs.length ≤ 70368744177664
  bsts : s.sts.length ≤ 16
  bf : s.fault < 1000

theorem Vr.kept {F : List Nat} {w w' : World} {b : Nat} {s : WS} {v sv : Value} (h : Vr w b s v sv) (k : Kept F w w') (hd : ∀ x, x ∈ foot b v sv → x ∉ F) : Vr w' b s v sv :=
  ⟨h.blk.kept k (hd b (by simp [foot])), own_kept h.own k (fun x hx => hd x (by simp [foot, hx])), own_kept h.sown k (fun x hx => hd x (by simp [foot, hx])), h.n1, h.n2, h.n3, h.broom, h.bbs, h.bsts, h.bf⟩
theorem Vr.alloc {w : World} {b : Nat} {s : WS} {v sv : Value} (h : Vr w b s v sv) (o : Obj) : Vr (w.alloc o) b s v sv := h.kept ((Kept.refl [] w).alloc o) (by simp)

theorem Vr.grow {w w1 : World} {b : Nat} {s : WS} {v sv v' : Value} (h : Vr w b s v sv) (ys : List Nat)
    (hown : w1.ownsRow 0 5 1 v' (s.bs ++ ys).length (u8s (s.bs ++ ys))) (hg : w.grownBy w1 v.ownBlock) (hat : v'.ownBlock = v.ownBlock ∨ v'.ownBlock = some w.heap.size)
    (hl : s.bs.length + ys.length ≤ 70368744177664) :
    Vr (w1.setCell ⟨b, 1, none⟩ v') b { s with bs := s.bs ++ ys } v' sv ∧ Kept (foot b v sv) w (w1.setCell ⟨b, 1, none⟩ v') ∧ ∀ x, x ∈ foot b v' sv → x ∈ foot b v sv ∨ w.heap.size ≤ x := by
  have hb := h.blk.lt
  have k1 : Kept (foot b v sv) w w1 := (Kept.refl _ _).grown hg (fun k hk => Or.inl (by simp [foot, hk]))
  have k2 : Kept (foot b v sv) w (w1.setCell ⟨b, 1, none⟩ v') := k1.setCell (Or.inl (by simp [foot])) v'
  have n1' : v'.ownBlock ≠ some b := by
    rcases hat with e | e <;> rw [e]
    · exact h.n1
    · simp; omega
  have n3' : ∀ k, v'.ownBlock = some k → sv.ownBlock ≠ some k := by
    intro k hk hs
    rcases hat with e | e
    · exact h.n3 k (by rw [← e]; exact hk) hs
    · rw [e] at hk; simp at hk; subst hk
      have := (h.sown.lt _ hs).2; omega
  refine ⟨⟨?_, ?_, ?_, n1', h.n2, n3', h.broom, by simpa using hl, h.bsts, h.bf⟩, k2, ?_⟩
  · have b1 : Blk w1 b #[.int .i64 (s.room : Int), v, sv, .int .i64 (s.fault : Int)] 87 := by
      have := hg.block b hb (fun e => h.n1 e.symm)
      exact this.trans h.blk
    have := b1.set 1 v'
    simpa using this
  · exact own_kept hown ((Kept.refl [b] _).setCell (Or.inl (by simp)) v') (fun k hk => by simp; intro e; exact n1' (by rw [hk, e]))
  · have s1 : w1.ownsRow 0 3 1 sv s.sts.length (i64s s.sts) := by
      refine own_kept h.sown ((Kept.refl v.ownBlock.toList _).grown hg (fun k hk => Or.inl (by simp [hk]))) (fun k hk => ?_)
      simp; intro e; exact h.n3 k e hk
    exact own_kept s1 ((Kept.refl [b] _).setCell (Or.inl (by simp)) v') (fun k hk => by simp; intro e; exact h.n2 (by rw [hk, e]))
  · intro x hx
    simp [foot] at hx ⊢
    rcases hx with hx | hx | hx
    · exact Or.inl (Or.inl hx)
    · rcases hat with e | e
      · exact Or.inl (Or.inr (Or.inl (by rw [← e]; exact hx)))
      · rw [e] at hx; simp at hx; right; omega
    · exact Or.inl (Or.inr (Or.inr hx))

theorem Vr.starts {w w1 : World} {b : Nat} {s : WS} {v sv sv' : Value} (h : Vr w b s v sv) (ts : List Nat)
    (hown : w1.ownsRow 0 3 1 sv' ts.length (i64s ts)) (hk : Kept sv.ownBlock.toList w w1) (hat : sv'.ownBlock = sv.ownBlock ∨ ∀ x, sv'.ownBlock = some x → w.heap.size ≤ x)
    (hl : ts.length ≤ 16) :
    Vr (w1.setCell ⟨b, 2, none⟩ sv') b { s with sts := ts } v sv' ∧ Kept (foot b v sv) w (w1.setCell ⟨b, 2, none⟩ sv') ∧ ∀ x, x ∈ foot b v sv' → x ∈ foot b v sv ∨ w.heap.size ≤ x := by
  have hb := h.blk.lt
  have k2 : Kept (foot b v sv) w (w1.setCell ⟨b, 2, none⟩ sv') := (hk.mono (fun x hx => Or.inl (by simp [foot]; simp at hx; simp [hx]))).setCell (Or.inl (by simp [foot])) sv'
  have n2' : sv'.ownBlock ≠ some b := by
    rcases hat with e | e
    · rw [e]; exact h.n2
    · intro hx; have := e b hx; omega
  have n3' : ∀ k, v.ownBlock = some k → sv'.ownBlock ≠ some k := by
    intro k hk' hs
    rcases hat with e | e
    · exact h.n3 k hk' (by rw [← e]; exact hs)
    · have := e k hs; have := (h.own.lt k hk').2; omega
  refine ⟨⟨?_, ?_, ?_, h.n1, n2', n3', h.broom, h.bbs, hl, h.bf⟩, k2, ?_⟩
  · have b1 : Blk w1 b #[.int .i64 (s.room : Int), v, sv, .int .i64 (s.fault : Int)] 87 := h.blk.kept hk (by simp; exact h.n2)
    simpa using b1.set 2 sv'
  · have o1 := own_kept h.own hk (fun k hk' => by simp; exact h.n3 k hk')
    exact own_kept o1 ((Kept.refl [b] _).setCell (Or.inl (by simp)) sv') (fun k hk' => by simp; intro e; exact h.n1 (by rw [hk', e]))
  · exact own_kept hown ((Kept.refl [b] _).setCell (Or.inl (by simp)) sv') (fun k hk' => by simp; intro e; exact n2' (by rw [hk', e]))
  · intro x hx
    simp [foot] at hx ⊢
    rcases hx with hx | hx | hx
    · exact Or.inl (Or.inl hx)
    · exact Or.inl (Or.inr (Or.inl hx))
    · rcases hat with e | e
      · exact Or.inl (Or.inr (Or.inr (by rw [← e]; exact hx)))
      · exact Or.inr (e x hx)

theorem Vr.bytes {w w1 : World} {b : Nat} {s : WS} {v sv v' : Value} (h : Vr w b s v sv) (bs' : List Nat)
    (hown : w1.ownsRow 0 5 1 v' bs'.length (u8s bs')) (hk : Kept v.ownBlock.toList w w1) (hat : v'.ownBlock = v.ownBlock ∨ ∀ x, v'.ownBlock = some x → w.heap.size ≤ x)
    (hl : bs'.length ≤ 70368744177664) :
    Vr (w1.setCell ⟨b, 1, none⟩ v') b { s with bs := bs' } v' sv ∧ Kept (foot b v sv) w (w1.setCell ⟨b, 1, none⟩ v') ∧ ∀ x, x ∈ foot b v' sv → x ∈ foot b v sv ∨ w.heap.size ≤ x := by
  have hb := h.blk.lt
  have k2 : Kept (foot b v sv) w (w1.setCell ⟨b, 1, none⟩ v') := (hk.mono (fun x hx => Or.inl (by simp [foot]; simp at hx; simp [hx]))).setCell (Or.inl (by simp [foot])) v'
  have n1' : v'.ownBlock ≠ some b := by
    rcases hat with e | e
    · rw [e]; exact h.n1
    · intro hx; have := e b hx; omega
  have n3' : ∀ k, v'.ownBlock = some k → sv.ownBlock ≠ some k := by
    intro k hk' hs
    rcases hat with e | e
    · exact h.n3 k (by rw [← e]; exact hk') hs
    · have := e k hk'; have := (h.sown.lt k hs).2; omega
  refine ⟨⟨?_, ?_, ?_, n1', h.n2, n3', h.broom, hl, h.bsts, h.bf⟩, k2, ?_⟩
  · have b1 : Blk w1 b #[.int .i64 (s.room : Int), v, sv, .int .i64 (s.fault : Int)] 87 := h.blk.kept hk (by simp; exact h.n1)
    simpa using b1.set 1 v'
  · exact own_kept hown ((Kept.refl [b] _).setCell (Or.inl (by simp)) v') (fun k hk' => by simp; intro e; exact n1' (by rw [hk', e]))
  · have o1 := own_kept h.sown hk (fun k hk' => by simp; exact fun e => h.n3 k e hk')
    exact own_kept o1 ((Kept.refl [b] _).setCell (Or.inl (by simp)) v') (fun k hk' => by simp; intro e; exact h.n2 (by rw [hk', e]))
  · intro x hx
    simp [foot] at hx ⊢
    rcases hx with hx | hx | hx
    · exact Or.inl (Or.inl hx)
    · rcases hat with e | e
      · exact Or.inl (Or.inr (Or.inl (by rw [← e]; exact hx)))
      · exact Or.inr (e x hx)
    · exact Or.inl (Or.inr (Or.inr hx))


theorem vfoot_lt {w : World} {b : Nat} {s : WS} {v sv : Value} (h : Vr w b s v sv) : ∀ x, x ∈ foot b v sv → x < w.heap.size := by
  intro x hx
  simp [foot] at hx
  rcases hx with rfl | hx | hx
  · exact h.blk.lt
  · exact (h.own.lt _ hx).2
  · exact (h.sown.lt _ hx).2


theorem Vr.fail {w : World} {c : Nat} {s : WS} {v sv : Value} (h : Vr w c s v sv) (f : Nat) (hf : f < 1000) :
    Vr (w.setCell ⟨c, 3, none⟩ (.int .i64 (f : Int))) c { s with fault := f } v sv ∧ Kept [c] w (w.setCell ⟨c, 3, none⟩ (.int .i64 (f : Int))) := by
  have kk : Kept [c] w (w.setCell ⟨c, 3, none⟩ (.int .i64 (f : Int))) := (Kept.refl _ _).setCell (Or.inl (by simp)) _
  refine ⟨⟨by simpa using h.blk.set 3 (.int .i64 (f : Int)), own_kept h.own kk (fun k hk => ?_), own_kept h.sown kk (fun k hk => ?_), h.n1, h.n2, h.n3, h.broom, h.bbs, h.bsts, hf⟩, kk⟩
  · simp; intro e; exact h.n1 (by rw [hk, e])
  · simp; intro e; exact h.n2 (by rw [hk, e])

set_option maxRecDepth 100000 in
set_option maxHeartbeats 400000 in
theorem vdead_no {w : World} {c : Nat} {s : WS} {v sv : Value} (h : Vr w c s v sv) (hf : s.fault = 0) :
    Calls Try.prog 77 #[.pointer (some ⟨c, 0, none⟩)] w fun e w' => e = .returned (.bool false) ∧ w = w' := by
  obtain ⟨c0, c1, c2, c3⟩ := blk4 h.blk
  rw [hf] at c3; clear hf h
  go_enter Try.func77, Try.ntmps77
  go_wp2
  go_ret
  exact ⟨rfl, rfl⟩
set_option maxRecDepth 100000 in
set_option maxHeartbeats 400000 in
theorem vdead_yes {w : World} {c : Nat} {s : WS} {v sv : Value} (h : Vr w c s v sv) (hf : s.fault ≠ 0) :
    Calls Try.prog 77 #[.pointer (some ⟨c, 0, none⟩)] w fun e w' => e = .returned (.bool true) ∧ w = w' := by
  obtain ⟨c0, c1, c2, c3⟩ := blk4 h.blk
  have hn : ((s.fault : Int) != 0) = true := by rw [bne_iff_ne]; omega
  clear hf h
  go_enter Try.func77, Try.ntmps77
  go_wp2
  go_ret
  exact ⟨rfl, rfl⟩
set_option maxRecDepth 100000 in
set_option maxHeartbeats 400000 in
theorem vdead_nil (w : World) : Calls Try.prog 77 #[.pointer none] w fun e w' => e = .returned (.bool true) ∧ w = w' := by
  go_enter Try.func77, Try.ntmps77
  go_wp2
  go_ret
  exact ⟨rfl, rfl⟩

set_option maxRecDepth 100000 in
set_option maxHeartbeats 400000 in
theorem vform_any (n : Nat) (w : World) (hn : n < 18446744073709551616) :
    Calls Try.prog 57 #[.int .u64 n] w fun e w' => ∃ a cap, e = .returned (.slice a (form n).length cap) ∧ w'.ownsRow w.heap.size 5 1 (.slice a (form n).length cap) (form n).length (u8s (form n)) ∧ Kept [] w w' := by
  obtain ⟨i0, hi, hz0, hz1, hz2⟩ := info_parts Try.info5
  have HI := hide (⟨hi, hz0, hz1, hz2⟩ : _ ∧ _ ∧ _ ∧ _)
  have hlen := form_le10 n hn
  clear hi hz0 hz1 hz2
  go_enter Try.func57, Try.ntmps57
  go_wp2
  go_loopw [0, 3] (fun m v wr => ∃ (x : Nat) (pre : List Nat), m = .int .u64 x ∧ x ≤ n ∧ Hid (form n = pre ++ form x) ∧ Hid (wr.ownsRow w.heap.size 5 1 v pre.length (u8s pre) ∧ Kept [] w wr)) (fun m _ _ => (intOf m).toNat)
  case atStart => exact ⟨n, [], rfl, Nat.le_refl _, hide rfl, hide ⟨World.ownsRow_nil _ _ _ _, Kept.refl _ _⟩⟩
  case round =>
    obtain ⟨x, pre, rfl, hx, HP, HO⟩ := hrel
    have hpl : pre.length ≤ 10 := by have := congrArg List.length (unhide HP); simp at this; omega
    have HS := hide (unhide HO).2.size
    obtain ⟨va, vc, hv⟩ := own_len (unhide HO).1
    subst hv
    by_cases hb : x < 128
    · have t1 : ((128 : Int) ≤ (x : Int)) = False := by simp; omega
      have hw1 : IntKind.u8.wrap (x : Int) = (x : Int) := by rw [IntKind.wrap_u8]; omega
      have HF : Hid (form n = pre ++ [x]) := by unfold Hid; rw [unhide HP, form_small hb]
      go_wp2_with (at_builtin; refine wpList_append_sees _ rfl _ _ 22 rfl w.heap.size 5 i0 (.int .u8 0) Try.underlying22 (unhide HI).1 (unhide HI).2.1 (unhide HI).2.2.1 (unhide HI).2.2.2 rfl _ pre rfl ((unhide HO).1.alloc _) _ [x] rfl (news_one _ _) ?c1 ?c2 ?_)
      case c1 => simp; omega
      case c2 => have := unhide HS; simp; omega
      intro v' w1 hown1 hg hat
      obtain ⟨a2, d2, rfl⟩ := own_len hown1
      have HO1 := hide hown1
      have HG := hide hg
      clear hown1 hg hat
      go_wp2
      go_ret
      have e := unhide HF
      refine ⟨a2, d2, ?_, ?_, ?_⟩
      · rw [e]; first | rfl | simp
      · rw [e]; first | exact unhide HO1 | simpa using unhide HO1
      · exact ((unhide HO).2.alloc _).grown (unhide HG) (fun q hq => Or.inr ((unhide HO).1.lt q hq).1)
    · have t1 : ((128 : Int) ≤ (x : Int)) = True := by simp; omega
      have HF : Hid (form n = (pre ++ [x % 128 + 128]) ++ form (x / 128)) := by unfold Hid; rw [unhide HP, form_big (by omega)]; simp
      have hw1 : IntKind.u8.wrap ((x : Int) % 128) = (x : Int) % 128 := by rw [IntKind.wrap_u8]; omega
      have hw2 : IntKind.u8.wrap ((x : Int) % 128 + 128) = ((x % 128 + 128 : Nat) : Int) := by rw [IntKind.wrap_u8]; omega
      go_wp2_with (at_builtin; refine wpList_append_sees _ rfl _ _ 22 rfl w.heap.size 5 i0 (.int .u8 0) Try.underlying22 (unhide HI).1 (unhide HI).2.1 (unhide HI).2.2.1 (unhide HI).2.2.2 rfl _ pre rfl ((unhide HO).1.alloc _) _ [x % 128 + 128] rfl (news_one _ _) ?c1 ?c2 ?_)
      case c1 => simp; omega
      case c2 => have := unhide HS; simp; omega
      intro v' w1 hown1 hg hat
      have HO1 := hide hown1
      have HG := hide hg
      clear hown1 hg hat
      go_wp2
      refine ⟨⟨x / 128, pre ++ [x % 128 + 128], by simp, by omega, hide (unhide HF), hide ⟨?_, ?_⟩⟩, by simp [intOf]; omega⟩
      · first | exact unhide HO1 | simpa using unhide HO1
      · exact ((unhide HO).2.alloc _).grown (unhide HG) (fun q hq => Or.inr ((unhide HO).1.lt q hq).1)

end Go.Proofs.Ytocmgfmfalaebaa

/- The document's writer: a piece is laid down. -/
namespace Go.Proofs.Ytocmgfmfalaebaa
open Go.RowKit

/-- In w the document's writer at block c is in the state s (behind a fault whatever its bytes are); F: its blocks. -/
def Vs (w : World) (c : Nat) (F : List Nat) (s : WS) : Prop := ∃ s0 v sv, Vr w c s0 v sv ∧ F = foot c v sv ∧ s0.fault = s.fault ∧ (s.fault = 0 → s0 = s)
def VsP (w : World) (c : Nat) (F : List Nat) (s' : WS) (w' : World) : Prop := ∃ F', Vs w' c F' s' ∧ Kept F w w' ∧ ∀ x ∈ F', x ∈ F ∨ w.heap.size ≤ x
theorem Vs.lt {w : World} {c : Nat} {F : List Nat} {s : WS} (h : Vs w c F s) : ∀ x ∈ F, x < w.heap.size := by
  obtain ⟨s0, v, sv, h1, rfl, _⟩ := h; exact vfoot_lt h1
theorem Vs.kept {G : List Nat} {w w' : World} {c : Nat} {F : List Nat} {s : WS} (h : Vs w c F s) (k : Kept G w w') (hF : ∀ x ∈ F, x ∉ G) : Vs w' c F s := by
  obtain ⟨s0, v, sv, h1, rfl, h2⟩ := h; exact ⟨s0, v, sv, h1.kept k hF, rfl, h2⟩
theorem VsP.same {w w' : World} {c : Nat} {F : List Nat} {s : WS} (h : Vs w c F s) (k : Kept [] w w') : VsP w c F s w' := ⟨F, h.kept k (by simp), k.mono (by simp), fun _ hx => Or.inl hx⟩
theorem VsP.from {w W w' : World} {c : Nat} {F : List Nat} {s' : WS} (k : Kept [] w W) (h : VsP W c F s' w') : VsP w c F s' w' := by
  obtain ⟨F', h1, h2, h3⟩ := h
  refine ⟨F', h1, (k.mono (by simp)).trans h2 (fun x hx => Or.inl hx), fun x hx => ?_⟩
  rcases h3 x hx with h | h
  · exact Or.inl h
  · right; have := k.size; omega
theorem VsP.err {w w' : World} {c : Nat} {v sv : Value} {s0 : WS} {f : Nat} (hf : f ≠ 0) (h : Vr w' c { s0 with fault := f } v sv) (k : Kept [c] w w') : VsP w c (foot c v sv) (failWS f) w' :=
  ⟨foot c v sv, ⟨_, v, sv, h, rfl, rfl, fun h0 => absurd h0 hf⟩, k.mono (fun x hx => Or.inl (by simp at hx; subst hx; simp [foot])), fun _ hx => Or.inl hx⟩
theorem Vs.open {w : World} {c : Nat} {F : List Nat} {s : WS} (h : Vs w c F s) (hf : s.fault = 0) : ∃ v sv, Vr w c s v sv ∧ F = foot c v sv := by
  obtain ⟨s0, v, sv, h1, h2, _, h4⟩ := h
  obtain rfl := h4 hf
  exact ⟨v, sv, h1, h2⟩
theorem Vs.dead {w : World} {c : Nat} {F : List Nat} {s : WS} (h : Vs w c F s) (hf : s.fault ≠ 0) :
    Calls Try.prog 77 #[.pointer (some ⟨c, 0, none⟩)] w fun e w' => e = .returned (.bool true) ∧ w = w' := by
  obtain ⟨s0, v, sv, h1, _, h3, _⟩ := h
  exact vdead_yes h1 (by rw [h3]; exact hf)

set_option maxRecDepth 100000 in
set_option maxHeartbeats 1000000 in
theorem vlay_any {w : World} {c : Nat} {F : List Nat} {s : WS} (h : Vs w c F s) (ref : Bool) (pv : Value) (ps : List Nat) (hp : Far w pv ps F) (hl : s.bs.length + ps.length ≤ 70368744177664) :
    Calls Try.prog 56 #[.pointer (some ⟨c, 0, none⟩), .bool ref, pv] w fun e w' => e = .returned (.tuple #[]) ∧ VsP w c F (if ref then wFail s 2 else wLay s ps) w' := by
  by_cases hf : s.fault = 0
  · obtain ⟨v, sv, h1, rfl⟩ := h.open hf
    have HD := hide (vdead_no h1 hf)
    have HH := hide h1
    obtain ⟨c0, c1, c2, c3⟩ := blk4 h1.blk
    have f3 := h1.blk.frozen 3
    rw [hf] at c3
    cases ref with
    | true =>
      have hr : (if true = true then wFail s 2 else wLay s ps) = failWS 2 := by rw [if_pos rfl]; unfold wFail; rw [if_neg (by omega)]
      rw [hr]
      clear h h1 hp hl hf hr
      go_enter Try.func56, Try.ntmps56
      go_wp2_with (first | (go_at_call 77; refine (unhide HD).mono ?_; rintro e w1 ⟨rfl, rfl⟩))
      refine bodyPost_ret (results_none rfl _ _ _) rfl ?_
      obtain ⟨q1, q2⟩ := (unhide HH).fail 2 (by omega)
      exact ⟨rfl, VsP.err (by omega) q1 q2⟩
    | false =>
      have hr : (if false = true then wFail s 2 else wLay s ps) = wLay s ps := by simp
      rw [hr]
      clear hr
      have HP := hide hp
      obtain ⟨pa, pc, rfl⟩ := wide_len (hp.wide (Kept.refl _ _))
      obtain ⟨va, vc, rfl⟩ := own_len h1.own
      have hbb := h1.bbs
      have hrm := h1.broom
      obtain ⟨n, hn⟩ : ∃ n, ps.length = n := ⟨_, rfl⟩
      obtain ⟨B, hB⟩ : ∃ B, s.bs.length = B := ⟨_, rfl⟩
      obtain ⟨R, hR⟩ : ∃ R, s.room = R := ⟨_, rfl⟩
      have HN := hide hn
      have HB := hide hB
      have HRM := hide hR
      rw [hn, hB] at hl
      rw [hB] at c1 hbb
      rw [hR] at c0 hrm
      by_cases hroom : B + n ≤ R
      · have HWL : Hid (wLay s ps = { s with bs := s.bs ++ ps }) := by unfold Hid wLay; rw [if_neg (by omega), if_pos (by omega)]
        have t1 : ((R : Int) - (B : Int) < (n : Int)) = False := by simp; omega
        have HF0 := hide hf
        rw [hn]
        clear h h1 hp hf hB hR hn
        go_enter Try.func56, Try.ntmps56
        go_wp2_with (first | (go_at_call 77; refine (unhide HD).mono ?_; rintro e w1 ⟨rfl, rfl⟩))
        go_quiet (fail)
        go_wp2
        go_loopw [6] (fun i wr => ∃ (k : Nat) (a : Option Addr) (cap : Nat), k ≤ n ∧ i = .int .i64 (k : Int) ∧ Hid (Vr wr c { s with bs := s.bs ++ ps.take k } (.slice a (B + k) cap) sv ∧ Kept (foot c (.slice va B vc) sv) w wr ∧ ∀ x, x ∈ foot c (.slice a (B + k) cap) sv → x ∈ foot c (.slice va B vc) sv ∨ w.heap.size ≤ x)) (fun i _ => n - (intOf i).toNat)
        case atStart =>
          refine ⟨0, va, vc, by omega, rfl, hide ⟨?_, ?_, fun x hx => Or.inl hx⟩⟩
          · have h2 := (unhide HH)
            rw [unhide HB] at h2
            simpa using h2.kept ((Kept.refl [] w).drewN _) (by simp)
          · exact (Kept.refl _ _).drewN _
        case round =>
          obtain ⟨k, a, cap, hk, rfl, HR⟩ := hrel
          obtain ⟨hv, hkp, hft⟩ := unhide HR
          by_cases hlt : k < n
          · have hi : k < ps.length := by rw [unhide HN]; exact hlt
            have hWd := (unhide HP).wide (w' := wr) (by rw [unhide HB]; exact hkp)
            rw [unhide HN] at hWd
            obtain ⟨xb, xo, hpa, cx⟩ := hWd.at k hi
            subst hpa
            obtain ⟨e0, e1, e2, e3⟩ := blk4 hv.blk
            have hbk : s.bs.length + k = B + k := by rw [unhide HB]
            have hlen : (s.bs ++ ps.take k).length = B + k := by rw [List.length_append, unhide HB, List.length_take]; omega
            have hown := hv.own
            rw [show ({ s with bs := s.bs ++ ps.take k } : WS).bs.length = B + k from hlen] at hown
            obtain ⟨a2, d2, w2, hap, ho2, hk2, hat2⟩ := app_byteK hown hlen (ps.getD k 0) (by omega) (Nat.zero_le _) 22
            have HT : Hid ((s.bs ++ ps.take k) ++ [ps.getD k 0] = s.bs ++ ps.take (k + 1)) := by unfold Hid; rw [List.append_assoc, take_snoc ps k hi]
            generalize ps.getD k 0 = y at *
            have HAP := hide hap
            have HAP2 : Hid ((Builtin.append_ #[22, 22] 22 #[.slice a (B + k) cap, .slice (some ⟨wr.heap.size, 0, none⟩) 1 1]).run Try.prog (wr.drew.alloc (.cells #[.int .u8 (y : Int)] 5)) = .ok (.slice a2 (B + k + 1) d2) w2) := hap
            have hcA : (wr.alloc (.cells #[.int .u8 (y : Int)] 5)).cell? ⟨c, 1, none⟩ = some (.slice a (B + k) cap) := (blk4 (hv.blk.alloc _)).2.1
            have hb2 := hv.blk.kept hk2 (fun hm => hv.n1 (Option.mem_toList.1 hm))
            have g1 : w2.cell? ⟨c, 1, none⟩ = some (.slice a (B + k) cap) := (blk4 hb2).2.1
            have f1 := hb2.frozen 1
            have hl2 : (s.bs ++ ps.take (k + 1)).length = B + k + 1 := by rw [← unhide HT, List.length_append, hlen]; rfl
            have hfin := Vr.bytes hv (s.bs ++ ps.take (k + 1)) (w1 := w2) (v' := .slice a2 (B + k + 1) d2) (by rw [hl2, ← unhide HT]; exact ho2) hk2 hat2 (by rw [hl2]; omega)
            have HFIN := hide hfin
            have HKP := hide hkp
            have HFT := hide hft
            have hw7 : IntKind.i64.wrap ((k : Int) + 1) = (k : Int) + 1 := by rw [IntKind.wrap_i64]; omega
            have hm63 : n ≤ 9223372036854775807 := by omega
            have hBk : B + k + 1 ≤ 70368744177664 := by omega
            clear hap ho2 hk2 hat2 hlen hown hbk hb2 hl2 hfin hv hkp hft HR hi hWd c0 c1 c2 c3 f3
            go_upto_region 8 with fail
            go_region_law (first | (refine step_append_runE (by rfl) _ _ 22 22 (by rfl) _ _ (by rfl) (by rfl) (unhide HAP) ?_) | (refine step_append_runE (by rfl) _ _ 22 22 (by rfl) _ _ (by rfl) (by rfl) (unhide HAP2) ?_))
            all_goals
              clear e0 e1 e2 e3 cx HAP HAP2 hcA g1 f1
              go_wp2
              obtain ⟨q1, q2, q3⟩ := unhide HFIN
              refine ⟨⟨k + 1, a2, d2, by omega, by go_num, hide ⟨q1, (unhide HKP).trans q2 (fun x hx => unhide HFT x hx), fun x hx => ?_⟩⟩, by simp [intOf]; omega⟩
              rcases q3 x hx with h4 | h4
              · exact unhide HFT x h4
              · right; have := (unhide HKP).size; omega
          · obtain rfl : k = n := by omega
            clear hv hkp hft c0 c1 c2 c3 f3
            go_wp2
            go_end0
            obtain ⟨hv, hkp, hft⟩ := unhide HR
            have e : ps.take k = ps := List.take_of_length_le (by rw [unhide HN]; exact Nat.le_refl _)
            rw [e] at hv
            rw [unhide HWL]
            refine ⟨rfl, foot c (.slice a (B + k) cap) sv, ⟨_, _, _, hv, rfl, rfl, fun _ => rfl⟩, ?_, fun x hx => ?_⟩
            · rw [unhide HB]; exact hkp
            · rw [unhide HB]; exact hft x hx
      · have HWL : Hid (wLay s ps = failWS 13) := by unfold Hid wLay; rw [if_neg (by omega), if_neg (by omega)]
        have t1 : ((R : Int) - (B : Int) < (n : Int)) = True := by simp; omega
        rw [hn]
        clear h h1 hp hf hB hR hn
        go_enter Try.func56, Try.ntmps56
        go_wp2_with (first | (go_at_call 77; refine (unhide HD).mono ?_; rintro e w1 ⟨rfl, rfl⟩))
        go_quiet (fail)
        go_wp2
        refine bodyPost_ret (results_none rfl _ _ _) rfl ?_
        obtain ⟨q1, q2⟩ := ((unhide HH).kept ((Kept.refl [] w).drewN _) (by simp)).fail 13 (by omega)
        rw [unhide HWL]
        exact ⟨rfl, VsP.err (by omega) q1 ((((Kept.refl [] w).drewN _).mono (by simp)).trans q2 (fun y hy => Or.inl hy))⟩
  · have HD := hide (h.dead hf)
    have HH := hide h
    have hr : (if ref then wFail s 2 else wLay s ps) = s := by
      cases ref
      · simp [wLay, hf]
      · simp [wFail, hf]
    rw [hr]
    obtain ⟨pa, pc, rfl⟩ := wide_len (hp.wide (Kept.refl _ _))
    clear hr h hf hp
    go_enter Try.func56, Try.ntmps56
    go_wp2_with (first | (go_at_call 77; refine (unhide HD).mono ?_; rintro e w1 ⟨rfl, rfl⟩))
    refine bodyPost_ret (results_none rfl _ _ _) rfl ?_
    exact ⟨rfl, VsP.same (unhide HH) (Kept.refl _ _)⟩
end Go.Proofs.Ytocmgfmfalaebaa

/- The document's writer: what lays a piece down. -/
namespace Go.Proofs.Ytocmgfmfalaebaa
open Go.RowKit

/-- What is new lies apart. -/
theorem far_new {w w1 : World} {v : Value} {bs F : List Nat} (hF : ∀ x ∈ F, x < w.heap.size) (h : Sees w1 v bs) (hn : ∀ k, v.ownBlock = some k → w.heap.size ≤ k) : Far w1 v bs F :=
  Or.inl ⟨h, fun k hk hm => by have := hF k hm; have := hn k hk; omega⟩
theorem far_own {w w1 : World} {a : Option Addr} {n cap : Nat} {bs F : List Nat} (hF : ∀ x ∈ F, x < w.heap.size) (hn : bs.length = n) (h : w1.ownsRow w.heap.size 5 1 (.slice a n cap) n (u8s bs)) : Far w1 (.slice a n cap) bs F :=
  far_new hF (sees_own hn h) (fun k hk => (h.lt k hk).1)
theorem le_be8 (m : Nat) (h : m < 18446744073709551616) : (le m 8).reverse = be8 m := by
  simp only [le, be8]
  simp
  omega

set_option maxRecDepth 100000 in
set_option maxHeartbeats 1000000 in
theorem vbyte_s {w : World} {c : Nat} {F : List Nat} {s : WS} (h : Vs w c F s) (n : Int) (hl : s.bs.length ≤ 1000000000000) :
    Calls Try.prog 40 #[.pointer (some ⟨c, 0, none⟩), .int .i64 n] w fun e w' => e = .returned (.tuple #[]) ∧ VsP w c F (if n < 0 ∨ 255 < n then wFail s 2 else wLay s [n.toNat]) w' := by
  have HK : Hid (Kept [] w (w.alloc (.cells #[.int .u8 (IntKind.u8.wrap n)] 5))) := (Kept.refl [] w).alloc _
  have hu8 : IntKind.u8.wrap n = ((IntKind.u8.wrap n).toNat : Int) := by rw [IntKind.wrap_u8]; omega
  obtain ⟨y, hy⟩ : ∃ y : Nat, (IntKind.u8.wrap n).toNat = y := ⟨_, rfl⟩
  rw [hy] at hu8
  have hyn : ¬ (n < 0 ∨ 255 < n) → y = n.toNat := by rw [← hy, IntKind.wrap_u8]; omega
  rw [hu8] at HK
  have HV := hide (h.kept (unhide HK) (by simp))
  have HFAR : Hid (Far (w.alloc (.cells #[.int .u8 (y : Int)] 5)) (.slice (some ⟨w.heap.size, 0, none⟩) 1 1) [y] F) := far_new h.lt (news_one w y) (fun k hk => by have e0 : (some w.heap.size : Option Nat) = some k := hk; simp at e0; omega)
  have HBL : Hid (s.bs.length + [y].length ≤ 70368744177664) := by unfold Hid; simp; omega
  have HYN := hide hyn
  clear h hl hy hyn
  by_cases ha : n < 0 ∨ 255 < n
  · rw [if_pos ha]
    by_cases hs1 : n < 0
    · have b1 : decide (n < 0) = true := by simpa using hs1
      clear ha hs1
      go_enter Try.func40, Try.ntmps40
      go_wp2_with (first | (go_at_call 56; refine (vlay_any (unhide HV) true _ _ (unhide HFAR) (unhide HBL)).mono ?_; rintro e w2 ⟨rfl, hp⟩; have HP := hide hp; clear hp))
      go_end0
      exact ⟨rfl, (unhide HP).from (unhide HK)⟩
    · have b1 : decide (n < 0) = false := by simpa using hs1
      have b2 : decide (255 < n) = true := by simp; omega
      clear ha hs1
      go_enter Try.func40, Try.ntmps40
      go_wp2_with (first | (go_at_call 56; refine (vlay_any (unhide HV) true _ _ (unhide HFAR) (unhide HBL)).mono ?_; rintro e w2 ⟨rfl, hp⟩; have HP := hide hp; clear hp))
      go_end0
      exact ⟨rfl, (unhide HP).from (unhide HK)⟩
  · rw [if_neg ha, ← unhide HYN ha]
    have b1 : decide (n < 0) = false := by simp; omega
    have b2 : decide (255 < n) = false := by simp; omega
    clear ha
    go_enter Try.func40, Try.ntmps40
    go_wp2_with (first | (go_at_call 56; refine (vlay_any (unhide HV) false _ _ (unhide HFAR) (unhide HBL)).mono ?_; rintro e w2 ⟨rfl, hp⟩; have HP := hide hp; clear hp))
    go_end0
    exact ⟨rfl, (unhide HP).from (unhide HK)⟩

set_option maxRecDepth 100000 in
set_option maxHeartbeats 1000000 in
theorem vnum_s {w : World} {c : Nat} {F : List Nat} {s : WS} (h : Vs w c F s) (n : Nat) (hn : n < 18446744073709551616) (hl : s.bs.length ≤ 1000000000000) :
    Calls Try.prog 41 #[.pointer (some ⟨c, 0, none⟩), .int .u64 n] w fun e w' => e = .returned (.tuple #[]) ∧ VsP w c F (wLay s (form n)) w' := by
  have HC := hide (vform_any n w hn)
  have HV := hide h
  have HLT := hide h.lt
  have HBL : Hid (s.bs.length + (form n).length ≤ 70368744177664) := by unfold Hid; have := form_le10 n hn; omega
  clear h hl hn
  go_enter Try.func41, Try.ntmps41
  go_wp2_with (first | (go_at_call 57; refine (unhide HC).mono ?_; rintro e w1 ⟨a1, c1, rfl, ho, hk⟩; have HFAR := hide (far_own (unhide HLT) rfl ho); have HV1 := hide ((unhide HV).kept hk (by simp)); have HK := hide hk; clear ho hk HC) | (go_at_call 56; refine (vlay_any (unhide HV1) false _ _ (unhide HFAR) (unhide HBL)).mono ?_; rintro e w2 ⟨rfl, hp⟩; have HP := hide hp; clear hp))
  go_end0
  exact ⟨rfl, (unhide HP).from (unhide HK)⟩

set_option maxRecDepth 100000 in
set_option maxHeartbeats 1000000 in
theorem vtext_s {w : World} {c : Nat} {F : List Nat} {s : WS} (h : Vs w c F s) (pv : Value) (ps : List Nat) (hp : Far w pv ps F) (hl : s.bs.length + ps.length ≤ 35184372088832) :
    Calls Try.prog 42 #[.pointer (some ⟨c, 0, none⟩), pv] w fun e w' => e = .returned (.tuple #[]) ∧ VsP w c F (wLay s (form ps.length ++ ps)) w' := by
  obtain ⟨i0, hi, hz0, hz1, hz2⟩ := info_parts Try.info5
  have HI := hide (⟨hi, hz0, hz1, hz2⟩ : _ ∧ _ ∧ _ ∧ _)
  obtain ⟨pa, pc, rfl⟩ := wide_len (hp.wide (Kept.refl _ _))
  have HPF := hide hp
  obtain ⟨n, hn⟩ : ∃ n, ps.length = n := ⟨_, rfl⟩
  have HN := hide hn
  rw [hn] at hl HPF ⊢
  have hn64 : n < 18446744073709551616 := by omega
  have hf10 := form_le10 n hn64
  have HC := hide (vform_any n w hn64)
  have HV := hide h
  have HLT := hide h.lt
  obtain ⟨FL, hFL⟩ : ∃ FL, (form n).length = FL := ⟨_, rfl⟩
  have HFL := hide hFL
  rw [hFL] at HC hf10
  have HHL := hide hl
  have hn63 : n ≤ 9223372036854775807 := by omega
  have hwn : IntKind.u64.wrap (n : Int) = (n : Int) := by rw [IntKind.wrap_u64]; omega
  clear h hp hi hz0 hz1 hz2 hn hFL
  go_enter Try.func42, Try.ntmps42
  go_wp2_with (first | (go_at_call 57; refine (unhide HC).mono ?_; rintro e w1 ⟨a1, c1, rfl, ho, hk⟩; have HO := hide ho; have HK := hide hk; clear ho hk HC))
  go_loopw [4, 5] (fun v i wr => ∃ (k : Nat) (a : Option Addr) (cap : Nat), k ≤ n ∧ i = .int .i64 (k : Int) ∧ v = .slice a (FL + k) cap ∧ Hid (wr.ownsRow w.heap.size 5 1 (.slice a (FL + k) cap) (FL + k) (u8s (form n ++ ps.take k)) ∧ Kept [] w wr)) (fun _ i _ => n - (intOf i).toNat)
  case atStart => exact ⟨0, a1, c1, by omega, rfl, rfl, hide ⟨by simpa using unhide HO, unhide HK⟩⟩
  case round =>
    obtain ⟨k, a, cap, hk, rfl, rfl, HR⟩ := hrel
    by_cases hlt : k < n
    · have hi : k < ps.length := by rw [unhide HN]; exact hlt
      have hW := (unhide HPF).keep (unhide HR).2
      have hWd := hW.wide (Kept.refl _ _)
      obtain ⟨xb, xo, hpa, cx⟩ := hWd.at k hi
      subst hpa
      have hlen : (form n ++ ps.take k).length = FL + k := by rw [List.length_append, unhide HFL, List.length_take]; omega
      have HT : Hid ((form n ++ ps.take k) ++ [ps.getD k 0] = form n ++ ps.take (k + 1)) := by unfold Hid; rw [List.append_assoc, take_snoc ps k hi]
      generalize ps.getD k 0 = y at *
      have HLN := hide hlen
      have HO2 : Hid ((wr.alloc (.cells #[.int .u8 (y : Int)] 5)).ownsRow w.heap.size 5 1 (.slice a (FL + k) cap) (form n ++ ps.take k).length (u8s (form n ++ ps.take k))) := by unfold Hid; rw [hlen]; exact (unhide HR).1.alloc _
      have HS := hide (unhide HR).2.size
      have hFk : FL + k + 1 ≤ 35184372088843 := by omega
      clear hlen hi hW hWd
      go_wp2_with (at_builtin; refine wpList_append_sees _ rfl _ _ 22 rfl w.heap.size 5 i0 (.int .u8 0) Try.underlying22 (unhide HI).1 (unhide HI).2.1 (unhide HI).2.2.1 (unhide HI).2.2.2 rfl _ (form n ++ ps.take k) rfl (unhide HO2) _ [y] rfl (news_one _ _) ?c1 ?c2 ?_)
      case c1 => rw [unhide HLN]; simp; omega
      case c2 => have := unhide HS; simp; omega
      intro v' w2 hown1 hg hat
      have hl2 : ((form n ++ ps.take k) ++ [y]).length = FL + k + 1 := by rw [List.length_append, unhide HLN]; rfl
      have hown2 : w2.ownsRow w.heap.size 5 1 v' (FL + k + 1) (u8s (form n ++ ps.take k ++ [y])) := by rw [← hl2]; simpa using hown1
      obtain ⟨a2, d2, rfl⟩ := own_len hown2
      have HO1 := hide hown2
      have HG := hide hg
      clear hown1 hown2 hg hat hl2
      go_wp2
      refine ⟨⟨k + 1, a2, d2, by omega, by go_num, rfl, hide ⟨?_, ?_⟩⟩, by simp [intOf]; omega⟩
      · rw [← unhide HT]; exact unhide HO1
      · exact ((unhide HR).2.alloc _).grown (unhide HG) (fun q hq => Or.inr ((unhide HR).1.lt q hq).1)
    · obtain rfl : k = n := by omega
      have e : ps.take k = ps := List.take_of_length_le (by rw [unhide HN]; exact Nat.le_refl _)
      have hlen : (form k ++ ps).length = FL + k := by rw [List.length_append, unhide HFL, unhide HN]
      rw [e] at HR
      have HFAR := hide (far_own (unhide HLT) hlen (unhide HR).1)
      have HV1 := hide ((unhide HV).kept (unhide HR).2 (by simp))
      have HBL : Hid (s.bs.length + (form k ++ ps).length ≤ 70368744177664) := by unfold Hid; rw [hlen]; have := unhide HHL; omega
      clear e hlen
      go_wp2_with (first | (go_at_call 56; refine (vlay_any (unhide HV1) false _ _ (unhide HFAR) (unhide HBL)).mono ?_; rintro e w2 ⟨rfl, hp⟩; have HP := hide hp; clear hp))
      go_end0
      exact ⟨rfl, (unhide HP).from (unhide HR).2⟩

end Go.Proofs.Ytocmgfmfalaebaa

/- The document's writer: frames, what is told, what is made. -/
namespace Go.Proofs.Ytocmgfmfalaebaa
open Go.RowKit

/-- What a writer tells. -/
def wLen (s : WS) : Nat := if s.fault ≠ 0 then 0 else s.bs.length
def wDone (s : WS) : List Nat × Nat := if s.fault ≠ 0 then ([], s.fault) else if s.sts ≠ [] then ([], 12) else (s.bs, 0)

/-- Bytes and an error that a call answers: new memory. -/
def NewD (w : World) (r : List Nat × Nat) (e : Ending) (w' : World) : Prop := ∃ a cap, e = .returned (.tuple #[.slice a r.1.length cap, .int .i64 (r.2 : Int)]) ∧ w'.ownsRow w.heap.size 5 1 (.slice a r.1.length cap) r.1.length (u8s r.1)
theorem NewD.nil (w w' : World) (c : Nat) : NewD w ([], c) (.returned (.tuple #[.slice none 0 0, .int .i64 (c : Int)])) w' := ⟨none, 0, rfl, rfl, Or.inl ⟨rfl, rfl⟩⟩

set_option maxRecDepth 100000 in
set_option maxHeartbeats 1000000 in
theorem vdone_s {w : World} {c : Nat} {F : List Nat} {s : WS} (h : Vs w c F s) :
    Calls Try.prog 43 #[.pointer (some ⟨c, 0, none⟩)] w fun e w' => NewD w (wDone s) e w' ∧ Kept [] w w' := by
  by_cases hf : s.fault = 0
  · obtain ⟨v, sv, h1, rfl⟩ := h.open hf
    have HH := hide h1
    obtain ⟨c0, c1, c2, c3⟩ := blk4 h1.blk
    obtain ⟨sa, sc, rfl⟩ := own_len h1.sown
    obtain ⟨va, vc, rfl⟩ := own_len h1.own
    rw [hf] at c3
    have hst := h1.bsts
    by_cases hz : s.sts = []
    · have hr : wDone s = (s.bs, 0) := by unfold wDone; rw [if_neg (by omega), if_neg (by simpa using hz)]
      rw [hr]
      have hz0 : s.sts.length = 0 := by rw [hz]; rfl
      rw [hz0] at c2
      obtain ⟨i0, hi, hz0', hz1, hz2⟩ := info_parts Try.info5
      have HI := hide (⟨hi, hz0', hz1, hz2⟩ : _ ∧ _ ∧ _ ∧ _)
      obtain ⟨B, hB⟩ : ∃ B, s.bs.length = B := ⟨_, rfl⟩
      have HB := hide hB
      have hbb := h1.bbs
      rw [hB] at c1 hbb
      have HSEE := hide (Sees.of_own h1.own)
      clear h h1 hf hr hz hz0 hst hi hz0' hz1 hz2 hB
      go_enter Try.func43, Try.ntmps43
      go_wp2
      go_loopw [4, 5] (fun v i wr => ∃ (k : Nat) (a : Option Addr) (cap : Nat), k ≤ B ∧ i = .int .i64 (k : Int) ∧ v = .slice a k cap ∧ Hid (wr.ownsRow w.heap.size 5 1 (.slice a k cap) k (u8s (s.bs.take k)) ∧ Kept [] w wr)) (fun _ i _ => B - (intOf i).toNat)
      case atStart => exact ⟨0, none, 0, by omega, rfl, rfl, hide ⟨World.ownsRow_nil _ _ _ _, Kept.refl _ _⟩⟩
      case round =>
        obtain ⟨k, a, cap, hk, rfl, rfl, HR⟩ := hrel
        obtain ⟨e0, e1, e2, e3⟩ := blk4 ((unhide HH).kept (unhide HR).2 (by simp)).blk
        rw [unhide HB] at e1
        by_cases hlt : k < B
        · have hik : k < s.bs.length := by rw [unhide HB]; exact hlt
          obtain ⟨xb, xo, xc, hv, hx1, hx2, cx⟩ := ((unhide HSEE).kept (unhide HR).2 (by simp)).spot hik
          rw [unhide HB] at hv hx1
          cases hv
          have hlen : (s.bs.take k).length = k := by rw [List.length_take]; omega
          have HT := hide (take_snoc s.bs k hik)
          generalize s.bs.getD k 0 = y at *
          have HLN := hide hlen
          have HO2 : Hid ((wr.alloc (.cells #[.int .u8 (y : Int)] 5)).ownsRow w.heap.size 5 1 (.slice a k cap) (s.bs.take k).length (u8s (s.bs.take k))) := by unfold Hid; rw [hlen]; exact (unhide HR).1.alloc _
          have HS := hide (unhide HR).2.size
          have hB63 : B ≤ 9223372036854775807 := by omega
          clear hlen hik hx1 hx2 c0 c1 c2 c3
          go_wp2_with (at_builtin; refine wpList_append_sees _ rfl _ _ 22 rfl w.heap.size 5 i0 (.int .u8 0) Try.underlying22 (unhide HI).1 (unhide HI).2.1 (unhide HI).2.2.1 (unhide HI).2.2.2 rfl _ (s.bs.take k) rfl (unhide HO2) _ [y] rfl (news_one _ _) ?c1 ?c2 ?_)
          case c1 => rw [unhide HLN]; simp; omega
          case c2 => have := unhide HS; simp; omega
          intro v' w2 hown1 hg hat
          have hl2 : (s.bs.take k ++ [y]).length = k + 1 := by rw [List.length_append, unhide HLN]; rfl
          have hown2 : w2.ownsRow w.heap.size 5 1 v' (k + 1) (u8s (s.bs.take k ++ [y])) := by
            have h3 := hown1
            rw [← hl2]
            first | exact h3 | simpa using h3
          obtain ⟨a2, d2, rfl⟩ := own_len hown2
          have HO1 := hide hown2
          have HG := hide hg
          clear hown1 hown2 hg hat hl2
          go_wp2
          refine ⟨⟨k + 1, a2, d2, by omega, by go_num, rfl, hide ⟨?_, ?_⟩⟩, by simp [intOf]; omega⟩
          · rw [← unhide HT]; exact unhide HO1
          · exact ((unhide HR).2.alloc _).grown (unhide HG) (fun q hq => Or.inr ((unhide HR).1.lt q hq).1)
        · obtain rfl : k = B := by omega
          clear c0 c1 c2 c3
          go_wp2
          go_ret2
          have e : s.bs.take k = s.bs := List.take_of_length_le (by rw [unhide HB]; exact Nat.le_refl _)
          have ho := (unhide HR).1
          rw [e] at ho
          refine ⟨⟨a, cap, ?_, ?_⟩, (unhide HR).2⟩
          · simp only [unhide HB]; rfl
          · simp only [unhide HB]; exact ho
    · have hr : wDone s = ([], 12) := by unfold wDone; rw [if_neg (by omega), if_pos (by simpa using hz)]
      rw [hr]
      have hp := List.length_pos_iff.2 hz
      obtain ⟨EL, hEL⟩ : ∃ EL, s.sts.length = EL := ⟨_, rfl⟩
      rw [hEL] at c2 hp
      have t1 : ((0 : Int) < (EL : Int)) = True := by simp; omega
      clear h h1 hf hr hz hst hEL
      go_enter Try.func43, Try.ntmps43
      go_wp2
      go_ret2
      exact ⟨NewD.nil _ _ _, Kept.refl _ _⟩
  · obtain ⟨s0, v, sv, h1, rfl, h3, _⟩ := h
    have hr : wDone s = ([], s.fault) := by unfold wDone; rw [if_pos hf]
    rw [hr]
    obtain ⟨c0, c1, c2, c3⟩ := blk4 h1.blk
    rw [h3] at c3
    have t1 : ((s.fault : Int) != 0) = true := by rw [bne_iff_ne]; omega
    generalize s.fault = fa at *
    clear hr hf h1 h3
    go_enter Try.func43, Try.ntmps43
    go_wp2
    go_region
    all_goals (go_wp2; go_ret2; exact ⟨NewD.nil _ _ _, ((Kept.refl [] w).drew)⟩)

set_option maxRecDepth 100000 in
set_option maxHeartbeats 400000 in
theorem vnew_any (room : Int) (w : World) (hr : room ≤ 9223372036854775807) :
    Calls Try.prog 39 #[.int .i64 room] w fun e w' => ∃ c, e = .returned (.pointer (some ⟨c, 0, none⟩)) ∧ Vs w' c [c] (newWS room.toNat) ∧ w.heap.size ≤ c ∧ Kept [] w w' := by
  have fin : ∀ R : Nat, R < 9223372036854775808 → Vs (w.alloc (.cells #[.int .i64 (R : Int), .slice none 0 0, .slice none 0 0, .int .i64 0] 87)) w.heap.size [w.heap.size] (newWS R) := by
    intro R hR
    refine ⟨newWS R, .slice none 0 0, .slice none 0 0, ⟨?_, World.ownsRow_nil _ _ _ _, World.ownsRow_nil _ _ _ _, ?_, ?_, ?_, hR, by simp [newWS], by simp [newWS], by simp [newWS]⟩, rfl, rfl, fun _ => rfl⟩
    · exact Blk.new w _ _
    · intro e; cases e
    · intro e; cases e
    · intro k e; cases e
  have HF := hide fin
  clear fin
  by_cases h0 : room < 0
  · have t1 : (room < 0) = True := by simpa using h0
    have e : room.toNat = 0 := by omega
    rw [e]
    clear h0 hr
    go_enter Try.func39, Try.ntmps39
    go_wp2
    go_ret
    exact ⟨w.heap.size, rfl, unhide HF 0 (by omega), Nat.le_refl _, (Kept.refl [] w).alloc _⟩
  · obtain ⟨R, rfl⟩ := Int.eq_ofNat_of_zero_le (show 0 ≤ room by omega)
    have t1 : ((R : Int) < 0) = False := by simp
    show Calls _ _ _ _ fun e w' => ∃ c, e = .returned (.pointer (some ⟨c, 0, none⟩)) ∧ Vs w' c [c] (newWS R) ∧ w.heap.size ≤ c ∧ Kept [] w w'
    have hR9 : R < 9223372036854775808 := by omega
    clear h0 hr
    go_enter Try.func39, Try.ntmps39
    go_wp2
    go_ret
    exact ⟨w.heap.size, rfl, unhide HF R hR9, Nat.le_refl _, (Kept.refl [] w).alloc _⟩
end Go.Proofs.Ytocmgfmfalaebaa
