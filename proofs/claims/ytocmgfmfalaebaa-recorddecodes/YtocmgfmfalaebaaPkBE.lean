/- A text of the base. -/
import Derived.Test.YtocmgfmfalaebaaPkBA
/- The document's reader: its blocks stay within what they were. -/
namespace Go.Proofs.Ytocmgfmfalaebaa
open Go.RowKit

def QsQ (w : World) (c : Nat) (F : List Nat) (s' : RS) (w' : World) : Prop := Qs w' c F s' ∧ Kept F w w'
theorem QsQ.same {w w' : World} {c : Nat} {F : List Nat} {s : RS} (h : Qs w c F s) (k : Kept [] w w') : QsQ w c F s w' := ⟨h.kept k (by simp), k.mono (by simp)⟩
theorem QsQ.err {w w' : World} {c : Nat} {pv ev : Value} {ps : List Nat} {at2 : Nat} {es : List Nat} {cd : Nat} (hc : cd ≠ 0) (h : Qm w' c pv ev ps at2 es cd) (hb : ∀ x ∈ ps, x < 256) (k : Kept [c] w w') : QsQ w c (qfoot c pv ev) (rF cd) w' :=
  ⟨⟨pv, ev, ps, at2, es, h, rfl, hb, fun h0 => absurd h0 hc, fun _ => ⟨rfl, rfl⟩⟩, k.mono (fun x hx => Or.inl (by simp at hx; subst hx; simp [qfoot]))⟩
theorem QsQ.ok {w w' : World} {c : Nat} {pv ev : Value} {ps : List Nat} {at2 : Nat} {es l : List Nat} {bh : List (List Nat)} (h : Qm w' c pv ev ps at2 es 0) (hb : ∀ x ∈ ps, x < 256) (g : Geo ps at2 es l bh) (k : Kept [c] w w') : QsQ w c (qfoot c pv ev) ⟨0, l, bh⟩ w' :=
  ⟨⟨pv, ev, ps, at2, es, h, rfl, hb, fun _ => g, fun h0 => absurd rfl h0⟩, k.mono (fun x hx => Or.inl (by simp at hx; subst hx; simp [qfoot]))⟩
set_option maxRecDepth 100000 in
set_option maxHeartbeats 1000000 in
theorem qbyte_q {w : World} {c : Nat} {F : List Nat} {s : RS} (h : Qs w c F s) :
    Calls Try.prog 33 #[.pointer (some ⟨c, 0, none⟩)] w fun e w' => e = .returned (.int .i64 ((rByte s).2 : Nat)) ∧ QsQ w c F (rByte s).1 w' := by
  by_cases hf : s.fault = 0
  · obtain ⟨pv, ev, ps, at', es, x, h1, rfl, hb, g, hm, hx, hl, hat, hxl, hle⟩ := h.open hf
    have HD := hide (qdead_no h1)
    have HG := hide g
    have HBy := hide hb
    cases hs : s.left with
    | nil =>
      have hr : rByte s = (rF 10, 0) := by unfold rByte; rw [if_neg (by omega), hs]
      have HB := hide (qbytes_short h1 _ x hm hx 1 (by rw [hs] at hl; simp at hl; omega))
      rw [hr]
      clear h h1 g hm hx hl hat hxl hle hb
      clear hr hs hf
      go_enter Try.func33, Try.ntmps33
      go_wp2_with (first | (go_at_call 50; refine (unhide HD).mono ?_; rintro e w1 ⟨rfl, rfl⟩) | (go_at_call 51; refine (unhide HB).mono ?_; rintro e w1 ⟨rfl, hq, hk⟩; have HQ := hide hq; have HK := hide hk; obtain ⟨d0, d1, d2, d3⟩ := blk4 hq.blk; have f3 := hq.blk.frozen 3; clear hq hk HB))
      go_ret
      exact ⟨rfl, QsQ.err (by omega) (unhide HQ) (unhide HBy) (unhide HK)⟩
    | cons y l =>
      have hr : rByte s = (⟨0, l, s.behind⟩, y) := by unfold rByte; rw [if_neg (by omega), hs]
      have HB := hide (qbytes_ok h1 _ x hm hx 1 (by rw [hs] at hl; simp at hl; omega))
      have ht : (ps.drop at').take 1 = [y] := by rw [g.take 1 (by rw [hs]; simp), hs]; rfl
      have hy : y < 256 := hb y (by
        have : y ∈ s.left := by rw [hs]; simp
        rw [hle] at this
        exact List.mem_of_mem_take (List.mem_of_mem_drop this))
      have HG1 : Hid (Geo ps (at' + 1) es l s.behind) := by have := g.go 1 (by rw [hs]; simp); rw [hs] at this; exact this
      rw [ht] at HB
      rw [hr]
      clear h h1 g hm hx hl hat hxl hle hb
      clear hr hs hf ht HG
      go_enter Try.func33, Try.ntmps33
      go_wp2_with (first | (go_at_call 50; refine (unhide HD).mono ?_; rintro e w1 ⟨rfl, rfl⟩) | (go_at_call 51; refine (unhide HB).mono ?_; rintro e w1 ⟨a1, cap1, rfl, ho, hq, hk⟩; obtain ⟨g1, hga, hc1, hc2, cx⟩ := own1 ho; subst hga; have HQ := hide hq; have HK := hide hk; obtain ⟨d0, d1, d2, d3⟩ := blk4 hq.blk; clear ho hq hk HB))
      go_ret
      exact ⟨rfl, QsQ.ok (unhide HQ) (unhide HBy) (unhide HG1) (unhide HK)⟩
  · have HD := hide (h.dead hf)
    have HH := hide h
    have hr : rByte s = (s, 0) := by unfold rByte; rw [if_pos hf]
    rw [hr]
    clear hr h hf
    go_enter Try.func33, Try.ntmps33
    go_wp2_with (first | (go_at_call 50; refine (unhide HD).mono ?_; rintro e w1 ⟨rfl, rfl⟩))
    go_ret
    exact ⟨rfl, QsQ.same (unhide HH) (Kept.refl _ _)⟩


set_option maxRecDepth 100000 in
set_option maxHeartbeats 1000000 in
theorem qnum_q {w : World} {c : Nat} {F : List Nat} {s : RS} (h : Qs w c F s) :
    Calls Try.prog 34 #[.pointer (some ⟨c, 0, none⟩)] w fun e w' => e = .returned (.int .u64 ((rNum s).2 : Nat)) ∧ QsQ w c F (rNum s).1 w' := by
  by_cases hf : s.fault = 0
  · obtain ⟨pv, ev, ps, at', es, x, h1, rfl, hb, g, hm, hx, hl, hat, hxl, hle⟩ := h.open hf
    have HD := hide (qdead_no h1)
    have HBy := hide hb
    have HG := hide g
    have HN := hide (qnumber_any h1 _ x hm hx hat hb s.left hle)
    have hlb : ∀ y ∈ s.left, y < 256 := by
      intro y hy
      rw [hle] at hy
      exact hb y (List.mem_of_mem_take (List.mem_of_mem_drop hy))
    cases hrd : readNum 0 0 s.left with
    | inl cd =>
      have hr : rNum s = (rF cd, 0) := by unfold rNum; rw [if_neg (by omega), hrd]
      have HC : Hid (cd ≠ 0) := by rcases readNum_code _ _ _ hrd with rfl | rfl <;> simp [Hid]
      have HRD := hide hrd
      rw [hr]
      clear h h1 g hm hx hl hat hxl hle hb
      clear hr hrd hf hlb
      go_enter Try.func34, Try.ntmps34
      go_wp2_with (first | (go_at_call 50; refine (unhide HD).mono ?_; rintro e w1 ⟨rfl, rfl⟩) | (go_at_call 52; refine (unhide HN).mono ?_; rintro e w1 ⟨-, hq, hk⟩; obtain ⟨rfl, at2, hq⟩ := hq cd (unhide HRD); have HQ := hide hq; have HK := hide hk; obtain ⟨d0, d1, d2, d3⟩ := blk4 hq.blk; clear hq hk HN))
      go_ret
      exact ⟨rfl, QsQ.err (unhide HC) (unhide HQ) (unhide HBy) (unhide HK)⟩
    | inr p =>
      obtain ⟨n, r⟩ := p
      have hr : rNum s = (⟨0, r, s.behind⟩, n) := by unfold rNum; rw [if_neg (by omega), hrd]
      have HRD := hide hrd
      rw [hr]
      clear h h1 g hm hx hl hat hxl hle hb
      clear hr hrd hf hlb
      go_enter Try.func34, Try.ntmps34
      go_wp2_with (first | (go_at_call 50; refine (unhide HD).mono ?_; rintro e w1 ⟨rfl, rfl⟩) | (go_at_call 52; refine (unhide HN).mono ?_; rintro e w1 ⟨hq, -, hk⟩; obtain ⟨rfl, k, hkl, hrk, hq⟩ := hq n r (unhide HRD); have HQ := hide hq; have HK := hide hk; have HKL := hide hkl; have HRK := hide hrk; obtain ⟨d0, d1, d2, d3⟩ := blk4 hq.blk; have f3 := hq.blk.frozen 3; clear hq hk HN hkl hrk))
      go_ret
      refine ⟨rfl, QsQ.ok (unhide HQ) (unhide HBy) ?_ (unhide HK)⟩
      rw [unhide HRK]
      exact (unhide HG).go _ (unhide HKL)
  · have HD := hide (h.dead hf)
    have HH := hide h
    have hr : rNum s = (s, 0) := by unfold rNum; rw [if_pos hf]
    rw [hr]
    clear hr h hf
    go_enter Try.func34, Try.ntmps34
    go_wp2_with (first | (go_at_call 50; refine (unhide HD).mono ?_; rintro e w1 ⟨rfl, rfl⟩))
    go_ret
    exact ⟨rfl, QsQ.same (unhide HH) (Kept.refl _ _)⟩


set_option maxRecDepth 100000 in
set_option maxHeartbeats 1000000 in
theorem qtext_q {w : World} {c : Nat} {F : List Nat} {s : RS} (h : Qs w c F s) (most : Int) (hm9 : most ≤ 9223372036854775807) :
    Calls Try.prog 35 #[.pointer (some ⟨c, 0, none⟩), .int .i64 most] w fun e w' => NewB w (rText s most).2 e w' ∧ QsQ w c F (rText s most).1 w' := by
  by_cases hf : s.fault = 0
  · obtain ⟨pv, ev, ps, at', es, x, h1, rfl, hb, g, hm, hx, hl, hat, hxl, hle⟩ := h.open hf
    have HD := hide (qdead_no h1)
    have HBy := hide hb
    have HG := hide g
    have HN := hide (qnumber_any h1 _ x hm hx hat hb s.left hle)
    have hlb : ∀ y ∈ s.left, y < 256 := by
      intro y hy
      rw [hle] at hy
      exact hb y (List.mem_of_mem_take (List.mem_of_mem_drop hy))
    have hmn : most.toNat < 9223372036854775808 := by omega
    obtain ⟨M, hM⟩ : ∃ M : Nat, most.toNat = M := ⟨_, rfl⟩
    have hw0 : (if most < 0 then (0 : Int) else most) = (M : Int) := by rw [← hM]; split <;> omega
    cases hrd : readNum 0 0 s.left with
    | inl cd =>
      have hr : rText s most = (rF cd, []) := by unfold rText; rw [if_neg (by omega), hrd]
      have HC : Hid (cd ≠ 0) := by rcases readNum_code _ _ _ hrd with rfl | rfl <;> simp [Hid]
      have hcd : ((cd : Int) != 0) = true := by have := unhide HC; rw [bne_iff_ne]; omega
      have HRD := hide hrd
      rw [hr]
      clear h h1 g hm hx hl hat hxl hle hb
      clear hr hrd hf hlb hM hw0
      by_cases hs0 : most < 0
      · have t1 : (most < 0) = True := by simpa using hs0
        clear hs0
        go_enter Try.func35, Try.ntmps35
        go_wp2_with (first | (go_at_call 50; refine (unhide HD).mono ?_; rintro e w1 ⟨rfl, rfl⟩) | (go_at_call 52; refine (unhide HN).mono ?_; rintro e w1 ⟨-, hq, hk⟩; obtain ⟨rfl, at2, hq⟩ := hq _ (unhide HRD); have HQ := hide hq; have HK := hide hk; obtain ⟨d0, d1, d2, d3⟩ := blk4 hq.blk; clear hq hk HN))
        go_ret
        exact ⟨NewB.nil _ _, QsQ.err (unhide HC) (unhide HQ) (unhide HBy) (unhide HK)⟩
      · have t1 : (most < 0) = False := by simpa using hs0
        clear hs0
        go_enter Try.func35, Try.ntmps35
        go_wp2_with (first | (go_at_call 50; refine (unhide HD).mono ?_; rintro e w1 ⟨rfl, rfl⟩) | (go_at_call 52; refine (unhide HN).mono ?_; rintro e w1 ⟨-, hq, hk⟩; obtain ⟨rfl, at2, hq⟩ := hq _ (unhide HRD); have HQ := hide hq; have HK := hide hk; obtain ⟨d0, d1, d2, d3⟩ := blk4 hq.blk; clear hq hk HN))
        go_ret
        exact ⟨NewB.nil _ _, QsQ.err (unhide HC) (unhide HQ) (unhide HBy) (unhide HK)⟩
    | inr p =>
      obtain ⟨n, r⟩ := p
      have hn := (readNum_lt _ 0 0 (by omega) (by simp) hlb hrd)
      have hn64 : n < 18446744073709551616 := by omega
      have HRD := hide hrd
      by_cases hbig : M < n
      · have hr : rText s most = (rF 11, []) := by unfold rText; rw [if_neg (by omega), hrd]; simp only; rw [hM, if_pos hbig]
        rw [hr]
        clear h h1 g hm hx hl hat hxl hle hb
        clear hr hrd hf hlb hn
        by_cases hs0 : most < 0
        · have t1 : (most < 0) = True := by simpa using hs0
          obtain rfl : M = 0 := by omega
          have t2 : ((0 : Int) < (n : Int)) = True := by simp; omega
          clear hs0 hM hw0
          go_enter Try.func35, Try.ntmps35
          go_wp2_with (first | (go_at_call 50; refine (unhide HD).mono ?_; rintro e w1 ⟨rfl, rfl⟩) | (go_at_call 52; refine (unhide HN).mono ?_; rintro e w1 ⟨hq, -, hk⟩; obtain ⟨rfl, k, hkl, hrk, hq⟩ := hq _ _ (unhide HRD); have HQ := hide hq; have HK := hide hk; have HKL := hide hkl; have HRK := hide hrk; obtain ⟨d0, d1, d2, d3⟩ := blk4 hq.blk; have f3 := hq.blk.frozen 3; clear hq hk HN hkl hrk))
          go_ret
          obtain ⟨q1, q2⟩ := (unhide HQ).fail 11
          exact ⟨NewB.nil _ _, QsQ.err (by omega) q1 (unhide HBy) ((unhide HK).trans q2 (fun y hy => Or.inl hy))⟩
        · have t1 : (most < 0) = False := by simpa using hs0
          obtain ⟨mm, rfl⟩ := Int.eq_ofNat_of_zero_le (show 0 ≤ most by omega)
          obtain rfl : mm = M := by omega
          have t2 : ((mm : Int) < (n : Int)) = True := by simp; omega
          have t3 : ((mm : Int) < 0) = False := by simp
          have hw5 : IntKind.u64.wrap (mm : Int) = (mm : Int) := by rw [IntKind.wrap_u64]; omega
          clear hs0 hM hw0 t1
          go_enter Try.func35, Try.ntmps35
          go_wp2_with (first | (go_at_call 50; refine (unhide HD).mono ?_; rintro e w1 ⟨rfl, rfl⟩) | (go_at_call 52; refine (unhide HN).mono ?_; rintro e w1 ⟨hq, -, hk⟩; obtain ⟨rfl, k, hkl, hrk, hq⟩ := hq _ _ (unhide HRD); have HQ := hide hq; have HK := hide hk; have HKL := hide hkl; have HRK := hide hrk; obtain ⟨d0, d1, d2, d3⟩ := blk4 hq.blk; have f3 := hq.blk.frozen 3; clear hq hk HN hkl hrk))
          go_ret
          obtain ⟨q1, q2⟩ := (unhide HQ).fail 11
          exact ⟨NewB.nil _ _, QsQ.err (by omega) q1 (unhide HBy) ((unhide HK).trans q2 (fun y hy => Or.inl hy))⟩
      · have hwn : IntKind.i64.wrap (n : Int) = (n : Int) := by rw [IntKind.wrap_i64]; omega
        have HPS := hide hxl
        have HAT := hide hat
        have HM := hide hm
        have HX := hide hx
        by_cases hsh : r.length < n
        · have hr : rText s most = (rF 10, []) := by unfold rText; rw [if_neg (by omega), hrd]; simp only; rw [hM, if_neg hbig, if_pos hsh]
          rw [hr]
          have HLL := hide hl
          have HSH := hide hsh
          clear h h1 g hm hx hl hat hxl hle hb
          clear hr hrd hf hlb hn
          by_cases hs0 : most < 0
          · exfalso; omega
          · obtain ⟨mm, rfl⟩ := Int.eq_ofNat_of_zero_le (show 0 ≤ most by omega)
            obtain rfl : mm = M := by omega
            have t2 : ((mm : Int) < (n : Int)) = False := by simp; omega
            have t3 : ((mm : Int) < 0) = False := by simp
            have hw5 : IntKind.u64.wrap (mm : Int) = (mm : Int) := by rw [IntKind.wrap_u64]; omega
            clear hs0 hM hw0
            go_enter Try.func35, Try.ntmps35
            go_wp2_with (first | (go_at_call 50; refine (unhide HD).mono ?_; rintro e w1 ⟨rfl, rfl⟩) | (go_at_call 52; refine (unhide HN).mono ?_; rintro e w1 ⟨hq, -, hk⟩; obtain ⟨rfl, k, hkl, hrk, hq⟩ := hq _ _ (unhide HRD); have HQ := hide hq; have HK := hide hk; have HKL := hide hkl; have HRK := hide hrk; obtain ⟨d0, d1, d2, d3⟩ := blk4 hq.blk; have f3 := hq.blk.frozen 3; clear hq hk HN hkl hrk) | (go_at_call 51; refine (qbytes_short (unhide HQ) _ x (unhide HM) (unhide HX) (n : Int) (by have h1 := unhide HLL; have h2 := unhide HSH; have h3 := unhide HKL; have h4 := congrArg List.length (unhide HRK); simp only [List.length_drop] at h4; omega)).mono ?_; rintro e w3 ⟨rfl, hq, hk⟩; have HQ3 := hide hq; have HK3 := hide hk; clear hq hk))
            go_ret
            exact ⟨NewB.nil _ _, QsQ.err (by omega) (unhide HQ3) (unhide HBy) ((unhide HK).trans (unhide HK3) (fun y hy => Or.inl hy))⟩
        · have hr : rText s most = (⟨0, r.drop n, s.behind⟩, r.take n) := by unfold rText; rw [if_neg (by omega), hrd]; simp only; rw [hM, if_neg hbig, if_neg hsh]
          rw [hr]
          have HLL := hide hl
          have HSH := hide hsh
          have HTL : Hid ((r.take n).length = n) := by unfold Hid; simp; omega
          clear h h1 g hm hx hl hat hxl hle hb
          clear hr hrd hf hlb hn
          by_cases hs0 : most < 0
          · have t1 : (most < 0) = True := by simpa using hs0
            obtain rfl : M = 0 := by omega
            obtain rfl : n = 0 := by omega
            clear hs0 hM hw0
            go_enter Try.func35, Try.ntmps35
            go_wp2_with (first | (go_at_call 50; refine (unhide HD).mono ?_; rintro e w1 ⟨rfl, rfl⟩) | (go_at_call 52; refine (unhide HN).mono ?_; rintro e w1 ⟨hq, -, hk⟩; obtain ⟨rfl, k, hkl, hrk, hq⟩ := hq _ _ (unhide HRD); have HQ := hide hq; have HK := hide hk; have HKL := hide hkl; have HRK := hide hrk; obtain ⟨d0, d1, d2, d3⟩ := blk4 hq.blk; have f3 := hq.blk.frozen 3; clear hq hk HN hkl hrk) | (go_at_call 51; refine (qbytes_ok (unhide HQ) _ x (unhide HM) (unhide HX) 0 (by have h1 := unhide HLL; have h2 := unhide HKL; have h5 := unhide HAT; omega)).mono ?_; rintro e w3 ⟨a3, cap3, rfl, ho, hq, hk⟩; have HO3 := hide ho; have HQ3 := hide hq; have HK3 := hide hk; clear ho hq hk))
            go_ret
            refine ⟨⟨a3, cap3, rfl, own_base (unhide HO3) (fun q hq => by have := ((unhide HO3).lt q hq).1; have := (unhide HK).size; omega)⟩, QsQ.ok (unhide HQ3) (unhide HBy) ?_ ((unhide HK).trans (unhide HK3) (fun y hy => Or.inl hy))⟩
            rw [List.drop_zero, unhide HRK]
            exact (unhide HG).go _ (unhide HKL)
          · obtain ⟨mm, rfl⟩ := Int.eq_ofNat_of_zero_le (show 0 ≤ most by omega)
            obtain rfl : mm = M := by omega
            have t2 : ((mm : Int) < (n : Int)) = False := by simp; omega
            have t3 : ((mm : Int) < 0) = False := by simp
            have hw5 : IntKind.u64.wrap (mm : Int) = (mm : Int) := by rw [IntKind.wrap_u64]; omega
            clear hs0 hM hw0
            go_enter Try.func35, Try.ntmps35
            go_wp2_with (first | (go_at_call 50; refine (unhide HD).mono ?_; rintro e w1 ⟨rfl, rfl⟩) | (go_at_call 52; refine (unhide HN).mono ?_; rintro e w1 ⟨hq, -, hk⟩; obtain ⟨rfl, k, hkl, hrk, hq⟩ := hq _ _ (unhide HRD); have HQ := hide hq; have HK := hide hk; have HKL := hide hkl; have HRK := hide hrk; obtain ⟨d0, d1, d2, d3⟩ := blk4 hq.blk; have f3 := hq.blk.frozen 3; clear hq hk HN hkl hrk) | (go_at_call 51; refine (qbytes_ok (unhide HQ) _ x (unhide HM) (unhide HX) n (by have h5 := unhide HAT; have h1 := unhide HLL; have h2 := unhide HSH; have h3 := unhide HKL; have h4 := congrArg List.length (unhide HRK); simp only [List.length_drop] at h4; omega)).mono ?_; rintro e w3 ⟨a3, cap3, rfl, ho, hq, hk⟩; have HO3 := hide ho; have HQ3 := hide hq; have HK3 := hide hk; clear ho hq hk))
            go_ret
            have gk := (unhide HG).go _ (unhide HKL)
            rw [← unhide HRK] at gk
            have hnl : n ≤ r.length := by have := unhide HSH; omega
            refine ⟨⟨a3, cap3, ?_, ?_⟩, QsQ.ok (unhide HQ3) (unhide HBy) (gk.go n hnl) ((unhide HK).trans (unhide HK3) (fun y hy => Or.inl hy))⟩
            · show Ending.returned (.slice a3 n cap3) = .returned (.slice a3 (r.take n).length cap3)
              rw [unhide HTL]
            · show w3.ownsRow w.heap.size 5 1 (.slice a3 (r.take n).length cap3) (r.take n).length (u8s (r.take n))
              rw [unhide HTL]
              have ho := unhide HO3
              rw [gk.take n hnl] at ho
              exact own_base ho (fun q hq => by have := (ho.lt q hq).1; have := (unhide HK).size; omega)
  · have HD := hide (h.dead hf)
    have HH := hide h
    have hr : rText s most = (s, []) := by unfold rText; rw [if_pos hf]
    rw [hr]
    clear hr h hf
    go_enter Try.func35, Try.ntmps35
    go_wp2_with (first | (go_at_call 50; refine (unhide HD).mono ?_; rintro e w1 ⟨rfl, rfl⟩))
    go_ret
    exact ⟨NewB.nil _ _, QsQ.same (unhide HH) (Kept.refl _ _)⟩


end Go.Proofs.Ytocmgfmfalaebaa
